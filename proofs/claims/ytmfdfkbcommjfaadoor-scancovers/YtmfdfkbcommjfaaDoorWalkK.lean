/-
  quoted of the reader, walked: a string.
-/
import Derived.Test.YtmfdfkbcommjfaaDoorRunes
import Derived.Test.YtmfdfkbcommjfaaDoorWalkJ
import Derived.Test.YtmfdfkbcommjfaaDoorWalkG
import Derived.WalkMore
namespace Go.Proofs.YtmfdfkbcommjfaaDoor
open Go.RowKit
attribute [local go_sem ↓] Go.wp_at_zero Go.wp_at_succ
/-- what quoted does -/
def QP (w : World) (base R : Nat) (S : ByteArray) (s : St) (p : Nat) (V : Except Nat (Nat × List UInt8)) (e : Ending) (w' : World) : Prop :=
  match V with
  | .ok (n, x) => AddP w base R S (stp p s (.tok 3 n x)) (.int .i64 ((p + n : Nat) : Int)) e w'
  | .error o => PanP w base (p + o) e w'
theorem QP.ok {w : World} {base R : Nat} {S : ByteArray} {s : St} {p n : Nat} {V : Except Nat (Nat × List UInt8)} {x : List UInt8} {e : Ending} {w' : World} (hV : .ok (n, x) = V) (h : AddP w base R S (stp p s (.tok 3 n x)) (.int .i64 ((p + n : Nat) : Int)) e w') : QP w base R S s p V e w' := by subst hV; exact h
theorem QP.bad {w : World} {base R : Nat} {S : ByteArray} {s : St} {p o : Nat} {V : Except Nat (Nat × List UInt8)} {e : Ending} {w' : World} (hV : .error o = V) (h : PanP w base (p + o) e w') : QP w base R S s p V e w' := by subst hV; exact h
theorem Rd.open1 {w : World} {base R : Nat} {S : ByteArray} {s : St} (h : Rd w base R S s) : ∃ tv, w.cell? ⟨R, 1, none⟩ = some tv ∧ w.frozen? ⟨R, 1, none⟩ = false ∧ tv.ownBlock ≠ some R ∧ w.ownsRow base 38 4 tv s.toks.length (flT s.toks) ∧
    (∀ {W w1 : World} {g cap : Nat} {t : Tk}, Below w.heap.size w W → W.grownBy w1 tv.ownBlock → w1.ownsRow base 38 4 (.slice (some ⟨g, 0, none⟩) (s.toks.length + 1) cap) (s.toks.length + 1) (flT s.toks ++ tkC t) →
      Rd (w1.setCell ⟨R, 1, none⟩ (.slice (some ⟨g, 0, none⟩) (s.toks.length + 1) cap)) base R S ⟨s.toks ++ [t], s.rems⟩ ∧ Below base w (w1.setCell ⟨R, 1, none⟩ (.slice (some ⟨g, 0, none⟩) (s.toks.length + 1) cap)) ∧ Oth R w (w1.setCell ⟨R, 1, none⟩ (.slice (some ⟨g, 0, none⟩) (s.toks.length + 1) cap))) := by
  obtain ⟨hle, tv, rv, hR, ht, hr⟩ := h
  exact ⟨tv, by simp [World.cell?, hR], by simp [World.frozen?, hR], own_ne ht hR (by decide), ht, fun hb hg ho => rd_tok hle hR ht hr hb hg ho⟩
/-- the loop of quoted: at place pos of the text T, acc said so far -/
structure QR (w : World) (T : ByteArray) (V : Except Nat (Nat × List UInt8)) (u : Value) (wr : World) : Prop where
  ex : ∃ (pos : Nat) (acc : List UInt8) (esc : Bool), u = .bool esc ∧ Lib.IsBuilderF 52 5 w.heap.size w.heap.size (Lib.byteCells acc) wr ∧ wr.heap[w.heap.size + 1]? = some (.stringIter T pos) ∧ Below w.heap.size w wr ∧ pos ≤ T.size ∧ acc.length ≤ 4 * pos ∧
    strL (T.data.toList.drop pos) esc (pos + 1) acc = V ∧ Vs T pos ∧ (esc = true → ∃ h : pos < T.size, (T[pos]'h).toNat < 128)
theorem str_cons {T : ByteArray} {pos : Nat} (h : pos < T.size) (esc : Bool) (k : Nat) (acc : List UInt8) : strL (T.data.toList.drop pos) esc k acc = strL (T[pos]'h :: T.data.toList.drop (pos + 1)) esc k acc := by rw [drop_cons T pos h]
theorem str_end {T : ByteArray} {pos : Nat} (h : ¬ pos < T.size) (esc : Bool) (k : Nat) (acc : List UInt8) : strL (T.data.toList.drop pos) esc k acc = .error 0 := by
  rw [List.drop_of_length_le (by rw [bal]; omega)]; cases esc <;> rfl
theorem str_esc {T : ByteArray} {pos : Nat} (h : pos < T.size) (k : Nat) (acc : List UInt8) : strL (T.data.toList.drop pos) true k acc = strL (T.data.toList.drop (pos + 1)) false (k + 1) acc := by rw [str_cons h]; rfl
theorem str_nl {T : ByteArray} {pos : Nat} (h : pos < T.size) (hb : T[pos]'h = 10) (k : Nat) (acc : List UInt8) : strL (T.data.toList.drop pos) false k acc = .error 0 := by rw [str_cons h, hb]; rfl
theorem str_q {T : ByteArray} {pos : Nat} (h : pos < T.size) (hb : T[pos]'h = 34) (k : Nat) (acc : List UInt8) : strL (T.data.toList.drop pos) false k acc = .ok (k + 1, acc) := by rw [str_cons h, hb]; rfl
theorem str_bs {T : ByteArray} {pos : Nat} (h : pos < T.size) (hb : T[pos]'h = 92) (k : Nat) (acc : List UInt8) : strL (T.data.toList.drop pos) false k acc = (match (T.data.toList.drop (pos + 1)).head?.bind escOf with | some e => strL (T.data.toList.drop (pos + 1)) true (k + 1) (acc ++ [e]) | none => .error k) := by rw [str_cons h, hb]; rfl
theorem str_rune {T : ByteArray} {pos : Nat} (h : pos < T.size) (hv : Vs T pos) (h1 : T[pos]'h ≠ 92) (h2 : T[pos]'h ≠ 34) (h3 : T[pos]'h ≠ 10) (k : Nat) (acc : List UInt8) : strL (T.data.toList.drop pos) false k acc = strL (T.data.toList.drop (pos + (Utf8.decode T pos).2)) false (k + (Utf8.decode T pos).2) (acc ++ Lib.encodeRune ((Utf8.decode T pos).1 : Int)) := by
  by_cases ha : (T[pos]'h).toNat < 128
  · rw [hv.enc h, decode_ascii T pos h ha, str_cons h, strL, if_neg h1, if_neg h2, if_neg h3, drop_cons T pos h]
    rfl
  · rw [strL_high _ (Utf8.decode T pos).2 k acc (high_bytes h (by omega)) (by have := (dec_span T pos h (by omega)).1; rw [List.length_drop, bal]; omega), List.drop_drop, hv.enc h]
theorem head_drop {T : ByteArray} {pos : Nat} : (T.data.toList.drop pos).head? = if h : pos < T.size then some (T[pos]'h) else none := by
  by_cases h : pos < T.size
  · rw [dif_pos h, drop_cons T pos h]; rfl
  · rw [dif_neg h, List.drop_of_length_le (by rw [bal]; omega)]; rfl
theorem sub_get (S : ByteArray) (q i : Nat) (h : i < (S.extract q S.size).size) (h2 : q + i < S.size) : (S.extract q S.size)[i]'h = S[q + i]'h2 := by
  have e1 := bget (S.extract q S.size) i h
  have e2 := bget S (q + i) h2
  rw [ext_drop, List.getElem?_drop, e2] at e1
  exact (Option.some.inj e1).symm
theorem width_le (s : ByteArray) (pos : Nat) (h : pos < s.size) : pos + (Utf8.decode s pos).2 ≤ s.size := by
  by_cases ha : (s[pos]'h).toNat < 128
  · rw [decode_ascii s pos h ha]; exact h
  · exact (dec_span s pos h (by omega)).1
theorem oth_of_kept {R : Nat} {w W W' : World} {b : Nat} (h : Lib.OthersKept 5 (some b) W W') (hw : Oth R w W) (hb : w.heap.size ≤ b) : Oth R w W' := fun k o hk hkR ho => by
  have hlt := (Array.getElem?_eq_some_iff.1 hk).1
  exact h k o (hw k o hk hkR ho) (fun e => by have := Option.some.inj e; omega) (fun c fz e => (ho c 5 fz e).2.2 rfl)
theorem z_yes {b : UInt8} {n : Nat} (hn : n < 256) (h : b = UInt8.ofNat n) : ((b.toNat : Int) == (n : Int)) = true := by rw [u8z b n hn]; exact decide_eq_true h
theorem z_no {b : UInt8} {n : Nat} (hn : n < 256) (h : b ≠ UInt8.ofNat n) : ((b.toNat : Int) == (n : Int)) = false := by rw [u8z b n hn]; exact decide_eq_false h
theorem rune_ne {T : ByteArray} {pos n : Nat} (h : pos < T.size) (hn : n < 128) (hb : T[pos]'h ≠ UInt8.ofNat n) : ((((Utf8.decode T pos).1 : Nat) : Int) == (n : Int)) = false := by
  by_cases ha : (T[pos]'h).toNat < 128
  · rw [decode_ascii T pos h ha]; exact z_no (by omega) hb
  · have := (decode_high T pos h (by omega)).1
    rw [Bool.eq_false_iff]; intro q; have := eq_of_beq q; omega
set_option maxRecDepth 100000 in
set_option maxHeartbeats 4000000 in
theorem quoted_any (w : World) (base R : Nat) (S : ByteArray) (s : St) (h : Rd w base R S s) (p : Nat) (hp : p + 1 ≤ S.size) (hS : S.size ≤ 65536) (hl : s.toks.length ≤ 1000000) (hv : Vs S (p + 1)) :
    Calls Tryd.prog 57 #[.pointer (some ⟨R, 0, none⟩), .int .i64 p] w (QP w base R S s p (strL (S.data.toList.drop (p + 1)) false 1 [])) := by
  have c0 := h.cell0
  have hlt := h.lt
  have hle := h.le
  have z1 : (0 : Int) ≤ (p : Int) + 1 := by omega
  have z2 : (p : Int) + 1 ≤ (S.size : Int) := by omega
  have z3 : ((p : Int) + 1).toNat = p + 1 := by omega
  have hTz : (S.extract (p + 1) S.size).size = S.size - (p + 1) := by simp
  have hget := fun i h h2 => sub_get S (p + 1) i h h2
  have hv0 : Vs (S.extract (p + 1) S.size) 0 := by unfold Vs at hv ⊢; rw [ext_drop]; exact hv
  rw [← ext_drop]
  generalize hT : S.extract (p + 1) S.size = T at *
  obtain ⟨V, hV⟩ : ∃ V, strL T.data.toList false 1 [] = V := ⟨_, rfl⟩
  rw [hV]
  have HV : Hid (strL T.data.toList false 1 [] = V) := hV
  have HGet : Hid (∀ (i : Nat) (h : i < T.size) (h2 : p + 1 + i < S.size), T[i]'h = S[p + 1 + i]'h2) := hget
  have HH : Hid (Rd w base R S s) := h
  have HV0 : Hid (Vs T 0) := hv0
  obtain ⟨tv, c1, f1, hne, hown, hput⟩ := h.open1
  have HO : Hid (w.ownsRow base 38 4 tv s.toks.length (flT s.toks)) := hown
  have HPut : Hid _ := @hput
  obtain ⟨i38, i1, i2, i3, i4⟩ := info38_ex
  have HI38 : Hid (Tryd.prog.info? 38 = some i38 ∧ i38.zero = some (.agg #[.int .i64 0, .int .i64 0, .int .i64 0, .string ⟨#[]⟩]) ∧ i38.size = 4 ∧ i38.bytes = 40) := ⟨i1, i2, i3, i4⟩
  clear hV hv h hget hv0 hown hput i1 i2 i3 i4
  go_enter Tryd.func57, Tryd.ntmps57
  go_wp2_with fail
  go_step3
  go_wp2_with fail
  go_step3
  go_wp2_with fail
  go_loopw [6] (fun u wr => QR w T V u wr) (fun _ wr => T.size - wr.iterPos (w.heap.size + 1))
  case atStart =>
    refine ⟨0, [], false, rfl, (Lib.IsBuilderF.of (Lib.fresh_isBuilder 52 5 w)).alloc _, ?_, ((Below.refl _ w).alloc (Nat.le_refl _) _).alloc (by simp) _, by omega, by simp, HV.out, HV0.out, fun h => by cases h⟩
    have := World.iter_heap (w.alloc (.cells #[.pointer none, .slice none 0 0] 52)) T 0
    simpa using this
  case round =>
    obtain ⟨pos, acc, esc, rfl, hI, hit, hbw, hpos, hacc, hV, hvs, hesc⟩ := hrel.ex
    clear hrel
    have HVV : Hid (strL (T.data.toList.drop pos) esc (pos + 1) acc = V) := hV
    have HVS : Hid (Vs T pos) := hvs
    have HBW : Hid (Below w.heap.size w wr) := hbw
    have HI : Hid (Lib.IsBuilderF 52 5 w.heap.size w.heap.size (Lib.byteCells acc) wr) := hI
    have HIT : Hid (wr.heap[w.heap.size + 1]? = some (.stringIter T pos)) := hit
    have hsz : w.heap.size + 1 < wr.heap.size := (Array.getElem?_eq_some_iff.1 hit).1
    by_cases hlt2 : pos < T.size
    · have hnx : ∀ ty, (Instr.next (.pointer (some ⟨w.heap.size + 1, 0, none⟩)) true ty).run Tryd.prog wr = _ := fun ty => Lib.run_next_any_at wr (w.heap.size + 1) T pos ty hit hlt2
      have hwd := width_pos T pos hlt2
      have hwl := width_le T pos hlt2
      have HI2 : Hid (Lib.IsBuilderF 52 5 w.heap.size w.heap.size (Lib.byteCells acc) (wr.iterAt (w.heap.size + 1) T (pos + (Utf8.decode T pos).2))) := hI.iterAt hit (pos + (Utf8.decode T pos).2)
      have HIT2 : Hid ((wr.iterAt (w.heap.size + 1) T (pos + (Utf8.decode T pos).2)).heap[w.heap.size + 1]? = some (.stringIter T (pos + (Utf8.decode T pos).2))) := Lib.iterAt_heap wr (w.heap.size + 1) T pos (pos + (Utf8.decode T pos).2) hit
      have HB2 : Hid (Below w.heap.size w (wr.iterAt (w.heap.size + 1) T (pos + (Utf8.decode T pos).2))) := Lib.below_iterAt hbw (k := w.heap.size + 1) (by omega) T (pos + (Utf8.decode T pos).2)
      have hsz2 : w.heap.size ≤ (wr.iterAt (w.heap.size + 1) T (pos + (Utf8.decode T pos).2)).heap.size := by rw [Lib.iterAt_size]; omega
      have HNV : Hid (Vs T (pos + (Utf8.decode T pos).2)) := hvs.step hlt2
      have HD1 : Hid ((Utf8.decode T pos).1 ≤ 2147483647) := decode_le T pos
      clear hit hI hbw hV hvs
      generalize hW2 : wr.iterAt (w.heap.size + 1) T (pos + (Utf8.decode T pos).2) = W2 at *
      clear hW2
      cases esc with
      | true =>
        obtain ⟨_, ha⟩ := hesc rfl
        have HE : Hid (strL (T.data.toList.drop (pos + 1)) false (pos + 1 + 1) acc = V) := (str_esc hlt2 (pos + 1) acc).symm.trans HVV.out
        rw [decode_ascii T pos hlt2 ha] at hnx HIT2 HNV
        simp only at hnx HIT2 HNV
        clear hesc
        go_wp2_with fail
        go_roundw
        case rel => exact ⟨pos + 1, acc, false, rfl, HI2.out, HIT2.out, HB2.out, hlt2, by omega, HE.out, HNV.out, fun h => by cases h⟩
        case measure =>
          simp only [World.iterPos, HIT2.out, HIT.out]
          omega
      | false =>
        clear hesc
        have c0' : W2.cell? ⟨R, 0, none⟩ = some (.string S) := by rw [HB2.out.cell hlt]; exact c0
        by_cases hb1 : T[pos]'hlt2 = 92
        · have HE := (str_bs hlt2 hb1 (pos + 1) acc).symm.trans HVV.out
          have ha : (T[pos]'hlt2).toNat < 128 := by rw [hb1]; decide
          rw [decode_ascii T pos hlt2 ha] at hnx HIT2 HNV
          rw [hb1] at hnx
          have e92 : ((92 : UInt8).toNat : Int) = 92 := rfl
          simp only [e92] at hnx HIT2 HNV
          clear hb1 ha e92
          have ecast : ((p + 1 + pos : Nat) : Int) = (p : Int) + 1 + (pos : Int) := by omega
          have hesc2 : ∀ h1 : p + 1 + pos + 1 < S.size, ∃ h2 : pos + 1 < T.size, T[pos + 1]'h2 = S[p + 1 + pos + 1]'h1 := fun h1 => ⟨by omega, HGet.out (pos + 1) (by omega) (by omega)⟩
          rw [head_drop] at HE
          by_cases hx : ∃ x, (if h : pos + 1 < T.size then some (T[pos + 1]'h) else none).bind escOf = some x
          · obtain ⟨x, hx⟩ := hx
            rw [hx] at HE
            have hq : pos + 1 < T.size := by
              by_cases hq : pos + 1 < T.size
              · exact hq
              · rw [dif_neg hq] at hx; cases hx
            rw [dif_pos hq, Option.bind_some] at hx
            have hx7 : (T[pos + 1]'hq).toNat < 128 := by
              rcases esc_index (T[pos + 1]'hq) with ⟨h', _⟩ | ⟨h', _⟩ | ⟨h', _⟩ | ⟨h', _⟩ | ⟨h', _⟩
              · rw [hx] at h'; cases h'
              all_goals (rw [h']; decide)
            have h64 := fun (W : World) (c : W.cell? ⟨R, 0, none⟩ = some (.string S)) (hl : R < W.heap.size) => esc_some W R S c hl (p + 1 + pos) (by omega) hS x (by rw [← (show T[pos + 1]'hq = S[p + 1 + pos + 1]'(by omega) from HGet.out (pos + 1) hq (by omega))]; exact hx)
            rw [ecast] at h64
            have HEE : Hid (strL (T.data.toList.drop (pos + 1)) true (pos + 1 + 1) (acc ++ [x]) = V) := HE
            have hbl : (Lib.byteCells acc).length = acc.length := Lib.byteCells_length acc
            have HQ : Hid (∃ h : pos + 1 < T.size, (T[pos + 1]'h).toNat < 128) := ⟨hq, hx7⟩
            clear HE hx hesc2 ecast hx7
            go_wp2_with (first
              | (go_at_call 64; refine (h64 _ c0' (by omega)).mono ?_; rintro e w5 ⟨rfl, hw5⟩; obtain rfl := hw5.symm)
              | (go_at_call 30; refine (Tryd.Builder_WriteByte_k w.heap.size w.heap.size _ _ _ HI2.out (by omega) hsz2).mono ?_; rintro e W3 ⟨rfl, h3, b3, k3⟩; have H3 : Hid (Lib.BuilderAtF 52 5 w.heap.size w.heap.size (.pointer (some ⟨w.heap.size, 0, none⟩)) (Lib.byteCells acc ++ [.int .u8 x.toNat]) W3) := h3; have B3 : Hid (Below w.heap.size W2 W3) := b3; have K3 : Hid (Lib.OthersKept 5 (some w.heap.size) W2 W3) := k3; clear h3 b3 k3))
            go_roundw
            case rel =>
              refine ⟨pos + 1, acc ++ [x], true, rfl, ?_, K3.out.iter HIT2.out (by omega), HB2.out.trans B3.out, by omega, by rw [List.length_append]; simp; omega, HEE.out, HNV.out, fun _ => HQ.out⟩
              rw [Lib.byteCells_append]; exact Or.inr H3.out
            case measure =>
              simp only [World.iterPos, K3.out.iter HIT2.out (by omega), HIT.out]
              omega
          · have hno : (if h : pos + 1 < T.size then some (T[pos + 1]'h) else none).bind escOf = none := by
              cases hc : (if h : pos + 1 < T.size then some (T[pos + 1]'h) else none).bind escOf with
              | none => rfl
              | some x => exact absurd ⟨x, hc⟩ hx
            rw [hno] at HE
            have h64 := fun (W : World) (c : W.cell? ⟨R, 0, none⟩ = some (.string S)) (hl : R < W.heap.size) => esc_none W base R S c hl hle (p + 1 + pos) (by omega) hS (fun h1 => by
              obtain ⟨h2, h3⟩ := hesc2 h1
              rw [dif_pos h2, Option.bind_some] at hno
              rw [← h3]; exact hno)
            rw [ecast] at h64
            have HEE : Hid (.error (pos + 1) = V) := HE
            have HEC : Hid (((p + 1 + pos : Nat) : Int) = (p : Int) + 1 + (pos : Int)) := ecast
            clear HE hx hno hesc2 ecast
            go_wp2_with (go_at_call 64; refine (h64 _ c0' (by omega)).mono ?_; intro e w5 h5; obtain rfl := h5.pan; have H5 : Hid _ := h5.bl; clear h5)
            refine ⟨rfl, QP.bad HEE.out ⟨?_, (HB2.out.mono (by omega)).trans H5.out⟩⟩
            rw [show p + (pos + 1) = p + 1 + pos by omega, HEC.out]
        · by_cases hb2 : T[pos]'hlt2 = 34
          · have HE : Hid (.ok (pos + 1 + 1, acc) = V) := (str_q hlt2 hb2 (pos + 1) acc).symm.trans HVV.out
            have ha : (T[pos]'hlt2).toNat < 128 := by rw [hb2]; decide
            rw [decode_ascii T pos hlt2 ha, hb2] at hnx
            clear hb1 hb2
            have e34 : ((34 : UInt8).toNat : Int) = 34 := rfl
            simp only [e34] at hnx
            have c1' : W2.cell? ⟨R, 1, none⟩ = some tv := by rw [HB2.out.cell hlt]; exact c1
            have f1' : W2.frozen? ⟨R, 1, none⟩ = false := by rw [HB2.out.frozen hlt]; exact f1
            have hlt3 : R < W2.heap.size := by omega
            have ecast : ((p + (pos + 1 + 1) : Nat) : Int) = (p : Int) + 1 + (pos : Int) + 1 := by omega
            have HEC : Hid (((p + (pos + 1 + 1) : Nat) : Int) = (p : Int) + 1 + (pos : Int) + 1) := ecast
            clear ecast
            go_wp2_with fail
            have zw : IntKind.i64.wrap ((p : Int) + 1 + (pos : Int) + 1) = (p : Int) + 1 + (pos : Int) + 1 := wrap_small _ (by omega) (by omega)
            go_region_law
              (first
                | (refine step_append_lies _ (by rfl) _ _ _ (by rfl) base 38 i38 _ 4 40 Tryd.underlying23 HI38.out.1 HI38.out.2.1 HI38.out.2.2.1 HI38.out.2.2.2 rfl (by omega) tv s.toks.length (flT s.toks) (by rfl) ((HO.out.below HB3.out).alloc _) ⟨W3.heap.size, 0, none⟩ 1 1 [.int .i64 3, .int .i64 p, .int .i64 ((p : Int) + 1 + (pos : Int) + 1), .string ⟨acc.toArray⟩] (by rfl) (by rfl) (World.news_of_block (heap_alloc_new W3 _)) (by simp [Value.oneCell']) (by omega) (by unfold maxLen; omega) (by omega) (by simp; omega) (W3.heap.size + 1) (by simp) ?_; intro gg cap w4 hown1 hgrow hat hlt1; have HO1 : Hid _ := hown1; have HG1 : Hid _ := hgrow; have k1 : w4.cell? ⟨R, 1, none⟩ = some tv := (by rw [hgrow.cell_far ⟨R, 1, none⟩ (by simp; omega) (Ne.symm hne), World.cell?_alloc_lt _ _ _ (by show R < W3.heap.size; omega)]; exact d1); have k2 : w4.frozen? ⟨R, 1, none⟩ = false := (by rw [hgrow.frozen_far ⟨R, 1, none⟩ (by simp; omega) (Ne.symm hne), World.frozen?_alloc_old _ _ _ (by show R ≠ W3.heap.size; omega)]; exact d2); clear hown1 hgrow hat)
                | (go_simp; go_wp2_with (go_at_call 32; refine (Tryd.Builder_String_any_k w.heap.size w.heap.size acc W2.drew HI2.out hsz2).mono ?_; rintro e W3 ⟨rfl, _, b3, _⟩; have HB3 : Hid (Below w.heap.size w W3) := HB2.out.drew.trans b3; have d1 : W3.cell? ⟨R, 1, none⟩ = some tv := (by rw [HB3.out.cell hlt]; exact c1); have d2 : W3.frozen? ⟨R, 1, none⟩ = false := (by rw [HB3.out.frozen hlt]; exact f1); have hz3 : w.heap.size ≤ W3.heap.size := HB3.out.size; have hr3 : R < W3.heap.size := (by omega); clear b3)))
            all_goals
              go_wp2_with fail
              rw [Exit.noGoto_ret]
              go_ret
              have q := HPut.out (t := ⟨3, p, p + (pos + 1 + 1), acc⟩) (HB3.out.alloc hz3 _) HG1.out (by simp only [tkC, HEC.out]; exact HO1.out)
              exact QP.ok HE.out ⟨by rw [HEC.out]; rfl, q.1, q.2.1, q.2.2⟩
          · by_cases hb3 : T[pos]'hlt2 = 10
            · have HE : Hid (.error 0 = V) := (str_nl hlt2 hb3 (pos + 1) acc).symm.trans HVV.out
              have ha : (T[pos]'hlt2).toNat < 128 := by rw [hb3]; decide
              rw [decode_ascii T pos hlt2 ha, hb3] at hnx
              clear hb1 hb2 hb3
              have e10 : ((10 : UInt8).toNat : Int) = 10 := rfl
              simp only [e10] at hnx
              go_wp2_with (go_at_call 62; refine (wrongAt_any _ _).mono ?_; rintro e w2 ⟨rfl, rfl⟩)
              exact ⟨rfl, QP.bad HE.out ⟨rfl, (HB2.out.alloc (by omega) _).mono (by omega)⟩⟩
            · have HE : Hid (strL (T.data.toList.drop (pos + (Utf8.decode T pos).2)) false (pos + 1 + (Utf8.decode T pos).2) (acc ++ Lib.encodeRune ((Utf8.decode T pos).1 : Int)) = V) := (str_rune hlt2 HVS.out hb1 hb2 hb3 (pos + 1) acc).symm.trans HVV.out
              have n1 : ((((Utf8.decode T pos).1 : Nat) : Int) == 92) = false := rune_ne hlt2 (n := 92) (by decide) hb1
              have n2 : ((((Utf8.decode T pos).1 : Nat) : Int) == 34) = false := rune_ne hlt2 (n := 34) (by decide) hb2
              have n3 : ((((Utf8.decode T pos).1 : Nat) : Int) == 10) = false := rune_ne hlt2 (n := 10) (by decide) hb3
              clear hb1 hb2 hb3
              generalize hD : Utf8.decode T pos = D at *
              obtain ⟨c, n⟩ := D
              clear hD
              simp only at *
              have hl4 := Lib.runeCells_le (c : Int)
              rw [Lib.runeCells_length] at hl4
              have hbl : (Lib.byteCells acc).length = acc.length := Lib.byteCells_length acc
              have HL4 : Hid (1 ≤ (Lib.encodeRune (c : Int)).length ∧ (Lib.encodeRune (c : Int)).length ≤ 4) := hl4
              clear hl4
              go_wp2_with (go_at_call 65; refine (Tryd.Builder_WriteRune_k w.heap.size w.heap.size _ _ (by have := HD1.out; omega) (by have := HD1.out; omega) _ HI2.out (by omega) hsz2).mono ?_; rintro e W3 ⟨rfl, h3, b3, k3⟩; have H3 : Hid (Lib.BuilderAtF 52 5 w.heap.size w.heap.size (.pointer (some ⟨w.heap.size, 0, none⟩)) (Lib.byteCells acc ++ Lib.runeCells (c : Int)) W3) := h3; have B3 : Hid (Below w.heap.size W2 W3) := b3; have K3 : Hid (Lib.OthersKept 5 (some w.heap.size) W2 W3) := k3; clear h3 b3 k3)
              go_roundw
              case rel =>
                refine ⟨pos + n, acc ++ Lib.encodeRune (c : Int), false, rfl, ?_, K3.out.iter HIT2.out (by omega), HB2.out.trans B3.out, hwl, ?_, ?_, HNV.out, fun h => by cases h⟩
                · rw [Lib.byteCells_append, Lib.byteCells_encodeRune]; exact Or.inr H3.out
                · have := HL4.out; rw [List.length_append]; omega
                · have := HE.out; rw [show pos + n + 1 = pos + 1 + n by omega]; exact this
              case measure =>
                simp only [World.iterPos, K3.out.iter HIT2.out (by omega), HIT.out]
                omega
    · have hnx : ∀ ty, (Instr.next (.pointer (some ⟨w.heap.size + 1, 0, none⟩)) true ty).run Tryd.prog wr = _ := fun ty => Lib.run_next_end_at wr (w.heap.size + 1) T pos ty hit hlt2
      have HE : Hid (.error 0 = V) := (str_end hlt2 esc (pos + 1) acc).symm.trans HVV.out
      clear hit hI hbw hV hvs hesc
      go_wp2_with (go_at_call 62; refine (wrongAt_any _ _).mono ?_; rintro e w2 ⟨rfl, rfl⟩)
      exact ⟨rfl, QP.bad HE.out ⟨rfl, (HBW.out.alloc (by omega) _).mono (by omega)⟩⟩
end Go.Proofs.YtmfdfkbcommjfaaDoor
