/-
  The contract of the document's own Text at every argument.
-/
import Derived.Test.YtfkkhabpnnealaaGreatDoorRefE
namespace Go.Proofs.YtfkkhabpnnealaaGreatDoor
open Go.RowKit
attribute [local go_sem ↓] Go.wp_at_zero Go.wp_at_succ
open Go.Sort (Holds putRow holds_putRow putRow_self putRow_set cell?_putRow_other)
theorem Tryz.info5 : (Tryz.prog.info? 5).map (fun i => (i.zero, i.size, i.bytes)) = some (some (.int .u8 0), 1, 1) := by kernel_rfl
/-- a byte -/
def eB (x : Nat) : Value := .int .u8 (x : Int)
def lenOf : Value → Nat
  | .slice _ n _ => n
  | _ => 0
theorem lenOf_row {w : World} {base e size n : Nat} {v : Value} {xs : List Value} (h : w.ownsRow base e size v n xs) : lenOf v = n := by
  rcases h.2 with ⟨rfl, rfl⟩ | ⟨g, cap, cur, rfl, _⟩ <;> rfl
/-- the digits so far, and what is left -/
structure DecR (N : Nat) (D : List Nat) (M : Nat) : Prop where
  wd : Wd 10 D
  form : M = 0 → Form 10 D
  eq : N = vl 10 D + 10 ^ D.length * M
theorem DecR.step {N : Nat} {D : List Nat} {M c q : Nat} (h : DecR N D M) (h0 : M ≠ 0) (he : q * 10 + c = M) (hc : c < 10) : DecR N (D ++ [c]) q := by
  refine ⟨Wd.append.2 ⟨h.wd, by simpa [Wd] using hc⟩, fun hq => Form.snoc h.wd hc (by omega), ?_⟩
  rw [h.eq, vl_append, ← he]
  simp only [vl, List.length_append, List.length_cons, List.length_nil, Nat.pow_succ, Nat.mul_zero, Nat.add_zero, Nat.zero_add]
  grind
theorem ten_ge (len k : Nat) (h : 10 * k ≤ len) : (10 ^ 10) ^ k ≤ 10 ^ len := by rw [← Nat.pow_mul]; exact Nat.pow_le_pow_right (by omega) h
theorem DecR.short {N : Nat} {D : List Nat} {M : Nat} (h : DecR N D M) (h0 : M ≠ 0) (hN : N < 4294967296 ^ 40) : D.length < 400 := by
  have h1 : 10 ^ D.length ≤ 10 ^ D.length * M := Nat.le_mul_of_pos_right _ (by omega)
  have h2 := h.eq
  rcases Nat.lt_or_ge D.length 400 with h3 | h3
  · exact h3
  · have h5 : (4294967296 : Nat) ^ 40 ≤ (10 ^ 10) ^ 40 := Nat.pow_le_pow_left (by decide) 40
    have h4 := ten_ge D.length 40 (by omega)
    have h6 := Nat.le_trans h5 h4
    clear h5 h4
    generalize 10 ^ D.length * M = Z at *
    generalize 10 ^ D.length = X at *
    generalize 4294967296 ^ 40 = Y at *
    omega
theorem grown_put (w : World) (b : Nat) (d : Array Nat) : w.grownBy (putRow eU w b 0 d) (some b) := ⟨rfl, rfl, rfl, by simp, fun k _ hne => by
  show (w.heap.modify b _)[k]? = w.heap[k]?
  rw [Array.getElem?_modify, if_neg (fun h => hne (by rw [h]))]⟩
theorem holds_grown {w w' : World} {row : Option Nat} {b off : Nat} {d : Array Nat} (h : Holds eU w b off d) (hg : w.grownBy w' row) (hb : b < w.heap.size) (hne : some b ≠ row) : Holds eU w' b off d := fun j hj => by
  have e := hg.block b hb hne
  rw [World.cell?_of_block (a := ⟨b, off + j, none⟩) e, World.frozen?_of_block (a := ⟨b, off + j, none⟩) e]
  exact h j hj
theorem Box.grown {w w' : World} {b : Nat} {c0 c1 : Value} {row : Option Nat} (h : Box w b c0 c1) (hg : w.grownBy w' row) (hne : some b ≠ row) : Box w' b c0 c1 := by
  have e := hg.block b h.lt hne
  exact ⟨Nat.lt_of_lt_of_le h.lt hg.size, (World.cell?_of_block (a := ⟨b, 0, none⟩) e).trans h.z0, (World.cell?_of_block (a := ⟨b, 1, none⟩) e).trans h.z1, (World.frozen?_of_block (a := ⟨b, 0, none⟩) e).trans h.f0, (World.frozen?_of_block (a := ⟨b, 1, none⟩) e).trans h.f1⟩
theorem row_below {w w' : World} {B base e size n : Nat} {v : Value} {xs : List Value} (h : w.ownsRow base e size v n xs) (hb : Below B w w') (hB : ∀ g, v.ownBlock = some g → g < B) : w'.ownsRow base e size v n xs := by
  refine ⟨h.1, ?_⟩
  rcases h.2 with hv | ⟨g, cap, cur, hv, h1, h2, h3⟩
  · exact .inl hv
  · exact .inr ⟨g, cap, cur, hv, h1, (hb.block g (hB g (by rw [hv]; rfl))).trans h2, h3⟩
theorem one8 (x : Int) : ∀ u ∈ [Value.int .u8 x], u.oneCell' = true := fun u hu => by
  rw [List.mem_singleton] at hu; rw [hu]; rfl
theorem row_put8 {w : World} {b n : Nat} {v : Value} {r : List Nat} {z : Int} {t : Nat} (h : w.ownsRow b 5 1 v n (r.map eB ++ [.int .u8 z])) (hz : z = (t : Int)) : w.ownsRow b 5 1 v n ((r ++ [t]).map eB) := by
  rw [List.map_append]
  rw [hz] at h
  exact h
theorem row_some {w : World} {base n : Nat} {v : Value} {xs : List Value} (h : w.ownsRow base 5 1 v n xs) (hn : 0 < n) : ∃ g cap, v = .slice (some ⟨g, 0, none⟩) n cap ∧ base ≤ g ∧ g < w.heap.size ∧ n ≤ cap ∧ cap ≤ maxLen ∧ ∀ j x, xs[j]? = some x → w.cell? ⟨g, j, none⟩ = some x := by
  rcases h.2 with ⟨_, rfl⟩ | ⟨g, cap, cur, rfl, h1, h2, h3, h4, _⟩
  · omega
  · refine ⟨g, cap, rfl, h1, ?_, h3, h4, fun j x hx => ?_⟩
    · rcases Nat.lt_or_ge g w.heap.size with h5 | h5
      · exact h5
      · rw [Array.getElem?_eq_none h5] at h2; cases h2
    · have hj : j < xs.length := (List.getElem?_eq_some_iff.1 hx).1
      rw [World.ownsRow.cellAt h j (by have := h.1; omega)]
      exact hx
theorem neg_txt (D : List Nat) : (⟨(List.map UInt8.ofNat (D.map (48 + ·) ++ [45])).reverse.toArray⟩ : ByteArray) = (if true = true then ⟨#[45]⟩ ++ txt D else txt D) := by
  rw [if_pos rfl]
  apply ByteArray.ext
  simp [txt, dch, Function.comp_def, List.map_reverse, ByteArray.data_append]
theorem byte_lt {D : List Nat} (h : Wd 10 D) : ∀ x ∈ D.map (48 + ·) ++ [45], x < 256 := fun x hx => by
  rcases List.mem_append.1 hx with h1 | h1
  · obtain ⟨y, hy, rfl⟩ := List.mem_map.1 h1
    have := h y hy
    omega
  · simp at h1; omega
theorem map_eB (L : List Nat) (j : Nat) (h : j < L.length) : (L.map eB)[j]? = some (.int .u8 (L.getD j 0 : Nat)) := by
  simp [eB, List.getD_eq_getElem?_getD, h]
theorem bytes_back {w : World} {g n cap : Nat} {L : List Nat} (h : ∀ j x, (L.reverse.map eB)[j]? = some x → w.cell? ⟨g, j, none⟩ = some x) (hb : ∀ x ∈ L, x < 256) (hn : n = L.length := by rfl) :
    (convert 79 9 (.slice (some ⟨g, 0, none⟩) n cap)).run Tryz.prog w = .ok (.string ⟨(L.reverse.map UInt8.ofNat).toArray⟩) w := by
  subst hn
  have hln : (L.reverse.map UInt8.ofNat).length = L.length := by simp
  have h2 := run_convert_bytes_back (P := Tryz.prog) w 79 9 5 ⟨g, 0, none⟩ cap (L.reverse.map UInt8.ofNat) Tryz.underlying79 Tryz.underlying5 Tryz.underlying9 (fun j hj => by
    rw [hln] at hj
    rw [Addr.add_lit, Nat.zero_add]
    have hj2 : j < L.reverse.length := by simpa using hj
    rw [h j (eB L.reverse[j]) (by simp [hj])]
    have hm : L.reverse[j] < 256 := hb _ (by have := List.getElem_mem hj2; rwa [List.mem_reverse] at this)
    simp only [List.getElem_map, eB, UInt8.toNat_ofNat']
    rw [Nat.mod_eq_of_lt hm])
  rw [hln] at h2
  exact h2
set_option maxHeartbeats 8000000 in
set_option maxRecDepth 100000 in
theorem rtext_pos (s : Bool) (ao : Option Addr) (n cap : Nat) (l : List Nat) (w : World) (hl : Sl w ao n cap l) (hz : ao = none → cap = 0) (hn : n ≤ 40) (h0 : 0 < tk l) :
    Calls Tryz.prog 33 #[.agg #[.bool s, .slice ao n cap]] w fun e w' => ∃ t, e = .returned (.string t) ∧ decT s (vl 4294967296 l) t ∧ Below w.heap.size w w' := by
  have HL : Hid (Sl w ao n cap l) := hl
  have HZ : Hid (ao = none → cap = 0) := hz
  have K1 := tk_le hl
  have HN : Hid (vl 4294967296 l < 4294967296 ^ 40) := by
    have h1 := vl_lt 4294967296 l hl.wd
    have h2 := Nat.pow_le_pow_right (n := 4294967296) (by omega) (show l.length ≤ 40 by rw [hl.len]; exact hn)
    show _ < _
    omega
  have HP : Hid (vl 4294967296 l ≠ 0) := fun h => by have := tk_zero hl.wd h; omega
  clear hl hz
  obtain ⟨i0, hi, hz0, hz1, hz2⟩ := info_parts Tryz.info5
  go_enter Tryz.func33, Tryz.ntmps33
  go_wp2_with fail
  generalize hW : (World.alloc _ _) = W
  obtain ⟨x1, hb0, hs0⟩ := boxes1 w (.bool s) (.slice ao n cap) 24 hW
  have X1 : Hid (Box W w.heap.size (.bool s) (.slice ao n cap)) := x1
  have HB : Hid (Below w.heap.size w W) := hb0
  have HS : Hid (w.heap.size + 1 ≤ W.heap.size) := Nat.le_of_eq hs0.symm
  clear hW x1 hb0 hs0
  refine (rtrim_any ao n cap l _ (HL.out.below HB.out (Nat.le_refl _)) HZ.out (by omega)).mono ?_
  rintro e V1 ⟨a1, c1, rfl, ho, hnc, hb⟩
  have O1 : Hid (Own V1 (w.heap.size + 1) a1 (tk l) c1 (l.take (tk l))) := ho.mono HS.out
  have N1 : Hid (a1 = none → c1 = 0) := hnc
  have X1 : Hid (Box V1 w.heap.size (.bool s) (.slice ao n cap)) := X1.out.below hb X1.out.lt
  have HB : Hid (Below w.heap.size w V1) := HB.out.trans (hb.mono HB.out.size)
  clear ho hnc hb HS
  have hz14 : ((tk l : Int) == 0) = false := by simp; omega
  go_wp2_with fail
  go_loopw [3, 4] (fun mv bv wr => ∃ (k mc : Nat) (ma : Option Addr) (r D : List Nat), mv = .slice ma k mc ∧ k ≤ 40 ∧ Hid (Own wr (w.heap.size + 1) ma k mc r) ∧ Hid (Form 4294967296 r) ∧ Hid (ma = none → mc = 0) ∧ Hid (wr.ownsRow (w.heap.size + 1) 5 1 bv D.length ((D.map (48 + ·)).map eB)) ∧ Hid (0 < k → ∀ g mb, bv.ownBlock = some g → ma = some ⟨mb, 0, none⟩ → g < mb) ∧ Hid (DecR (vl 4294967296 l) D (vl 4294967296 r)) ∧ Hid (Box wr w.heap.size (.bool s) (.slice ao n cap)) ∧ Hid (Below w.heap.size w wr)) (fun _ bv _ => 400 - lenOf bv)
  case atStart => exact ⟨tk l, c1, a1, l.take (tk l), [], rfl, by omega, O1, trim_form HL.out.wd, N1, World.ownsRow_nil _ _ 5 1, (fun _ g mb h _ => by cases h), ⟨by simp [Wd], fun _ => trivial, by rw [trim_val]; simp [vl]⟩, X1, HB⟩
  case round =>
    clear O1 N1 X1 HB
    obtain ⟨k, mc, ma, r, D, rfl, hk, OM, FM, NM, RB, DJ, DR, X1, HB⟩ := hrel
    obtain ⟨w0, hw0⟩ : ∃ w0, w0 = wr := ⟨_, rfl⟩
    subst hw0
    by_cases hk0 : 0 < k
    · obtain ⟨mb, rfl, hm1, hm2, hm3⟩ := OM.out.own hk0
      have HM3 : Hid (Holds eU w0 mb 0 r.toArray) := hm3
      have RL : Hid (r.length = k) := OM.out.sl.len
      have RW : Hid (Wd 4294967296 r) := OM.out.sl.wd
      have M0 : Hid (vl 4294967296 r ≠ 0) := vl_zero_form FM.out (by rw [RL.out]; omega)
      have hD : D.length < 400 := DR.out.short M0.out HN.out
      have hlc := OM.out.sl.lec
      have hmx := OM.out.sl.mx
      have HDJ : Hid (∀ g, Value.ownBlock _ = some g → g < mb) := fun g hg => DJ.out hk0 g mb hg rfl
      clear hm3 DJ
      go_wp2_with fail
      go_loopw [5, 6] (fun cv iv w2 => ∃ (j cc : Nat) (q : List Nat), j ≤ k ∧ iv = .int .i64 ((j : Int) - 1) ∧ cv = .int .u64 cc ∧ cc ≤ 9 ∧ Hid (DivR r 10 j q cc) ∧ Hid (w2 = putRow eU w0 mb 0 (r.take j ++ q).toArray)) (fun _ iv _ => (intOf iv + 1).toNat)
      case atStart => exact ⟨k, 0, [], Nat.le_refl _, rfl, rfl, by omega, ⟨by have := RL.out; simp; omega, by simp [Wd], by omega, by rw [List.drop_of_length_le (by have := RL.out; omega)]; simp [vl]⟩, by rw [List.take_of_length_le (by have := RL.out; omega), List.append_nil]; exact (putRow_self eU w0 mb 0 _ HM3.out).symm⟩
      case round =>
        obtain ⟨j, cc, q, hj, rfl, rfl, hcc, HQ, HW⟩ := hrel
        by_cases hlt : 0 < j
        · obtain ⟨i, rfl⟩ : ∃ i, j = i + 1 := ⟨j - 1, by omega⟩
          obtain ⟨hcell, hfr⟩ := dn_cell HM3.out HQ.out.len HW.out
          rw [Nat.zero_add] at hcell hfr
          obtain ⟨x, hx⟩ : ∃ x, x = r.getD i 0 := ⟨_, rfl⟩
          rw [← hx] at hcell
          have hxb : x ≤ 4294967295 := by have := RW.out.at (by omega) i; omega
          have HX : Hid (x = r.getD i 0) := hx
          clear hx
          have hor := or_words cc x (by omega) (by omega)
          go_wp2_with fail
          go_roundw
          case rel =>
            have h1 := dn_next (z := ((cc : Int) * 4294967296 + (x : Int)) / 10) (t := (cc * 4294967296 + x) / 10) HQ.out.len HW.out (by omega)
            rw [Nat.zero_add] at h1
            exact ⟨i, (cc * 4294967296 + x) % 10, ((cc * 4294967296 + x) / 10) :: q, by omega, by go_num, by congr 1, by omega, HQ.out.step HX.out rfl (by omega) (by omega), h1⟩
          case measure => simp [intOf]
        · obtain rfl : j = 0 := by omega
          rw [List.take_zero, List.nil_append] at HW
          have QL : Hid (q.length = k) := by have := HQ.out.len; have := RL.out; show _ = _; omega
          have QV : Hid (vl 4294967296 q * 10 + cc = vl 4294967296 r) := by have := HQ.out.eq; rw [List.drop_zero] at this; exact this
          have hg : w0.grownBy wr (some mb) := by rw [HW.out]; exact grown_put w0 mb _
          have RB2 : Hid (wr.ownsRow (w.heap.size + 1) 5 1 u4 D.length ((D.map (48 + ·)).map eB)) := RB.out.kept hg (by
            cases h : u4.ownBlock with
            | none => exact .inl rfl
            | some g => exact .inr (fun e => by have := HDJ.out g h; injection e; omega))
          have HM4 : Hid (Holds eU wr mb 0 q.toArray) := by rw [HW.out]; exact holds_putRow eU w0 mb 0 r.toArray q.toArray HM3.out (by have := QL.out; have := RL.out; simp; omega)
          have X2 : Hid (Box wr w.heap.size (.bool s) (.slice ao n cap)) := X1.out.grown hg (fun e => by injection e; omega)
          have HB2 : Hid (Below w.heap.size w wr) := HB.out.grown hg HB.out.size (fun k e => by cases e; omega)
          have hsz : w.heap.size + 1 ≤ wr.heap.size := by have := hg.size; omega
          have hmw : mb < wr.heap.size := by have := hg.size; omega
          clear hg HW RB HM3 X1 HB
          go_wp2_with (at_builtin; refine wpList_append_own _ rfl _ _ 79 rfl (w.heap.size + 1) 5 i0 (.int .u8 0) 1 1 Tryz.underlying79 hi hz0 hz1 hz2 rfl (by decide) _ _ _ rfl (RB2.out.alloc _) ⟨wr.heap.size, 0, none⟩ 1 1 [_] rfl rfl (news1 _ _ _) (one8 _) (by unfold maxLen; omega) (by omega) (by simp; omega) ?_; intro v1 w1 hown hgrow _; have RB3 : Hid (w1.ownsRow (w.heap.size + 1) 5 1 v1 _ _) := hown; have HM5 : Hid (Holds eU w1 mb 0 q.toArray) := holds_grown (holds_below HM4.out ((Below.refl (mb + 1) wr).alloc (by omega) _) (by omega)) hgrow (by simp; omega) (fun e => by have := HDJ.out mb e.symm; omega); have hba := ((Below.refl (w.heap.size + 1) wr).alloc hsz (Obj.cells #[_] 5)).grown hgrow (by simp; omega) (fun k hk => (RB2.out.lt k hk).1); have X3 : Hid (Box w1 w.heap.size (.bool s) (.slice ao n cap)) := X2.out.below hba (by omega); have HB3 : Hid (Below w.heap.size w w1) := HB2.out.trans (hba.mono (by omega)); have hmw1 : mb < w1.heap.size := (Nat.lt_of_lt_of_le hmw hba.size); clear hown hgrow hba)
          have OM1 : Hid (Own w1 (w.heap.size + 1) (some ⟨mb, 0, none⟩) k mc q) := Own.of_holds QL.out hlc hmx HQ.out.wd hm1 hmw1 HM5.out
          refine (rtrim_any (some ⟨mb, 0, none⟩) k mc q _ OM1.out.sl (fun h => by cases h) (by omega)).mono ?_
          rintro e w3 ⟨a4, c4, rfl, ho, hn4, hb⟩
          have KQ := tk_le OM1.out.sl
          have O4 : Hid (Own w3 w1.heap.size a4 (tk q) c4 (q.take (tk q))) := ho
          have N4 : Hid (a4 = none → c4 = 0) := hn4
          have X4 : Hid (Box w3 w.heap.size (.bool s) (.slice ao n cap)) := X3.out.below hb X3.out.lt
          have HB4 : Hid (Below w.heap.size w w3) := HB3.out.trans (hb.mono HB3.out.size)
          have RB4 : Hid (w3.ownsRow (w.heap.size + 1) 5 1 v1 _ _) := row_below RB3.out hb (fun g hg => (RB3.out.lt g hg).2)
          clear ho hn4 hb
          go_wp2_with fail
          go_roundw
          case rel =>
            refine ⟨tk q, c4, a4, q.take (tk q), D ++ [cc], rfl, by omega, O4.out.mono (by have := HB3.out.size; omega), trim_form HQ.out.wd, N4, ?_, ?_, ?_, X4, HB4⟩
            · have h1 := RB4.out
              rw [List.length_append, List.map_append]
              exact row_put8 h1 (by show _ = ((48 + cc : Nat) : Int); omega)
            · intro h0 g mb' hg e
              obtain ⟨b, e2, hb1, _⟩ := O4.out.own h0
              rw [e] at e2
              cases e2
              have := (RB3.out.lt g hg).2
              omega
            · rw [trim_val]
              exact DR.out.step M0.out QV.out (by omega)
          case measure =>
            rw [lenOf_row RB3.out, lenOf_row RB2.out]
            omega
    · obtain rfl : k = 0 := by omega
      obtain rfl : r = [] := List.eq_nil_of_length_eq_zero OM.out.sl.len
      have FD : Hid (Form 10 D) := DR.out.form rfl
      have VD : Hid (vl 10 D = vl 4294967296 l) := by have := DR.out.eq; simp only [vl, Nat.mul_zero, Nat.add_zero] at this; exact this.symm
      have hD0 : 0 < D.length := Nat.pos_of_ne_zero fun h => HP.out (by rw [← VD.out, List.eq_nil_of_length_eq_zero h]; rfl)
      have hDl : D.length ≤ 1000 := by
        rcases Nat.lt_or_ge D.length 1000 with h | h
        · omega
        · have h1 := FD.out.low (by intro h0; rw [h0] at hD0; simp at hD0)
          rw [VD.out] at h1
          have h2 := HN.out
          have h3 := ten_ge (D.length - 1) 40 (by omega)
          have h5 : (4294967296 : Nat) ^ 40 ≤ (10 ^ 10) ^ 40 := Nat.pow_le_pow_left (by decide) 40
          exact absurd (Nat.lt_of_lt_of_le h2 (Nat.le_trans h5 (Nat.le_trans h3 h1))) (Nat.lt_irrefl _)
      have WDD : Hid (Wd 10 D) := DR.out.wd
      clear OM FM NM DJ DR
      have RB' := RB.out
      obtain ⟨g, cb, rfl, hg1, hg2, hg3, hg4, hg5⟩ := row_some RB' hD0
      have z0 := X1.out.z0
      have hsz : w.heap.size + 1 ≤ w0.heap.size := X1.out.lt
      cases s
      · obtain ⟨L, hL⟩ : ∃ L, L = D.map (48 + ·) := ⟨_, rfl⟩
        have hll : L.length = D.length := by rw [hL]; simp
        rw [← hL] at hg5
        have HLD : Hid (L = D.map (48 + ·)) := hL
        have HLB : ∀ x ∈ L, x < 256 := fun x hx => by rw [hL] at hx; obtain ⟨y, hy, rfl⟩ := List.mem_map.1 hx; have := WDD.out y hy; omega
        have HC : Hid (g < w0.heap.size ∧ ∀ j, j < L.length → w0.cell? ⟨g, j, none⟩ = some (.int .u8 (L.getD j 0 : Nat))) := ⟨hg2, fun j hj => hg5 j _ (map_eB L j hj)⟩
        have hL0 : 0 < L.length := by omega
        have hL1 : L.length ≤ 1000 := by omega
        rw [← hll] at *
        clear hg5 hL RB RB'
        go_wp2_with fail
        have hLb : Hid (∀ x ∈ L, x < 256) := HLB
        go_loopw [7, 8] (fun ov iv wr => ∃ j : Nat, j ≤ L.length ∧ iv = .int .i64 ((j : Int) - 1) ∧ Hid (wr.ownsRow w0.heap.size 5 1 ov (L.length - j) ((L.drop j).reverse.map eB)) ∧ Hid (Below w0.heap.size w0 wr)) (fun _ iv _ => (intOf iv + 1).toNat)
        case atStart => exact ⟨L.length, Nat.le_refl _, by go_num, by rw [Nat.sub_self, List.drop_of_length_le (Nat.le_refl _)]; exact World.ownsRow_nil _ _ 5 1, Below.refl _ _⟩
        case round =>
          obtain ⟨j, hj, rfl, RO, HO⟩ := hrel
          have hso := HO.out.size
          by_cases hlt : 0 < j
          · obtain ⟨i, rfl⟩ : ∃ i, j = i + 1 := ⟨j - 1, by omega⟩
            obtain ⟨x, hx⟩ : ∃ x, x = L.getD i 0 := ⟨_, rfl⟩
            have hcx := (HO.out.cell (p := ⟨g, i, none⟩) HC.out.1).trans (HC.out.2 i (by omega))
            rw [← hx] at hcx
            have HX : Hid (x = L.getD i 0) := hx
            clear hx
            go_wp2_with (at_builtin; refine wpList_append_own _ rfl _ _ 79 rfl (w0.heap.size) 5 i0 (.int .u8 0) 1 1 Tryz.underlying79 hi hz0 hz1 hz2 rfl (by decide) _ _ _ rfl (RO.out.alloc _) ⟨wr.heap.size, 0, none⟩ 1 1 [_] rfl rfl (news1 _ _ _) (one8 _) (by unfold maxLen; omega) (by omega) (by simp; omega) ?_; intro v1 w1 hown hgrow _; have RO1 : Hid (w1.ownsRow w0.heap.size 5 1 v1 _ _) := hown; have HO1 : Hid (Below w0.heap.size w0 w1) := ((HO.out.alloc hso _).grown hgrow (by simp; omega) (fun k hk => (RO.out.lt k hk).1)); clear hown hgrow)
            go_wp2_with fail
            go_roundw
            case rel =>
              refine ⟨i, by omega, by go_num, ?_, HO1⟩
              have h1 := row_put8 (t := x) RO1.out rfl
              rw [show L.length - (i + 1) + 1 = L.length - i from by omega] at h1
              have e : (L.drop i).reverse = (L.drop (i + 1)).reverse ++ [x] := by
                rw [List.drop_eq_getElem_cons (show i < L.length by omega), List.reverse_cons, HX.out, List.getD_eq_getElem?_getD, List.getElem?_eq_getElem (show i < L.length by omega)]; rfl
              rw [e]
              exact h1
            case measure => simp [intOf]
          · obtain rfl : j = 0 := by omega
            have RO1 := RO.out
            rw [List.drop_zero, Nat.sub_zero] at RO1
            obtain ⟨g2, cap2, rfl, hg1, hg2, hg3, hg4, hg5⟩ := row_some RO1 hL0
            have hcv : (convert 79 9 (.slice (some ⟨g2, 0, none⟩) L.length cap2)).run Tryz.prog wr = .ok (.string ⟨(L.reverse.map UInt8.ofNat).toArray⟩) wr := bytes_back hg5 hLb.out
            clear hg5 RO1 RO
            go_wp2_with fail
            go_ret
            refine ⟨_, rfl, ⟨D, FD.out, VD.out, ?_⟩, HB.out.trans (HO.out.mono HB.out.size)⟩
            rw [if_neg HP.out, HLD.out]
            simp [txt, dch, Function.comp_def, List.map_reverse]
      · have hg6 : ∀ j, j < D.length → w0.cell? ⟨g, j, none⟩ = some (.int .u8 ((D.map (48 + ·)).getD j 0 : Nat)) := fun j hj => hg5 j _ (map_eB _ j (by simpa using hj))
        go_wp2_with (at_builtin; refine wpList_append_own _ rfl _ _ 79 rfl (w.heap.size + 1) 5 i0 (.int .u8 0) 1 1 Tryz.underlying79 hi hz0 hz1 hz2 rfl (by decide) _ _ _ rfl (RB.out.alloc _) ⟨w0.heap.size, 0, none⟩ 1 1 [_] rfl rfl (news1 _ _ _) (one8 _) (by unfold maxLen; omega) (by omega) (by simp; omega) ?_; intro v1 w1 hown hgrow _; have RB1 : Hid (w1.ownsRow (w.heap.size + 1) 5 1 v1 _ _) := hown; have HB1 : Hid (Below w.heap.size w w1) := ((HB.out.alloc HB.out.size _).grown hgrow (by simp; omega) (fun k hk => (by have := (RB.out.lt k hk).1; omega))); have hsz1 : w.heap.size + 1 ≤ w1.heap.size := (Nat.le_trans hsz (Nat.le_trans (by simp) hgrow.size)); obtain ⟨g', cb', rfl, hg1', hg2', hg3', hg4', hg5'⟩ := row_some (row_put8 hown (t := 45) rfl) (by omega); obtain ⟨L, hL⟩ : ∃ L, L = D.map (48 + ·) ++ [45] := ⟨_, rfl⟩; have hll : D.length + 1 = L.length := (by rw [hL]; simp); rw [← hL] at hg5'; have HLD : Hid (L = D.map (48 + ·) ++ [45]) := hL; have HLB : ∀ x ∈ L, x < 256 := (by rw [hL]; exact byte_lt WDD.out); have HC : Hid (g' < w1.heap.size ∧ ∀ j, j < L.length → w1.cell? ⟨g', j, none⟩ = some (.int .u8 (L.getD j 0 : Nat))) := ⟨hg2', fun j hj => hg5' j _ (map_eB L j hj)⟩; have hL0 : 0 < L.length := (by omega); have hL1 : L.length ≤ 1001 := (by omega); rw [hll] at hg3' ⊢; clear hown hgrow hg5' hL RB RB1 RB' hg6 hg5 hll)
        go_wp2_with fail
        have hLb : Hid (∀ x ∈ L, x < 256) := HLB
        go_loopw [7, 8] (fun ov iv wr => ∃ j : Nat, j ≤ L.length ∧ iv = .int .i64 ((j : Int) - 1) ∧ Hid (wr.ownsRow w1.heap.size 5 1 ov (L.length - j) ((L.drop j).reverse.map eB)) ∧ Hid (Below w1.heap.size w1 wr)) (fun _ iv _ => (intOf iv + 1).toNat)
        case atStart => exact ⟨L.length, Nat.le_refl _, by go_num, by rw [Nat.sub_self, List.drop_of_length_le (Nat.le_refl _)]; exact World.ownsRow_nil _ _ 5 1, Below.refl _ _⟩
        case round =>
          obtain ⟨j, hj, rfl, RO, HO⟩ := hrel
          have hso := HO.out.size
          by_cases hlt : 0 < j
          · obtain ⟨i, rfl⟩ : ∃ i, j = i + 1 := ⟨j - 1, by omega⟩
            obtain ⟨x, hx⟩ : ∃ x, x = L.getD i 0 := ⟨_, rfl⟩
            have hcx := (HO.out.cell (p := ⟨g', i, none⟩) HC.out.1).trans (HC.out.2 i (by omega))
            rw [← hx] at hcx
            have HX : Hid (x = L.getD i 0) := hx
            clear hx
            go_wp2_with (at_builtin; refine wpList_append_own _ rfl _ _ 79 rfl (w1.heap.size) 5 i0 (.int .u8 0) 1 1 Tryz.underlying79 hi hz0 hz1 hz2 rfl (by decide) _ _ _ rfl (RO.out.alloc _) ⟨wr.heap.size, 0, none⟩ 1 1 [_] rfl rfl (news1 _ _ _) (one8 _) (by unfold maxLen; omega) (by omega) (by simp; omega) ?_; intro v2 w2 hown hgrow _; have RO1 : Hid (w2.ownsRow w1.heap.size 5 1 v2 _ _) := hown; have HO1 : Hid (Below w1.heap.size w1 w2) := ((HO.out.alloc hso _).grown hgrow (by simp; omega) (fun k hk => (RO.out.lt k hk).1)); clear hown hgrow)
            go_wp2_with fail
            go_roundw
            case rel =>
              refine ⟨i, by omega, by go_num, ?_, HO1⟩
              have h1 := row_put8 (t := x) RO1.out rfl
              rw [show L.length - (i + 1) + 1 = L.length - i from by omega] at h1
              have e : (L.drop i).reverse = (L.drop (i + 1)).reverse ++ [x] := by
                rw [List.drop_eq_getElem_cons (show i < L.length by omega), List.reverse_cons, HX.out, List.getD_eq_getElem?_getD, List.getElem?_eq_getElem (show i < L.length by omega)]; rfl
              rw [e]
              exact h1
            case measure => simp [intOf]
          · obtain rfl : j = 0 := by omega
            have RO1 := RO.out
            rw [List.drop_zero, Nat.sub_zero] at RO1
            obtain ⟨g2, cap2, rfl, hg1, hg2, hg3, hg4, hg5⟩ := row_some RO1 hL0
            have hcv : (convert 79 9 (.slice (some ⟨g2, 0, none⟩) L.length cap2)).run Tryz.prog wr = .ok (.string ⟨(L.reverse.map UInt8.ofNat).toArray⟩) wr := bytes_back hg5 hLb.out
            clear hg5 RO1 RO
            go_wp2_with fail
            go_ret
            refine ⟨_, rfl, ⟨D, FD.out, VD.out, ?_⟩, HB1.out.trans (HO.out.mono HB1.out.size)⟩
            rw [if_neg HP.out, HLD.out]
            exact neg_txt D
set_option maxRecDepth 100000 in
set_option maxHeartbeats 1000000 in
theorem rtext_zero (s : Bool) (ao : Option Addr) (n cap : Nat) (l : List Nat) (w : World) (hl : Sl w ao n cap l) (hz : ao = none → cap = 0) (hn : n ≤ 40) (h0 : tk l = 0) :
    Calls Tryz.prog 33 #[.agg #[.bool s, .slice ao n cap]] w fun e w' => ∃ t, e = .returned (.string t) ∧ decT s (vl 4294967296 l) t ∧ Below w.heap.size w w' := by
  have HL : Hid (Sl w ao n cap l) := hl
  have HZ : Hid (ao = none → cap = 0) := hz
  have HV : Hid (vl 4294967296 l = 0) := by show _ = _; rw [← trim_val, h0]; rfl
  clear hl hz
  go_enter Tryz.func33, Tryz.ntmps33
  go_wp2_with fail
  have HB : Hid (Below w.heap.size w (w.alloc (Obj.cells #[Value.bool s, Value.slice ao n cap] 24))) := (Below.refl _ _).alloc (Nat.le_refl _) _
  refine (rtrim_any ao n cap l _ (HL.out.below HB.out (Nat.le_refl _)) HZ.out (by omega)).mono ?_
  rintro e V1 ⟨a1, c1, rfl, ho, hnc, hb⟩
  have HB : Hid (Below w.heap.size w V1) := HB.out.trans (hb.mono HB.out.size)
  clear ho hnc hb
  rw [h0]
  go_wp2_with fail
  go_ret
  refine ⟨_, rfl, ⟨[], trivial, by rw [HV.out]; rfl, ?_⟩, HB.out⟩
  rw [HV.out]
  rfl
theorem rtext_any (s : Bool) (ao : Option Addr) (n cap : Nat) (l : List Nat) (w : World) (hl : Sl w ao n cap l) (hz : ao = none → cap = 0) (hn : n ≤ 40) :
    Calls Tryz.prog 33 #[.agg #[.bool s, .slice ao n cap]] w fun e w' => ∃ t, e = .returned (.string t) ∧ decT s (vl 4294967296 l) t ∧ Below w.heap.size w w' := by
  rcases Nat.eq_zero_or_pos (tk l) with h | h
  · exact rtext_zero s ao n cap l w hl hz hn h
  · exact rtext_pos s ao n cap l w hl hz hn h
end Go.Proofs.YtfkkhabpnnealaaGreatDoor

