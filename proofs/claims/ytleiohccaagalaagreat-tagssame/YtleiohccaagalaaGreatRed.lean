/-
  split, read and Read, walked.
-/
import Derived.Test.YtleiohccaagalaaGreatSpl
namespace Go.Proofs.YtleiohccaagalaaGreat
open Go.RowKit
attribute [local go_sem ↓] Go.wp_at_zero Go.wp_at_succ
theorem own_far {w w' : World} {base n size : Nat} {e : TypeId} {v : Value} {xs : List Value} (h : w.ownsRow base e size v n xs) (hk : ∀ k, v.ownBlock = some k → w'.heap[k]? = w.heap[k]?) : w'.ownsRow base e size v n xs := by
  refine ⟨h.1, ?_⟩
  rcases h.2 with h' | ⟨g, cap, cur, hv, h1, h2, h3⟩
  · exact .inl h'
  · exact .inr ⟨g, cap, cur, hv, h1, (hk g (by rw [hv]; rfl)).trans h2, h3⟩
theorem own_blk {w : World} {base n size k : Nat} {e : TypeId} {v : Value} {xs : List Value} (h : w.ownsRow base e size v n xs) (hk : v.ownBlock = some k) : base ≤ k ∧ ∃ c, w.heap[k]? = some (.cells c e (0, 0)) := by
  rcases h.2 with ⟨h', _⟩ | ⟨g, cap, cur, hv, h1, h2, h3⟩
  · rw [h'] at hk; cases hk
  · rw [hv] at hk
    have : g = k := Option.some.inj hk
    subst this
    exact ⟨h1, cur, h2⟩
theorem own_slice {w : World} {base n size : Nat} {e : TypeId} {v : Value} {xs : List Value} (h : w.ownsRow base e size v n xs) : ∃ a c, v = .slice a n c := by
  rcases h.2 with ⟨h', rfl⟩ | ⟨g, cap, cur, hv, _⟩
  · exact ⟨none, 0, h'⟩
  · exact ⟨_, cap, hv⟩
theorem own_whole {w w' : World} {base n size : Nat} {e : TypeId} {v : Value} {xs : List Value} (h : w.ownsRow base e size v n xs) (hb : Below w.heap.size w w') : w'.ownsRow base e size v n xs :=
  own_far h fun k hk => hb.block k (h.lt k hk).2
/-- texts as values -/
def sv (l : List Bs) : List Value := l.map fun t => .string (bs t)
theorem sv_len (l : List Bs) : (sv l).length = l.length := by simp [sv]
theorem sv_get {l : List Bs} {i : Nat} {t : Bs} (h : l[i]? = some t) : (sv l)[i]? = some (.string (bs t)) := by simp [sv, h]
set_option maxRecDepth 100000 in
theorem info9_ex : ∃ i0, Tryz.prog.info? 9 = some i0 ∧ i0.zero = some (.string ⟨#[]⟩) ∧ i0.size = 1 ∧ i0.bytes = 16 := ⟨_, rfl, rfl, rfl, rfl⟩
/-- a row of texts of one's own -/
abbrev SRow (w : World) (base : Nat) (v : Value) (l : List Bs) : Prop := w.ownsRow base 9 1 v l.length (sv l)
theorem SRow.nil (w : World) (base : Nat) : SRow w base (.slice none 0 0) [] := World.ownsRow_nil _ _ _ _
theorem SRow.blk {w : World} {base : Nat} {v : Value} {l : List Bs} (h : SRow w base v l) {k : Nat} (hk : v.ownBlock = some k) : base ≤ k ∧ k < w.heap.size := h.lt k hk
theorem cell_new (w : World) (v : Value) (T : TypeId) : (w.alloc (.cells #[v] T)).cell? ⟨w.heap.size, 0, none⟩ = some v := by
  have h : (w.alloc (.cells #[v] T)).heap[w.heap.size]? = some (.cells #[v] T) := by show (w.heap.push _)[w.heap.size]? = _; simp
  simp only [World.cell?, h]; rfl
set_option maxRecDepth 100000 in
/-- one text more -/
theorem wp_app1 {w : World} {ops : Array Oper} {rest : List Oper} {o : Oper} {a : Act} {Q : Exit → Act → World → Prop} (hgd : o.guard = none) (s x : Operand)
    (ho : o.op = .call { callee := .builtin .append, args := #[s, x], argTypes := #[22, 22] }) (base : Nat) (v : Value) (l : List Bs) (t : Bs) (b0 : Nat)
    (hs : a.eval s = v) (hown : SRow w base v l) (hx : a.eval x = .slice (some ⟨b0, 0, none⟩) 1 1) (hb0 : w.cell? ⟨b0, 0, none⟩ = some (.string (bs t))) (hl : l.length ≤ 8796093021952) (hbase : base ≤ w.heap.size)
    (h : ∀ g cap w', SRow w' base (.slice (some ⟨g, 0, none⟩) (l.length + 1) cap) (l ++ [t]) → w.grownBy w' v.ownBlock → g < w'.heap.size → wpList Tryz.prog ops Q rest (a.put o.dst (.slice (some ⟨g, 0, none⟩) (l.length + 1) cap)) w') : wpList Tryz.prog ops Q (o :: rest) a w := by
  obtain ⟨i0, i1, i2, i3, i4⟩ := info9_ex
  refine wpList_append_lies w hgd s x 22 ho base 9 i0 _ 1 16 Tryz.underlying22 i1 i2 i3 i4 rfl (by omega) v l.length (sv l) hs hown ⟨b0, 0, none⟩ 1 1 [.string (bs t)] hx rfl ?_ (by simp [Value.oneCell']) (by omega) (by unfold maxLen; omega) (by omega) hbase w.heap.size rfl ?_
  · intro j u hj
    cases j with
    | zero => simp at hj; subst hj; simpa [Addr.add] using hb0
    | succ j => simp at hj
  · intro g cap w' hown' hgrow _ hlt
    refine h g cap w' ?_ hgrow hlt
    have e : sv (l ++ [t]) = sv l ++ [.string (bs t)] := by simp [sv]
    simp only [SRow, e, List.length_append, List.length_cons, List.length_nil]
    exact hown'
theorem ext_drop (S : ByteArray) (k : Nat) : S.extract k S.size = bs (S.data.toList.drop k) := by
  apply ByteArray.ext
  rw [ByteArray.data_extract]
  apply Array.ext'
  simp [bs]
  rw [← ByteArray.size_data, ← Array.length_toList]
  exact List.take_of_length_le (by simp)
theorem ext_take (S : ByteArray) (k n : Nat) : S.extract k (k + n) = bs ((S.data.toList.drop k).take n) := by
  apply ByteArray.ext
  rw [ByteArray.data_extract]
  apply Array.ext'
  simp [bs]
theorem pcs_nil : pcs [] = some [] := by rw [pcs]
theorem pcs_blank (r : Bs) : pcs (32 :: r) = pcs r := by rw [pcs]; simp
theorem pcs_none {c : UInt8} {r : Bs} (h : c ≠ 32) (h0 : sgA (c :: r) = 0) : pcs (c :: r) = none := by rw [pcs]; simp [h, h0]
theorem pcs_some {c : UInt8} {r : Bs} (h : c ≠ 32) (h0 : sgA (c :: r) ≠ 0) : pcs (c :: r) = (pcs ((c :: r).drop (sgA (c :: r)))).map fun l => (c :: r).take (sgA (c :: r)) :: l := by rw [pcs]; simp [h, h0]
/-- what split answers -/
structure SplQ (w : World) (res : Option (List Bs)) (e : Ending) (w' : World) : Prop where
  bl : Below w.heap.size w w'
  any : ∃ v ok, e = .returned (.tuple #[v, .bool ok]) ∧ (ok = true → ∃ l, res = some l ∧ SRow w' w.heap.size v l) ∧ (ok = false → res = none)
def few200 (l : List Bs) : Option (List Bs) := if l.length ≤ 200 then some l else none
theorem map_app (l m : List Bs) (x : Option (List Bs)) : (x.map (m ++ ·)).map (l ++ ·) = x.map ((l ++ m) ++ ·) := by cases x <;> simp
structure SpS (S : ByteArray) (w wr : World) (u : Value) (l : List Bs) (k : Nat) : Prop where
  bl : Below w.heap.size w wr
  row : SRow wr w.heap.size u l
  eq : (pcs (S.data.toList.drop k)).map (l ++ ·) = pcs S.data.toList
set_option maxRecDepth 100000 in
set_option maxHeartbeats 4000000 in
theorem split_any (S : ByteArray) (w : World) (hS : S.size ≤ 1000000) : Calls Tryz.prog 27 #[.string S] w (SplQ w ((pcs S.data.toList).bind few200)) := by
  obtain ⟨RES, hR⟩ : ∃ R, R = (pcs S.data.toList).bind few200 := ⟨_, rfl⟩
  rw [← hR]
  have HR : Hid (RES = (pcs S.data.toList).bind few200) := hR
  clear hR
  have HST : Hid (SpS S w w (.slice none 0 0) [] 0) := ⟨Below.refl _ _, SRow.nil _ _, by rw [List.drop_zero]; cases pcs S.data.toList <;> simp⟩
  go_enter Tryz.func27, Tryz.ntmps27
  go_wp2_with fail
  go_loopg [4, 5] S.size (fun g u4 u5 wr => ∃ (k : Nat) (l : List Bs) (a : Option Addr) (c : Nat), k ≤ S.size ∧ S.size - k ≤ g ∧ u4 = .slice a l.length c ∧ u5 = .int .i64 k ∧ l.length ≤ 200 ∧ Hid (SpS S w wr (.slice a l.length c) l k))
  case atStart => exact ⟨0, [], none, 0, Nat.zero_le _, by omega, rfl, rfl, by simp, HST⟩
  case round =>
    obtain ⟨k, l, a, c, hk, hg, rfl, rfl, hl, HX⟩ := hrel
    by_cases hlt : k < S.size
    · have z1 : (k : Int) < (S.size : Int) := by omega
      have z0 : (0 : Int) ≤ (k : Int) := by omega
      have hdc := drop_cons S k hlt
      by_cases h32 : S[k]'hlt = 32
      · have a32 : (((S[k]'hlt).toNat : Int) == 32) = true := u8_is (n := 32) h32 (by decide)
        have HE : Hid (pcs (S.data.toList.drop k) = pcs (S.data.toList.drop (k + 1))) := by show _ = _; rw [hdc, h32, pcs_blank]
        clear hdc h32
        go_wp2_with fail
        go_roundg (S.size - (k + 1))
        case measure => omega
        case rel => exact ⟨k + 1, l, a, c, by omega, by omega, rfl, by go_num, hl, ⟨HX.out.bl, HX.out.row, by rw [← HE.out]; exact HX.out.eq⟩⟩
      · have a32 : (((S[k]'hlt).toNat : Int) == 32) = false := u8_not (n := 32) h32 (by decide)
        have hsg := fun W => signAt_any (S.extract k S.size) W (by simp; omega) (by simp; omega)
        rw [show (S.extract k S.size).data.toList = S.data.toList.drop k by rw [ext_drop, bs_list]] at hsg
        have hle := sgA_le (S.data.toList.drop k)
        rw [List.length_drop, bal] at hle
        have HN : Hid (sgA (S.data.toList.drop k) = 0 → pcs (S.data.toList.drop k) = none) := by
          intro h0; rw [hdc] at h0 ⊢; exact pcs_none h32 h0
        have HY : Hid (sgA (S.data.toList.drop k) ≠ 0 → pcs (S.data.toList.drop k) = (pcs (S.data.toList.drop (k + sgA (S.data.toList.drop k)))).map ([(S.data.toList.drop k).take (sgA (S.data.toList.drop k))] ++ ·)) := by
          intro h0
          have := pcs_some (r := S.data.toList.drop (k + 1)) h32 (by rw [← hdc]; exact h0)
          rw [← hdc] at this
          rw [this, List.drop_drop]
          rfl
        clear hdc h32
        have hsl := HX.out.bl.size
        generalize sgA (S.data.toList.drop k) = n at *
        by_cases hn : n = 0
        · have q0 : ((n : Int) == 0) = true := nat_beq (b := 0) hn
          go_wp2_with (go_at_call 38; refine (hsg _).mono ?_; rintro e w1 ⟨rfl, hb1⟩; have HB1 : Hid _ := hb1; clear hb1)
          go_ret2
          refine ⟨HX.out.bl.trans (HB1.out.mono hsl), _, false, rfl, (fun h => by cases h), fun _ => ?_⟩
          rw [HR.out, ← HX.out.eq, HN.out hn]; rfl
        · have q0 : ((n : Int) == 0) = false := nat_bne (b := 0) hn
          by_cases h200 : l.length = 200
          · have q1 : ((l.length : Int) == 200) = true := nat_beq (b := 200) h200
            go_wp2_with (go_at_call 38; refine (hsg _).mono ?_; rintro e w1 ⟨rfl, hb1⟩; have HB1 : Hid _ := hb1; clear hb1)
            go_ret2
            refine ⟨HX.out.bl.trans (HB1.out.mono hsl), _, false, rfl, (fun h => by cases h), fun _ => ?_⟩
            rw [HR.out, ← HX.out.eq, HY.out hn]
            cases pcs (S.data.toList.drop (k + n)) with
            | none => rfl
            | some m => simp only [Option.map_some, Option.bind_some, few200]; rw [if_neg (by simp; omega)]
          · have q1 : ((l.length : Int) == 200) = false := nat_bne (b := 200) h200
            have hO : Hid (∀ W, Below wr.heap.size wr W → SRow W w.heap.size (.slice a l.length c) l) := fun W hW => own_whole HX.out.row hW
            have y1 : (k : Int) ≤ (k : Int) + (n : Int) := by omega
            have y2 : (k : Int) + (n : Int) ≤ (S.size : Int) := by omega
            go_wp2_with (first
              | (go_at_call 38; refine (hsg _).mono ?_; rintro e w1 ⟨rfl, hb1⟩; have HB1 : Hid (Below wr.heap.size wr w1) := hb1; have hz1 := hb1.size; clear hb1)
              | (at_builtin; refine wp_app1 (by rfl) _ _ (by rfl) w.heap.size (.slice a l.length c) l ((S.data.toList.drop k).take n) w1.heap.size (by rfl) ((hO.out _ HB1.out).alloc _) (by rfl) (by rw [← ext_take]; exact cell_new _ _ _) (by omega) (by simp; omega) ?_; intro gg cap w9 hown1 hgrow hlt9; have HO9 : Hid (SRow w9 w.heap.size (.slice (some ⟨gg, 0, none⟩) (l.length + 1) cap) (l ++ [(S.data.toList.drop k).take n])) := hown1; have HB9 : Hid (Below w.heap.size w w9) := ((HX.out.bl.trans (HB1.out.mono hsl)).alloc (by omega) _).grown hgrow (by simp; omega) (fun b hb => (HX.out.row.blk hb).1); clear hown1 hgrow))
            go_roundg (S.size - (k + n))
            case measure => omega
            case rel =>
              refine ⟨k + n, l ++ [(S.data.toList.drop k).take n], _, _, by omega, by omega, by simp; exact ⟨rfl, rfl⟩, by go_num, by simp; omega, ⟨HB9.out, by simpa using HO9.out, ?_⟩⟩
              rw [← HX.out.eq, HY.out hn, map_app]
    · have z1 : ¬ (k : Int) < (S.size : Int) := by omega
      go_wp2_with fail
      go_ret2
      have he : k = S.size := by omega
      refine ⟨HX.out.bl, _, true, rfl, (fun _ => ⟨l, ?_, HX.out.row⟩), fun h => by cases h⟩
      rw [HR.out, ← HX.out.eq, he, List.drop_of_length_le (by rw [bal]; omega), pcs_nil]
      simp [few200, hl]
end Go.Proofs.YtleiohccaagalaaGreat
