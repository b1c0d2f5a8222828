/-
  eachOnce, walked: a row cloned, sorted, each once.
-/
import Derived.Test.YtleiohccaagalaaGreatRul
import Derived.Sort.OwnSorted
import Derived.Lib.OwnBridge
namespace Go.Proofs.YtleiohccaagalaaGreat
open Go.RowKit Go.Sort
attribute [local go_sem ↓] Go.wp_at_zero Go.wp_at_succ
/-- sorted -/
def srt (l : List Bs) : List Bs := l.mergeSort fun x y => decide (x ≤ y)
/-- sorted, each once -/
def eo (l : List Bs) : List Bs := Lib.compactUpTo (srt l).toArray (srt l).length
theorem srt_len (l : List Bs) : (srt l).length = l.length := by simp [srt]
theorem eo_nil : eo [] = [] := by simp [eo, srt, Lib.compactUpTo]
theorem eo_le (l : List Bs) : (eo l).length ≤ l.length := by
  unfold eo Lib.compactUpTo
  rw [List.length_map]
  refine Nat.le_trans (List.length_filter_le _ _) ?_
  rw [List.length_range, srt_len]; exact Nat.le_refl _
theorem sv_enc (l : List Bs) : sv l = l.map encStr := rfl
structure EoQ (w : World) (T : List Bs) (e : Ending) (w' : World) : Prop where
  bl : Below w.heap.size w w'
  ex : ∃ a c, e = .returned (.slice a T.length c) ∧ SRow w' w.heap.size (.slice a T.length c) T
theorem slen {w : World} {base : Nat} {v : Value} {n : Nat} {l : List Bs} (h : w.ownsRow base 9 1 v n (sv l)) : n = l.length := by have := h.1; rw [sv_len] at this; omega
set_option maxRecDepth 100000 in
theorem clone_any {w : World} {a : Option Addr} {n c : Nat} {l : List Bs} (hT : TxV w a n c l) (hn : n ≤ 8796093021952) : Calls Tryz.prog 33 #[.slice a n c] w fun e w' => ∃ v, e = .returned v ∧ SRow w' w.heap.size v l ∧ Below w.heap.size w w' := by
  obtain rfl := hT.len
  rcases hT.at_ with ⟨rfl, rfl⟩ | ⟨g, o, rfl, hc⟩
  · refine (Tryz.slices_Clone_nil 0 c w).mono ?_
    rintro e w' ⟨rfl, rfl⟩
    exact ⟨_, rfl, SRow.nil _ _, Below.refl _ _⟩
  · obtain ⟨i0, i1, i2, i3, i4⟩ := info9_ex
    refine (Tryz.slices_Clone i0 _ 1 16 i1 i2 i3 i4 rfl (by omega) Tryz.sizeOf9 g o l.length c (sv l) w (by rw [sv_len]; omega) (by unfold maxLen; omega) (by omega) ?_ (by simp [sv, Value.oneCell'])).mono ?_
    · intro j u hj
      simp only [sv, List.getElem?_map, Option.map_eq_some_iff] at hj
      obtain ⟨t, ht, rfl⟩ := hj
      exact hc j t ht
    · rintro e w' ⟨v, rfl, h1, _, h3⟩
      exact ⟨v, rfl, h1, h3⟩
/-- slices.Sort and slices.Compact at a row of one's own -/
theorem sort_any {w : World} {base : Nat} {a : Option Addr} {c : Nat} {l : List Bs} (h : SRow w base (.slice a l.length c) l) (hn : l.length ≤ 8796093021952) : Calls Tryz.prog 34 #[.slice a l.length c] w fun e w' => e = .returned (.tuple #[]) ∧ SRow w' base (.slice a l.length c) (srt l) ∧ Below base w w' := by
  by_cases hl : l = []
  · subst hl
    refine (AnyG.slices_Sort_string_none Tryz.laysSort a c w).mono ?_
    rintro e w' ⟨rfl, rfl⟩
    exact ⟨rfl, by simpa [srt] using h, Below.refl _ _⟩
  · have h0 : 0 < l.length := List.length_pos_iff.2 hl
    rcases h.2 with ⟨e, hz⟩ | ⟨g, cap, cur, hv, hb, hg, h1, h2, h3, h4⟩
    · omega
    · simp only [Value.slice.injEq, true_and] at hv
      obtain ⟨rfl, rfl⟩ := hv
      have hH : Holds encStr w g 0 l.toArray := holds_of_block hg (by rw [← sv_enc, ← h4, Nat.mul_one])
      refine (AnyG.slices_Sort_string Tryz.laysSort g 0 c l w hH (Array.getElem?_eq_some_iff.1 hg).1 (by omega)).mono ?_
      rintro e w' ⟨rfl, n, os, rfl⟩
      refine ⟨rfl, ?_, ?_⟩
      · have := ownsRow_sorted (os := os) (n := n) (ss := l) (ts := srt l) (srt_len l) hb hg h1 h2 h3
        unfold SRow
        rw [srt_len]
        exact this
      · have hk := grownBy_sorted (w := w) (g := g) (n := n) (os := os) (srt l).toArray
        exact ⟨hk.os, hk.tape, hk.output, hk.size, fun k hk' => by
          have hlt := (Array.getElem?_eq_some_iff.1 hg).1
          exact hk.block k (by omega) (fun e => by simp only [Option.some.injEq] at e; omega)⟩
theorem cmp_le (l : List Bs) : (Lib.compactUpTo l.toArray l.length).length ≤ l.length := by
  unfold Lib.compactUpTo
  rw [List.length_map]
  refine Nat.le_trans (List.length_filter_le _ _) ?_
  rw [List.length_range]; exact Nat.le_refl _
theorem compact_any {w : World} {base : Nat} {a : Option Addr} {c : Nat} {l : List Bs} (h : SRow w base (.slice a l.length c) l) (hn : l.length ≤ 8796093021952) : Calls Tryz.prog 35 #[.slice a l.length c] w fun e w' => e = .returned (.slice a (Lib.compactUpTo l.toArray l.length).length c) ∧ SRow w' base (.slice a (Lib.compactUpTo l.toArray l.length).length c) (Lib.compactUpTo l.toArray l.length) ∧ Below base w w' := by
  by_cases hl : l = []
  · subst hl
    refine (Tryz.slices_Compact_string_empty a c w).mono ?_
    rintro e w' ⟨rfl, rfl⟩
    exact ⟨rfl, by simpa [Lib.compactUpTo] using h, Below.refl _ _⟩
  · have h0 : 0 < l.length := List.length_pos_iff.2 hl
    rcases h.2 with ⟨e, hz⟩ | ⟨g, cap, cur, hv, hb, hg, h1, h2, h3, h4⟩
    · omega
    · simp only [Value.slice.injEq, true_and] at hv
      obtain ⟨rfl, rfl⟩ := hv
      have hH : Holds encStr w g 0 l.toArray := holds_of_block hg (by rw [← sv_enc, ← h4, Nat.mul_one])
      have hc := Tryz.slices_Compact_string_arr g 0 c l.toArray w hH (by simp; omega) (by simpa using h1)
      rw [List.size_toArray] at hc
      refine hc.mono ?_
      rintro e w' ⟨rfl, q, rfl⟩
      have hle := cmp_le l
      generalize hC : Lib.compactUpTo l.toArray l.length = C at *
      refine ⟨rfl, ?_, Lib.below_putRow (Below.refl _ _) hb⟩
      have h5 := Lib.ownsRow_putRow (enc := encStr) (q := q) (k := C.length) (ys := C ++ List.replicate (l.length - C.length) []) (h : w.ownsRow base 9 1 (.slice (some ⟨g, 0, none⟩) l.length c) l.length (l.map encStr)) (by simp; omega) hle
      rw [List.take_left'  rfl] at h5
      exact h5
set_option maxRecDepth 100000 in
set_option maxHeartbeats 1000000 in
theorem eachOnce_any {w : World} {a : Option Addr} {n c : Nat} {l : List Bs} (hT : TxV w a n c l) (hn : n ≤ 8796093021952) : Calls Tryz.prog 24 #[.slice a n c] w (EoQ w (eo l)) := by
  have h1 := clone_any hT hn
  have hl : l.length ≤ 8796093021952 := by rw [← hT.len]; exact hn
  have H2 : Hid (∀ (W : World) b a c, SRow W b (.slice a l.length c) l → Calls Tryz.prog 34 #[.slice a l.length c] W fun e w' => e = .returned (.tuple #[]) ∧ SRow w' b (.slice a l.length c) (srt l) ∧ Below b W w') := fun W b a c h => sort_any h hl
  have H3 : Hid (∀ (W : World) b a c, SRow W b (.slice a l.length c) (srt l) → Calls Tryz.prog 35 #[.slice a l.length c] W fun e w' => e = .returned (.slice a (eo l).length c) ∧ SRow w' b (.slice a (eo l).length c) (eo l) ∧ Below b W w') := fun W b a c h => by
    have := compact_any (l := srt l) (by rw [srt_len]; exact h) (by rw [srt_len]; exact hl)
    rw [srt_len] at this
    unfold eo
    rw [srt_len]
    exact this
  clear hT
  go_enter Tryz.func24, Tryz.ntmps24
  go_wp2_with (first
    | (go_at_call 33; refine h1.mono ?_; rintro e w1 ⟨v, rfl, hr1, hb1⟩; obtain ⟨a1, c1, rfl⟩ := own_slice hr1; have h2 := H2.out w1 w.heap.size a1 c1 hr1; have HB1 : Hid (Below w.heap.size w w1) := hb1; clear hr1 hb1 h1)
    | (go_at_call 34; refine h2.mono ?_; rintro e w2 ⟨rfl, hr2, hb2⟩; have h3 := H3.out w2 w.heap.size a1 c1 hr2; have HB2 : Hid (Below w.heap.size w w2) := HB1.out.trans hb2; clear hr2 hb2 h2)
    | (go_at_call 35; refine h3.mono ?_; rintro e w3 ⟨rfl, hr3, hb3⟩; have HB3 : Hid (Below w.heap.size w w3) := HB2.out.trans hb3; have HR3 : Hid _ := hr3; clear hr3 hb3 h3))
  go_ret
  exact ⟨HB3.out, _, _, rfl, HR3.out⟩
end Go.Proofs.YtleiohccaagalaaGreat
