/-
  spans.Sorted of no edits and of one edit.
-/
import Derived.Test.YtbgkdofjndocfabWalkC
namespace Go.Proofs.Ytbgkdofjndocfab
open Go.RowKit
attribute [local go_sem ↓] Go.wp_at_zero Go.wp_at_succ
set_option maxHeartbeats 1000000 in
theorem contains_nil (w : World) (f : Value) : Calls Try.prog 17 #[.slice none 0 0, f] w fun e w' => e = .returned (.bool false) ∧ w' = w := by
  go_enter Try.func17, Try.ntmps17
  go_wp2
  refine wp_loop_rounds 1 ?_
  rw [rounds_succ]
  go_wp2
  go_ret
  exact ⟨rfl, rfl⟩
set_option maxHeartbeats 1000000 in
theorem len_small (n : Nat) (w : World) (h : n ≤ 12) : Calls Try.prog 30 #[.int .u64 n] w fun e w' => (∃ l : Int, e = .returned (.int .i64 l)) ∧ w' = w := hlenE n w h
set_option maxHeartbeats 1000000 in
theorem ins_none (w : World) (f : Value) : Calls Try.prog 35 #[.slice none 0 0, .int .i64 0, .int .i64 0, f] w fun e w' => e = .returned (.tuple #[]) ∧ w' = w := by
  go_enter Try.func35, Try.ntmps35
  go_wp2
  refine wp_loop_rounds 1 ?_
  rw [rounds_succ]
  go_wp2
  go_end0
  exact ⟨rfl, rfl⟩
set_option maxRecDepth 100000 in
set_option maxHeartbeats 1000000 in
theorem pdq_none (w : World) (f : Value) (l : Int) : Calls Try.prog 29 #[.slice none 0 0, .int .i64 0, .int .i64 0, .int .i64 l, f] w fun e w' => e = .returned (.tuple #[]) ∧ w' = w := by
  go_enter Try.func29, Try.ntmps29
  go_wp2_with fail
  refine wp_loop_rounds 1 ?_
  rw [rounds_succ]
  go_wp2_with (go_at_call 35; refine (ins_none _ _).mono ?_; rintro e w1 ⟨rfl, rfl⟩)
  exact bodyPost_ret (v := .tuple #[]) (by simp [results, Try.results29, go_sem]) rfl ⟨rfl, rfl⟩
set_option maxHeartbeats 1000000 in
theorem sort_none (w : World) (f : Value) : Calls Try.prog 20 #[.slice none 0 0, f] w fun e w' => e = .returned (.tuple #[]) ∧ w' = w := by
  have h30 := fun w => hlenE 0 w (by omega)
  go_enter Try.func20, Try.ntmps20
  go_wp2_with (first | (go_at_call 30; refine (h30 _).mono ?_; rintro e w1 ⟨⟨l, rfl⟩, rfl⟩) | (go_at_call 29; refine (pdq_none _ _ _).mono ?_; rintro e w1 ⟨rfl, rfl⟩))
  go_end0
  exact ⟨rfl, rfl⟩
set_option maxRecDepth 100000 in
set_option maxHeartbeats 1000000 in
theorem sorted0_any (w : World) : Calls Try.prog 10 #[.slice none 0 0] w fun e w' => e = .returned (.tuple #[.slice none 0 0, .int .i64 0]) ∧ w' = w := by
  have h19 := fun w => AnyE.slices_Clone_nil Try.cloneEd 0 0 w
  go_enter Try.func10, Try.ntmps10
  go_wp2_with fail
  refine (contains_nil _ _).mono ?_
  rintro e w1 ⟨rfl, rfl⟩
  go_wp2_with fail
  refine (h19 _).mono ?_
  rintro e w1 ⟨rfl, rfl⟩
  go_wp2_with fail
  refine (sort_none _ _).mono ?_
  rintro e w1 ⟨rfl, rfl⟩
  go_wp2
  refine wp_loop_rounds 1 ?_
  rw [rounds_succ]
  go_wp2
  go_ret2
  exact ⟨rfl, rfl⟩
open Go.Shelf Go.Lib Go.Sort in
theorem ins1_same (x : Ed) : Sort.insertionSort (ltOf cfE) #[x] 0 1 = #[x] := by
  unfold Sort.insertionSort
  rw [Sort.insOuter, if_neg (by omega)]
open Go.Shelf Go.Lib Go.Sort in
theorem sort1_any (blk cap : Nat) (x : Ed) (w : World) (hH : HoldsK encE 4 w blk 0 #[x]) (hblk : blk < w.heap.size) :
    Calls Try.prog 20 #[.slice (some ⟨blk, 0, none⟩) 1 cap, .func (.func 21) #[] #[]] w fun e w' => e = .returned (.tuple #[]) ∧ Go.RowKit.Below (w.heap.size) w w' := by
  refine (sortSmall_any blk 0 cap #[x] w hH hblk (by simp)).mono ?_
  rintro e w' ⟨rfl, n, os, rfl⟩
  refine ⟨rfl, ?_⟩
  rw [show (#[x] : Array Ed).size = 1 from rfl, ins1_same x]
  unfold sortWorldK
  rw [putRowK_self encE 4 _ _ _ _ (holdsK_ahead encE 4 _ _ _ _ _ hH)]
  exact below_grow_ahead w n os
theorem holds1 {w : World} {base g cap : Nat} {x : Ed} (h : w.ownsRow base 26 4 (.slice (some ⟨g, 0, none⟩) 1 cap) 1 (encE x)) : Sort.HoldsK encE 4 w g 0 #[x] := by
  intro j hj
  have hj4 : j < 4 := by simpa using hj
  refine ⟨?_, by rw [Nat.zero_add]; exact h.frozenAt j⟩
  rw [Sort.get_flatK _ _ _ _ (by simpa using hj), Nat.zero_add, h.cellAt j (by omega)]
  match j, hj4 with
  | 0, _ => rfl
  | 1, _ => rfl
  | 2, _ => rfl
  | 3, _ => rfl
theorem cells1 {w : World} {B : Nat} {x : Ed} (c : ∀ i v, (encE x)[i]? = some v → w.cell? ⟨B, i, none⟩ = some v) : ∀ j, j < [x].length → ∀ i v, (encE [x][j]!)[i]? = some v → w.cell? ⟨B, 0 + j * 4 + i, none⟩ = some v := by
  intro j hj i v hi
  obtain rfl : j = 0 := by simp at hj; omega
  have := c i v hi
  simpa using this
set_option maxRecDepth 100000 in
set_option maxHeartbeats 1000000 in
theorem sorted1_any (B c : Nat) (x : Ed) (w : World) (hB : B < w.heap.size) (hc : ∀ i v, (encE x)[i]? = some v → w.cell? ⟨B, i, none⟩ = some v) (hx : noSp x.2.1 x.2.2.1 = false) :
    Calls Try.prog 10 #[.slice (some ⟨B, 0, none⟩) 1 c] w fun e w' => ∃ g cap, e = .returned (.tuple #[.slice (some ⟨g, 0, none⟩) 1 cap, .int .i64 0]) ∧ w.heap.size ≤ g ∧ 1 ≤ cap ∧ w'.ownsRow w.heap.size 26 4 (.slice (some ⟨g, 0, none⟩) 1 cap) 1 (encE x) ∧ Below w.heap.size w w' := by
  have h17 := contains_any B 0 1 c [x] w (by simp) (by omega) hB (cells1 hc)
  rw [show ([x].take 1).any (fun x => noSp x.2.1 x.2.2.1) = false by simp [hx]] at h17
  have HC : Hid (∀ i v, (encE x)[i]? = some v → w.cell? ⟨B, i, none⟩ = some v) := hc
  clear hc hx
  go_enter Try.func10, Try.ntmps10
  go_wp2_with fail
  refine h17.mono ?_
  rintro e w1 ⟨rfl, hb1⟩
  clear h17
  have h19 := cloneE_any B 0 1 c (encE x) w1 (by simp [encE]) (by unfold maxLen; omega) (by omega) (fun j u hu => by rw [hb1.cell (p := ⟨B, 0 + j, none⟩) hB, Nat.zero_add]; exact HC.out j u hu) (fun u hu => encE_one _ _ hu)
  go_wp2_with fail
  refine h19.mono ?_
  rintro e w2 ⟨v2, rfl, hown, hnn, hb2⟩
  clear h19
  obtain ⟨g, cap, hv, hg1, hg2⟩ := hown.form (by omega)
  rw [hv] at hown
  rw [hv]
  have hcap : 1 ≤ cap := by rcases hown.2 with ⟨h, _⟩ | ⟨g', cap', cur, h, _, _, h2, _⟩ <;> simp at h; omega
  have h20 := sort1_any g cap x w2 (holds1 hown) hg2
  clear hnn hv
  go_wp2_with fail
  refine h20.mono ?_
  rintro e w3 ⟨rfl, hb3⟩
  clear h20
  have HO : Hid (w3.ownsRow w1.heap.size 26 4 (.slice (some ⟨g, 0, none⟩) 1 cap) 1 (encE x)) := ownsRow_below hown hb3 hg2
  clear hown
  go_wp2
  refine wp_loop_rounds 1 ?_
  rw [rounds_succ]
  go_wp2
  go_ret2
  have hs1 := hb1.size
  have hs2 := hb2.size
  refine ⟨g, cap, rfl, by omega, hcap, HO.out.mono hs1, ?_⟩
  exact (hb1.trans (hb2.mono hs1)).trans (hb3.mono (by omega))
end Go.Proofs.Ytbgkdofjndocfab
