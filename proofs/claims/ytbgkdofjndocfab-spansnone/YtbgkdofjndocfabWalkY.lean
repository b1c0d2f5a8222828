/-
  Texts put back as they stood; recastalike.Fits and Files, spans.Apply and the law at no files.
-/
import Derived.Test.YtbgkdofjndocfabWalkX
namespace Go.Proofs.Ytbgkdofjndocfab
open Go.RowKit Go.Maps
attribute [local go_sem ↓] Go.wp_at_zero Go.wp_at_succ
theorem join_nil : ∀ xs : List (List UInt8), Lib.join xs [] = xs.flatten
  | [] => rfl
  | [x] => by simp [Lib.join, List.intercalate]
  | x :: y :: r => by
    have := join_nil (y :: r)
    simp [Lib.join, List.intercalate] at this ⊢
    exact this
theorem ext_list (s : ByteArray) (a b : Nat) : (s.extract a b).data.toList = (s.data.toList.drop a).take (b - a) := by
  rw [ByteArray.data_extract, Array.toList_extract, List.extract_eq_take_drop]
theorem same_text (s p : ByteArray) (a b : Int) (h1 : a ≤ b) (_h2 : b ≤ (s.size : Int)) :
    Lib.join ((pcs s 0 [(p, a, b, s.extract a.toNat b.toNat)] ++ [s.extract (lastTo 0 [(p, a, b, s.extract a.toNat b.toNat)]) s.size]).map (·.data.toList)) [] = s.data.toList := by
  rw [join_nil]
  have hs : s.data.toList.length = s.size := rfl
  simp only [pcs, lastTo, List.map_append, List.map_cons, List.map_nil, List.flatten_cons, List.flatten_nil, List.flatten_append, List.append_nil]
  rw [ext_list, ext_list, ext_list]
  have e1 : s.data.toList.drop a.toNat = (s.data.toList.drop a.toNat).take (b.toNat - a.toNat) ++ s.data.toList.drop b.toNat := by
    have := (List.take_append_drop (b.toNat - a.toNat) (s.data.toList.drop a.toNat)).symm
    rw [List.drop_drop, show a.toNat + (b.toNat - a.toNat) = b.toNat by omega] at this
    exact this
  have e3 : (s.data.toList.drop b.toNat).take (s.size - b.toNat) = s.data.toList.drop b.toNat := List.take_of_length_le (by simp)
  rw [e3, List.drop_zero, Nat.sub_zero, List.append_assoc, ← e1, List.take_append_drop]
set_option maxRecDepth 100000 in
set_option maxHeartbeats 1000000 in
theorem fits_nil (w : World) : Calls Try.prog 11 #[.slice none 0 0] w fun e w' => e = .returned (.bool true) ∧ w' = w := by
  go_enter Try.func11, Try.ntmps11
  go_wp2
  refine wp_loop_rounds 1 ?_
  rw [rounds_succ]
  go_wp2
  go_ret
  exact ⟨by first | rfl | exact ret_bool (by decide), rfl⟩
set_option maxRecDepth 100000 in
set_option maxHeartbeats 1000000 in
theorem files_empty (a b : Option Addr) (c c' : Nat) (w : World) : Calls Try.prog 12 #[.slice a 0 c, .slice b 0 c'] w fun e w' => e = .returned (.bool true) ∧ w' = w := by
  go_enter Try.func12, Try.ntmps12
  go_wp2
  refine wp_loop_rounds 1 ?_
  rw [rounds_succ]
  go_wp2
  go_ret
  exact ⟨rfl, rfl⟩
set_option maxRecDepth 100000 in
set_option maxHeartbeats 1000000 in
theorem apply_nil (w : World) : Calls Try.prog 8 #[.slice none 0 0, .slice none 0 0] w fun e w' => e = .returned (.tuple #[.slice none 0 0, .int .i64 0]) ∧ Below w.heap.size w w' := by
  have hmm := @run_makeMap Try.prog
  have h14 := fun w => AnyE.slices_Clone_nil Try.cloneFi 0 0 w
  have HO : Hid ((w.alloc (Obj.map #[] 0)).ownsMap Try.prog 9 (plainElem (H := Unit) Try.prog 3) w.heap.size 0 (.map [])) := World.ownsMap_made _ _ _ _
  go_enter Try.func8, Try.ntmps8
  go_wp2_with fail
  refine wp_loop_rounds 1 ?_
  rw [rounds_succ]
  go_wp2_with fail
  refine (sorted0_any _).mono ?_
  rintro e w1 ⟨rfl, rfl⟩
  go_wp2_with (at_len; refine wpList_len_own _ rfl _ 44 rfl 9 3 Try.underlying44 _ w.heap.size 0 _ rfl HO.out ?_; rw [show Maps.size (H := Unit) (.map []) = 0 from rfl])
  refine (h14 _).mono ?_
  rintro e w2 ⟨rfl, rfl⟩
  go_wp2_with fail
  refine wp_loop_rounds 1 ?_
  rw [rounds_succ]
  go_wp2
  go_ret2
  exact ⟨rfl, (Below.refl _ _).alloc (Nat.le_refl _) _⟩
set_option maxRecDepth 100000 in
set_option maxHeartbeats 1000000 in
theorem none_nil (a b : Int) (w : World) : Calls Try.prog 5 #[.slice none 0 0, .int .i64 a, .int .i64 b] w fun e w' => e = .returned (.bool true) ∧ Below w.heap.size w w' := by
  go_enter Try.func5, Try.ntmps5
  go_wp2_with fail
  refine (fits_nil _).mono ?_
  rintro e w1 ⟨rfl, rfl⟩
  go_wp2_with fail
  refine wp_loop_rounds 1 ?_
  rw [rounds_succ]
  go_wp2_with fail
  refine (apply_nil _).mono ?_
  rintro e w1 ⟨rfl, hb1⟩
  go_wp2_with fail
  refine (files_empty _ _ _ _ _).mono ?_
  rintro e w2 ⟨rfl, rfl⟩
  go_wp2_with fail
  refine (awake_any _).mono ?_
  rintro e w3 ⟨rfl, hb3⟩
  go_wp2
  go_ret
  exact ⟨rfl, hb1.trans (hb3.mono hb1.size)⟩
end Go.Proofs.Ytbgkdofjndocfab
