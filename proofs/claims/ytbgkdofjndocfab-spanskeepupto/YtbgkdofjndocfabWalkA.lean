/-
  The contracts of the small functions under spans.Sorted: cmp.Compare, cmp.Or, inOrder, noSpan, clash, clamped, each at every argument.
-/
import Derived.Test.YtbgkdofjndocfabRows
import Derived.WalkKit
import Derived.WalkSpells
import Derived.WalkLawsBesides
import Derived.Deep.RegionHeld3
import Derived.Deep.DrawnRows
namespace Go.Proofs.Ytbgkdofjndocfab
open Go.RowKit
attribute [local go_sem ↓] Go.wp_at_zero Go.wp_at_succ
theorem ret_int {k : IntKind} {a b : Int} (h : a = b) : Ending.returned (.int k a) = .returned (.int k b) := by rw [h]
theorem ret_bool {a b : Bool} (h : a = b) : Ending.returned (.bool a) = .returned (.bool b) := by rw [h]
def cmpI (a b : Int) : Int := if a < b then -1 else if b < a then 1 else 0
def cmpS (a b : ByteArray) : Int := if Op.bytesLess a.toList b.toList then -1 else if a.toList == b.toList then 0 else 1
def orI (a b c : Int) : Int := if a = 0 then (if b = 0 then c else b) else a
theorem cmpI_lt {a b : Int} (h : a < b) : cmpI a b = -1 := by simp [cmpI, h]
theorem cmpI_gt {a b : Int} (h : b < a) : cmpI a b = 1 := by have : ¬ a < b := by omega
                                                             simp [cmpI, h, this]
theorem cmpI_eq {a b : Int} (h1 : b ≤ a) (h2 : a ≤ b) : cmpI a b = 0 := by have : ¬ a < b := by omega
                                                                           have : ¬ b < a := by omega
                                                                           simp [cmpI, *]
set_option maxHeartbeats 400000 in
theorem cmpInt_any (a b : Int) (w : World) :
    Calls Try.prog 33 #[.int .i64 a, .int .i64 b] w fun e w' => e = .returned (.int .i64 (cmpI a b)) ∧ w' = w := by
  go_enter Try.func33, Try.ntmps33
  go_wp2
  all_goals go_ret
  · exact ⟨ret_int (cmpI_lt ‹_›).symm, rfl⟩
  · exact ⟨ret_int (cmpI_gt ‹_›).symm, rfl⟩
  · exact ⟨ret_int (cmpI_eq ‹_› ‹_›).symm, rfl⟩
theorem cmpS_lt {a b : ByteArray} (h : Op.bytesLess a.toList b.toList = true) : cmpS a b = -1 := by simp [cmpS, h]
theorem cmpS_gt {a b : ByteArray} (h : Op.bytesLess a.toList b.toList = false) (h2 : (a.toList == b.toList) = false) : cmpS a b = 1 := by simp only [cmpS, h, h2]; simp
theorem cmpS_eq {a b : ByteArray} (h : Op.bytesLess a.toList b.toList = false) (h2 : (a.toList == b.toList) = true) : cmpS a b = 0 := by simp only [cmpS, h, h2]; simp
set_option maxHeartbeats 400000 in
theorem cmpStr_any (a b : ByteArray) (w : World) :
    Calls Try.prog 32 #[.string a, .string b] w fun e w' => e = .returned (.int .i64 (cmpS a b)) ∧ w' = w := by
  cases h1 : Op.bytesLess a.toList b.toList <;> cases h2 : (a.toList == b.toList)
  all_goals
    go_enter Try.func32, Try.ntmps32
    go_wp2
    go_ret
    first
    | exact ⟨ret_int (cmpS_lt h1).symm, rfl⟩
    | exact ⟨ret_int (cmpS_gt h1 h2).symm, rfl⟩
    | exact ⟨ret_int (cmpS_eq h1 h2).symm, rfl⟩
theorem orI_1 {x y z : Int} (h : (x != 0) = true) : orI x y z = x := by simp at h; simp [orI, h]
theorem orI_2 {x y z : Int} (h : (x != 0) = false) (h2 : (y != 0) = true) : orI x y z = y := by simp at h h2; simp [orI, h, h2]
theorem orI_3 {x y z : Int} (h : (x != 0) = false) (h2 : (y != 0) = false) : orI x y z = z := by simp at h h2; simp [orI, h, h2]
theorem orI_0 {x y z : Int} (h : (x != 0) = false) (h2 : (y != 0) = false) (h3 : (z != 0) = false) : orI x y z = 0 := by simp at h h2 h3; simp [orI, h, h2, h3]
set_option maxHeartbeats 400000 in
theorem or3_any (b : Nat) (x y z : Int) (w : World) (h0 : w.cell? ⟨b, 0, none⟩ = some (.int .i64 x)) (h1 : w.cell? ⟨b, 1, none⟩ = some (.int .i64 y)) (h2 : w.cell? ⟨b, 2, none⟩ = some (.int .i64 z)) :
    Calls Try.prog 31 #[.slice (some ⟨b, 0, none⟩) 3 3] w fun e w' => e = .returned (.int .i64 (orI x y z)) ∧ w' = w := by
  go_enter Try.func31, Try.ntmps31
  go_wp2
  refine wp_loop_rounds 4 ?_
  rw [rounds_succ]
  go_wp2
  · go_ret; exact ⟨ret_int (orI_1 ‹_›).symm, rfl⟩
  rw [rounds_succ]
  go_wp2
  · go_ret; exact ⟨ret_int (orI_2 ‹_› ‹_›).symm, rfl⟩
  rw [rounds_succ]
  go_wp2
  · go_ret; exact ⟨ret_int (orI_3 ‹_› ‹_›).symm, rfl⟩
  rw [rounds_succ]
  go_wp2
  · go_ret; exact ⟨ret_int (orI_0 ‹_› ‹_› ‹_›).symm, rfl⟩
theorem cell_at2 (w : World) (A B : Obj) (c : Array Value) (t : TypeId) (i : Nat) : (((w.alloc A).alloc B).alloc (.cells c t)).drew.cell? ⟨w.heap.size + 1 + 1, i, none⟩ = c[i]? := by
  rw [World.cell?_drew]
  have := World.cell?_alloc_new ((w.alloc A).alloc B) c t i
  simpa using this
abbrev EV (p : ByteArray) (a b : Int) (t : ByteArray) : Array Value := #[.string p, .int .i64 a, .int .i64 b, .string t]
def inOrd (p : ByteArray) (a b : Int) (p' : ByteArray) (a' b' : Int) : Int := orI (cmpS p p') (cmpI a a') (cmpI b b')
set_option maxHeartbeats 1000000 in
theorem inOrder_any (p t p' t' : ByteArray) (a b a' b' : Int) (w : World) :
    Calls Try.prog 21 #[.agg #[.string p, .int .i64 a, .int .i64 b, .string t], .agg #[.string p', .int .i64 a', .int .i64 b', .string t']] w fun e w' => e = .returned (.int .i64 (inOrd p a b p' a' b')) ∧ w' = (((w.alloc (.cells #[.string p, .int .i64 a, .int .i64 b, .string t] 26)).alloc (.cells #[.string p', .int .i64 a', .int .i64 b', .string t'] 26)).alloc (.cells #[.int .i64 (cmpS p p'), .int .i64 (cmpI a a'), .int .i64 (cmpI b b')] 3)).drew := by
  go_enter Try.func21, Try.ntmps21
  go_wp2
  go_region_held3 (fun w' => w'.cell? ⟨w.heap.size, 0, none⟩ = some (.string p) ∧ w'.cell? ⟨w.heap.size, 1, none⟩ = some (.int .i64 a) ∧ w'.cell? ⟨w.heap.size, 2, none⟩ = some (.int .i64 b) ∧ w'.cell? ⟨w.heap.size + 1, 0, none⟩ = some (.string p') ∧ w'.cell? ⟨w.heap.size + 1, 1, none⟩ = some (.int .i64 a') ∧ w'.cell? ⟨w.heap.size + 1, 2, none⟩ = some (.int .i64 b')) (go_keep)
    (first | (go_at_call 32; refine (cmpStr_any _ _ _).mono ?_; rintro e w' ⟨rfl, rfl⟩) | (go_at_call 33; refine (cmpInt_any _ _ _).mono ?_; rintro e w' ⟨rfl, rfl⟩) | (go_at_call 31; refine (or3_any _ (cmpS p p') (cmpI a a') (cmpI b b') _ ?h0 ?h1 ?h2).mono ?_; (case h0 => rw [cell_at2]; rfl); (case h1 => rw [cell_at2]; rfl); (case h2 => rw [cell_at2]; rfl); rintro e w' ⟨rfl, rfl⟩))
  go_wp2
  go_ret
  exact ⟨rfl, rfl⟩
set_option maxHeartbeats 400000 in
theorem clamped_any (s : ByteArray) (at_ : Int) (w : World) (hs : s.size ≤ maxLen) :
    Calls Try.prog 24 #[.string s, .int .i64 at_] w fun e w' => e = .returned (.int .i64 (min (max at_ 0) s.size)) ∧ w' = w := by
  unfold maxLen at hs
  go_enter Try.func24, Try.ntmps24
  go_wp2
  all_goals go_ret
  all_goals exact ⟨ret_int (by omega), rfl⟩
def noSp (a b : Int) : Bool := decide (a < 0) || decide (b < a)
set_option maxHeartbeats 400000 in
theorem noSpan_any (p t : ByteArray) (a b : Int) (w : World) :
    Calls Try.prog 18 #[.agg #[.string p, .int .i64 a, .int .i64 b, .string t]] w fun e w' => e = .returned (.bool (noSp a b)) ∧ w' = w.alloc (.cells #[.string p, .int .i64 a, .int .i64 b, .string t] 26) := by
  unfold noSp
  go_enter Try.func18, Try.ntmps18
  go_wp2
  all_goals go_ret
  all_goals simp [*]
def clashB (p : ByteArray) (a b : Int) (p' : ByteArray) (a' : Int) : Bool := p.toList == p'.toList && (a == a' || decide (a' < b))
set_option maxHeartbeats 400000 in
theorem clash_any (p t p' t' : ByteArray) (a b a' b' : Int) (w : World) :
    Calls Try.prog 23 #[.agg #[.string p, .int .i64 a, .int .i64 b, .string t], .agg #[.string p', .int .i64 a', .int .i64 b', .string t']] w fun e w' => e = .returned (.bool (clashB p a b p' a')) ∧ w' = (w.alloc (.cells #[.string p, .int .i64 a, .int .i64 b, .string t] 26)).alloc (.cells #[.string p', .int .i64 a', .int .i64 b', .string t'] 26) := by
  unfold clashB
  go_enter Try.func23, Try.ntmps23
  go_wp2
  all_goals go_ret
  all_goals simp [*]
end Go.Proofs.Ytbgkdofjndocfab
