/-
  ScopeNames, called in any memory: it returns true and leaves all that lay there as it was. Universe and Exported of both sides are told by their plain words; awake is a closed call, and the evaluator answers it (text Awk).
-/
import Derived.Test.YtfhccfebjdiceaaGreatDoorRows
import Derived.Test.YtfhccfebjdiceaaGreatDoorAwk
import Derived.WalkKit
import Derived.WalkSpells
import Derived.WalkLawsBesides
import Derived.Deep.DrawnRows
set_option linter.unusedVariables false
set_option linter.unusedSimpArgs false
namespace Go.Proofs.YtfhccfebjdiceaaGreatDoor
open Go.RowKit
attribute [local go_sem ↓] Go.wp_at_zero Go.wp_at_succ
structure Hid (p : Prop) : Prop where
  mk ::
  out : p
theorem ret_int {k : IntKind} {a b : Int} (h : a = b) : Ending.returned (.int k a) = .returned (.int k b) := by rw [h]
theorem ret_bool {a b : Bool} (h : a = b) : Ending.returned (.bool a) = .returned (.bool b) := by rw [h]
/-- the words of the universe, by kinds -/
def uniT : List (List UInt8) := [[105, 110, 116], [115, 116, 114, 105, 110, 103], [98, 111, 111, 108], [97, 110, 121]]
def uniF : List (List UInt8) := [[97, 112, 112, 101, 110, 100], [99, 108, 111, 115, 101], [108, 101, 110], [109, 97, 107, 101], [110, 101, 119], [112, 97, 110, 105, 99], [112, 114, 105, 110, 116], [114, 101, 97, 100], [114, 101, 99, 111, 118, 101, 114]]
def uniP : List (List UInt8) := [[99, 111, 109, 112, 97, 114, 97, 98, 108, 101]]
def uniC : List (List UInt8) := [[116, 114, 117, 101], [102, 97, 108, 115, 101]]
def uniN : List (List UInt8) := [[110, 105, 108]]
def uni (x : List UInt8) : Int := if x ∈ uniT then 4 else if x ∈ uniP then 9 else if x ∈ uniC then 3 else if x ∈ uniN then 2 else if x ∈ uniF then 5 else 0
set_option maxRecDepth 100000 in
set_option maxHeartbeats 4000000 in
theorem uni15 (s : ByteArray) (w : World) : Calls Tryz.prog 4 #[.string s] w fun e w' => e = .returned (.int .i64 (uni s.toList)) ∧ w' = w := by
  go_enter Tryz.func4, Tryz.ntmps4
  go_wp2
  all_goals first | (exfalso; simp_all; done) | (go_ret; refine ⟨ret_int ?_, rfl⟩; simp_all [uni, uniT, uniP, uniC, uniN, uniF])
set_option maxRecDepth 100000 in
set_option maxHeartbeats 4000000 in
theorem uni16 (s : ByteArray) (w : World) : Calls Tryz.prog 5 #[.string s] w fun e w' => e = .returned (.int .i64 (uni s.toList)) ∧ w' = w := by
  go_enter Tryz.func5, Tryz.ntmps5
  go_wp2
  all_goals first | (exfalso; simp_all; done) | (go_ret; refine ⟨ret_int ?_, rfl⟩; simp_all [uni, uniT, uniP, uniC, uniN, uniF])
/-- does another package see the name -/
def expo (s : ByteArray) : Bool := if h : 0 < s.size then decide (65 ≤ ((s[0]'h).toNat : Int)) && decide (((s[0]'h).toNat : Int) ≤ 90) else false
theorem nil_of_size {s : ByteArray} (h : ¬ 0 < s.size) : s.toList = [] := by
  rw [ByteArray.toList_eq]
  exact List.eq_nil_of_length_eq_zero (by rw [Array.length_toList]; show s.size = 0; omega)
theorem cons_of_size {s : ByteArray} (h : 0 < s.size) : ∃ b t, s.toList = b :: t := by
  cases q : s.toList with
  | nil =>
    rw [ByteArray.toList_eq] at q
    have : s.data.toList.length = s.size := Array.length_toList
    rw [q] at this; simp at this; omega
  | cons b t => exact ⟨b, t, rfl⟩
set_option maxRecDepth 100000 in
set_option maxHeartbeats 4000000 in
theorem expo17 (s : ByteArray) (w : World) : Calls Tryz.prog 6 #[.string s] w fun e w' => e = .returned (.bool (expo s)) ∧ w' = w := by
  by_cases h : 0 < s.size
  · obtain ⟨b, t, hb⟩ := cons_of_size h
    have he : s.toList.isEmpty = false := by rw [hb]; rfl
    have hE : expo s = (decide (65 ≤ ((s[0]'h).toNat : Int)) && decide (((s[0]'h).toNat : Int) ≤ 90)) := dif_pos h
    rw [hE]; clear hE
    go_enter Tryz.func6, Tryz.ntmps6
    go_wp2
    all_goals (go_ret; refine ⟨ret_bool ?_, rfl⟩; simp_all; try omega)
  · have hb := nil_of_size h
    have hE : expo s = false := dif_neg h
    rw [hE]; clear hE
    go_enter Tryz.func6, Tryz.ntmps6
    go_wp2
    all_goals (go_ret; refine ⟨ret_bool ?_, rfl⟩; simp_all; try omega)
set_option maxRecDepth 100000 in
set_option maxHeartbeats 4000000 in
theorem expo18 (s : ByteArray) (w : World) : Calls Tryz.prog 7 #[.string s] w fun e w' => e = .returned (.bool (expo s)) ∧ w' = w := by
  by_cases h : 0 < s.size
  · obtain ⟨b, t, hb⟩ := cons_of_size h
    have he : s.toList.isEmpty = false := by rw [hb]; rfl
    have hE : expo s = (decide (65 ≤ ((s[0]'h).toNat : Int)) && decide (((s[0]'h).toNat : Int) ≤ 90)) := dif_pos h
    rw [hE]; clear hE
    go_enter Tryz.func7, Tryz.ntmps7
    go_wp2
    all_goals (go_ret; refine ⟨ret_bool ?_, rfl⟩; simp_all; try omega)
  · have hb := nil_of_size h
    have hE : expo s = false := dif_neg h
    rw [hE]; clear hE
    go_enter Tryz.func7, Tryz.ntmps7
    go_wp2
    all_goals (go_ret; refine ⟨ret_bool ?_, rfl⟩; simp_all; try omega)
set_option maxRecDepth 100000 in
set_option maxHeartbeats 4000000 in
theorem names_any (S : ByteArray) (w : World) : Calls Tryz.prog 3 #[.string S] w fun e w' => e = .returned (.bool true) ∧ Below w.heap.size w w' := by
  have h15 := uni15 S
  have h16 := uni16 S
  have h17 := expo17 S
  have h18 := expo18 S
  have H10 : Hid (∀ W, Calls Tryz.prog 8 #[] W fun e w' => e = .returned (.bool true) ∧ Below W.heap.size W w') := ⟨awake_any⟩
  generalize uni S.toList = A at *
  generalize expo S = B at *
  have hB : (B == B) = true := by cases B <;> rfl
  go_enter Tryz.func3, Tryz.ntmps3
  go_wp2_with (first
    | (go_at_call 4; refine (h15 _).mono ?_; rintro e w1 ⟨rfl, hw1⟩; obtain rfl := hw1.symm)
    | (go_at_call 5; refine (h16 _).mono ?_; rintro e w1 ⟨rfl, hw1⟩; obtain rfl := hw1.symm)
    | (go_at_call 6; refine (h17 _).mono ?_; rintro e w1 ⟨rfl, hw1⟩; obtain rfl := hw1.symm)
    | (go_at_call 7; refine (h18 _).mono ?_; rintro e w1 ⟨rfl, hw1⟩; obtain rfl := hw1.symm)
    | (go_at_call 8; refine (H10.out _).mono ?_; rintro e w4 ⟨rfl, hb4⟩; have HB4 : Hid (Below w.heap.size w w4) := ⟨hb4⟩; clear hb4))
  go_ret
  exact ⟨rfl, HB4.out⟩
end Go.Proofs.YtfhccfebjdiceaaGreatDoor
