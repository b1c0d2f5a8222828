/-
  The small functions of scan, walked: letter, digit, letterOrDigit, wrongAt, Word, signAt, endsStatement.
-/
import Derived.Test.YtmfdfkbcommjfaaDoorRows
import Derived.Test.YtmfdfkbcommjfaaDoorPlain
import Derived.WalkKit
import Derived.WalkSpells
import Derived.WalkLawsBesides
import Derived.Deep.DrawnRows
namespace Go.Proofs.YtmfdfkbcommjfaaDoor
open Go.RowKit
attribute [local go_sem ↓] Go.wp_at_zero Go.wp_at_succ
theorem ret_int {k : IntKind} {a b : Int} (h : a = b) : Ending.returned (.int k a) = .returned (.int k b) := by rw [h]
theorem ret_bool {a b : Bool} (h : a = b) : Ending.returned (.bool a) = .returned (.bool b) := by rw [h]
/-- a letter, of a rune -/
def ltrZ (c : Int) : Bool := (decide (97 ≤ c) && decide (c ≤ 122)) || (decide (65 ≤ c) && decide (c ≤ 90)) || c == 95
def dgtZ (c : Int) : Bool := decide (48 ≤ c) && decide (c ≤ 57)
def lodZ (c : Int) : Bool := ltrZ c || dgtZ c
theorem ltrZ_nat (b : UInt8) : ltrZ (b.toNat : Int) = ltr b := by
  rw [Bool.eq_iff_iff]; simp only [ltrZ, ltr, Bool.or_eq_true, Bool.and_eq_true, decide_eq_true_eq, beq_iff_eq]; omega
theorem dgtZ_nat (b : UInt8) : dgtZ (b.toNat : Int) = dgt b := by
  rw [Bool.eq_iff_iff]; simp only [dgtZ, dgt, Bool.and_eq_true, decide_eq_true_eq]; omega
theorem lodZ_nat (b : UInt8) : lodZ (b.toNat : Int) = lod b := by rw [lodZ, lod, ltrZ_nat, dgtZ_nat]
theorem lodZ_high {c : Int} (h : 128 ≤ c) : lodZ c = false := by
  rw [Bool.eq_false_iff]; simp only [lodZ, ltrZ, dgtZ, ne_eq, Bool.or_eq_true, Bool.and_eq_true, decide_eq_true_eq, beq_iff_eq]; omega
theorem dgtZ_high {c : Int} (h : 128 ≤ c) : dgtZ c = false := by
  rw [Bool.eq_false_iff]; simp only [dgtZ, ne_eq, Bool.and_eq_true, decide_eq_true_eq]; omega
theorem ltrZ_high {c : Int} (h : 128 ≤ c) : ltrZ c = false := by
  rw [Bool.eq_false_iff]; simp only [ltrZ, ne_eq, Bool.or_eq_true, Bool.and_eq_true, decide_eq_true_eq, beq_iff_eq]; omega
theorem letter_any (c : Int) (w : World) : Calls Tryd.prog 24 #[.int .i32 c] w fun e w' => e = .returned (.bool (ltrZ c)) ∧ w' = w := by
  go_enter Tryd.func24, Tryd.ntmps24
  go_wp2
  all_goals (go_ret; refine ⟨ret_bool ?_, rfl⟩; rw [Bool.eq_iff_iff]; simp_all [ltrZ]; try omega)
theorem digit_any (c : Int) (w : World) : Calls Tryd.prog 44 #[.int .i32 c] w fun e w' => e = .returned (.bool (dgtZ c)) ∧ w' = w := by
  go_enter Tryd.func44, Tryd.ntmps44
  go_wp2
  all_goals (go_ret; refine ⟨ret_bool ?_, rfl⟩; rw [Bool.eq_iff_iff]; simp_all [dgtZ]; try omega)
theorem lod_any (c : Int) (w : World) : Calls Tryd.prog 26 #[.int .i32 c] w fun e w' => e = .returned (.bool (lodZ c)) ∧ w' = w := by
  have h24 := letter_any c
  have h44 := digit_any c
  unfold lodZ
  generalize ltrZ c = L at *
  generalize dgtZ c = D at *
  cases L
  · go_enter Tryd.func26, Tryd.ntmps26
    go_wp2_with (first | (go_at_call 24; refine (h24 _).mono ?_; rintro e w1 ⟨rfl, rfl⟩) | (go_at_call 44; refine (h44 _).mono ?_; rintro e w1 ⟨rfl, rfl⟩))
    go_ret
    exact ⟨rfl, rfl⟩
  · go_enter Tryd.func26, Tryd.ntmps26
    go_wp2_with (first | (go_at_call 24; refine (h24 _).mono ?_; rintro e w1 ⟨rfl, rfl⟩) | (go_at_call 44; refine (h44 _).mono ?_; rintro e w1 ⟨rfl, rfl⟩))
    go_ret
    exact ⟨rfl, rfl⟩
def fltV (code p : Int) : Value := .agg #[.int .i64 code, .string ⟨#[]⟩, .int .i64 p]
theorem wrongAt_any (p : Int) (w : World) : Calls Tryd.prog 62 #[.int .i64 p] w fun e w' => e = .returned (fltV 3 p) ∧ w' = w.alloc (.cells #[.int .i64 3, .string ⟨#[]⟩, .int .i64 p] 25) := by
  go_enter Tryd.func62, Tryd.ntmps62
  go_wp2
  exact bodyPost_ret (v := fltV 3 p) (by simp [results, Tryd.results62, go_sem, fltV]) rfl ⟨rfl, rfl⟩
theorem word_any (s : ByteArray) (w : World) : Calls Tryd.prog 13 #[.string s] w fun e w' => e = .returned (.bool (word s.toList)) ∧ w' = w := by
  go_enter Tryd.func13, Tryd.ntmps13
  go_wp2
  all_goals first | (exfalso; simp_all; done) | (go_ret; refine ⟨ret_bool ?_, rfl⟩; simp_all [word, wordsL])
theorem rword_any (s : ByteArray) (w : World) : Calls Tryd.prog 14 #[.string s] w fun e w' => e = .returned (.bool (word s.toList)) ∧ w' = w := by
  go_enter Tryd.func14, Tryd.ntmps14
  go_wp2
  all_goals first | (exfalso; simp_all; done) | (go_ret; refine ⟨ret_bool ?_, rfl⟩; simp_all [word, wordsL])
theorem rletter_any (b : UInt8) (w : World) : Calls Tryd.prog 27 #[.int .u8 b.toNat] w fun e w' => e = .returned (.bool (ltr b)) ∧ w' = w := by
  rw [← ltrZ_nat]
  generalize (b.toNat : Int) = c
  go_enter Tryd.func27, Tryd.ntmps27
  go_wp2
  all_goals (go_ret; refine ⟨ret_bool ?_, rfl⟩; rw [Bool.eq_iff_iff]; simp_all [ltrZ]; try omega)
theorem rdigit_any (b : UInt8) (w : World) : Calls Tryd.prog 28 #[.int .u8 b.toNat] w fun e w' => e = .returned (.bool (dgt b)) ∧ w' = w := by
  rw [← dgtZ_nat]
  generalize (b.toNat : Int) = c
  go_enter Tryd.func28, Tryd.ntmps28
  go_wp2
  all_goals (go_ret; refine ⟨ret_bool ?_, rfl⟩; rw [Bool.eq_iff_iff]; simp_all [dgtZ]; try omega)
/-- may a stmt end behind a token of a kind and a text -/
def endsZ (k : Int) (x : List UInt8) : Bool :=
  k == 1 || k == 2 || k == 3 || (k == 4 && (x == [98, 114, 101, 97, 107] || x == [99, 111, 110, 116, 105, 110, 117, 101] || x == [114, 101, 116, 117, 114, 110])) ||
  (k == 5 && (x == [43, 43] || x == [45, 45] || x == [41] || x == [93] || x == [125]))
theorem natbeq (a b : Nat) : (((a : Int)) == ((b : Nat) : Int)) = (a == b) := by
  rw [Bool.eq_iff_iff]; simp only [beq_iff_eq]; omega
theorem endsZ_nat (t : Tk) : endsZ (t.kind : Int) t.text = ends t := by
  have h1 := natbeq t.kind 1; have h2 := natbeq t.kind 2; have h3 := natbeq t.kind 3; have h4 := natbeq t.kind 4; have h5 := natbeq t.kind 5
  unfold endsZ ends
  rw [← h1, ← h2, ← h3, ← h4, ← h5]
  rfl
theorem ends_any (k lo hi : Int) (x : ByteArray) (w : World) : Calls Tryd.prog 63 #[.agg #[.int .i64 k, .int .i64 lo, .int .i64 hi, .string x]] w fun e w' => e = .returned (.bool (endsZ k x.toList)) ∧ w' = w.alloc (.cells #[.int .i64 k, .int .i64 lo, .int .i64 hi, .string x] 38) := by
  go_enter Tryd.func63, Tryd.ntmps63
  go_wp2
  all_goals first | (exfalso; simp_all; done) | (go_ret; refine ⟨ret_bool ?_, rfl⟩; simp_all [endsZ])
end Go.Proofs.YtmfdfkbcommjfaaDoor
