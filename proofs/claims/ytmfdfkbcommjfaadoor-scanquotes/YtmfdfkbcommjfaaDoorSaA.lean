/-
  Plain Lean: the tokens and remarks of a source, byte by byte, as chapter 3 tells them.
-/
import Derived.Lib.Bytealg
import Derived.RowKit
import Derived.Test.YtmfdfkbcommjfaaDoorRows
import Derived.WalkKit
import Derived.WalkSpells
import Derived.WalkLawsBesides
import Derived.Deep.DrawnRows
namespace Go.Proofs.YtmfdfkbcommjfaaDoor
/-- a letter of a name -/
def ltr (b : UInt8) : Bool := (97 ≤ b.toNat && b.toNat ≤ 122) || (65 ≤ b.toNat && b.toNat ≤ 90) || b.toNat == 95
/-- a digit -/
def dgt (b : UInt8) : Bool := 48 ≤ b.toNat && b.toNat ≤ 57
/-- what a name goes on with -/
def lod (b : UInt8) : Bool := ltr b || dgt b
/-- the words of the language, as bytes -/
def wordsL : List (List UInt8) := [
  [98, 114, 101, 97, 107], [99, 97, 115, 101], [99, 104, 97, 110], [99, 111, 110, 115, 116], [99, 111, 110, 116, 105, 110, 117, 101],
  [100, 101, 102, 97, 117, 108, 116], [100, 101, 102, 101, 114], [101, 108, 115, 101], [102, 97, 108, 108, 116, 104, 114, 111, 117, 103, 104],
  [102, 111, 114], [102, 117, 110, 99], [103, 111], [103, 111, 116, 111], [105, 102], [105, 109, 112, 111, 114, 116],
  [105, 110, 116, 101, 114, 102, 97, 99, 101], [109, 97, 112], [112, 97, 99, 107, 97, 103, 101], [114, 97, 110, 103, 101],
  [114, 101, 116, 117, 114, 110], [115, 101, 108, 101, 99, 116], [115, 116, 114, 117, 99, 116], [115, 119, 105, 116, 99, 104],
  [116, 121, 112, 101], [118, 97, 114]]
def word (l : List UInt8) : Bool := wordsL.contains l
/-- what an escape's letter stands for -/
def escOf (b : UInt8) : Option UInt8 := if b = 92 then some 92 else if b = 34 then some 34 else if b = 110 then some 10 else if b = 116 then some 9 else none
/-- a string behind its opening, k bytes of it gone (the opening with them): where it ends and what it says, or where it is wrong -/
def strL : List UInt8 → Bool → Nat → List UInt8 → Except Nat (Nat × List UInt8)
  | [], _, _, _ => .error 0
  | _ :: t, true, k, acc => strL t false (k + 1) acc
  | b :: t, false, k, acc =>
    if b = 92 then (match t.head?.bind escOf with | some e => strL t true (k + 1) (acc ++ [e]) | none => .error k)
    else if b = 34 then .ok (k + 1, acc)
    else if b = 10 then .error 0
    else strL t false (k + 1) (acc ++ [b])
/-- how many bytes stand ahead of a remark's end -/
def endOf : List UInt8 → Option Nat
  | [] => none
  | b :: t => if b = 42 ∧ t.head? = some 47 then some 0 else (endOf t).map (· + 1)
/-- how many bytes the longest sign has; b: the first byte, c: the second, d: the third (0, where there is none) -/
def sgn (b c d : UInt8) : Nat :=
  if b = 46 then (if c = 46 ∧ d = 46 then 3 else 1)
  else if b = 38 ∨ b = 124 then (if c = b then 2 else 1)
  else if b = 43 then (if c = 43 ∨ c = 61 then 2 else 1)
  else if b = 45 ∨ b = 60 then (if c = 45 then 2 else if c = 61 then 2 else 1)
  else if b = 42 ∨ b = 47 ∨ b = 37 ∨ b = 33 ∨ b = 61 ∨ b = 62 ∨ b = 58 then (if c = 61 then 2 else 1)
  else if b = 40 ∨ b = 41 ∨ b = 91 ∨ b = 93 ∨ b = 123 ∨ b = 125 ∨ b = 44 then 1
  else 0
/-- a piece of a source: wrong at an offset; a line's end; a blank; a token of a kind, a length and a text; a remark of a length, with a line's end in it or without -/
inductive Pc where
  | bad (off : Nat)
  | line
  | blank
  | tok (kind n : Nat) (text : List UInt8)
  | rmk (n : Nat) (lines : Bool)
def Pc.len : Pc → Nat
  | .bad _ => 1
  | .line => 1
  | .blank => 1
  | .tok _ n _ => n
  | .rmk n _ => n
/-- how many bytes fit from the beginning on -/
def run (f : UInt8 → Bool) : List UInt8 → Nat
  | [] => 0
  | b :: t => if f b then run f t + 1 else 0
def notNl (b : UInt8) : Bool := b != 10
def numBad (r : List UInt8) (n : Nat) : Bool := decide (200 < n) || (decide (1 < n) && r.head? == some 48) || (match r.drop n with | [] => false | c :: _ => ltr c)
/-- what begins there -/
def pcOf (r : List UInt8) : Pc :=
  match r with
  | [] => .blank
  | b :: t =>
    if b = 10 then .line
    else if b = 32 ∨ b = 9 ∨ b = 13 then .blank
    else if ltr b = true then (if 60 < run lod r then .bad 0 else .tok (if word (r.take (run lod r)) then 4 else 1) (run lod r) (r.take (run lod r)))
    else if dgt b = true then (if numBad r (run dgt r) = true then .bad 0 else .tok 2 (run dgt r) (r.take (run dgt r)))
    else if b = 34 then (match strL t false 1 [] with | .error o => .bad o | .ok (n, x) => .tok 3 n x)
    else if b = 47 ∧ t.head? = some 47 then .rmk (run notNl r) false
    else if b = 47 ∧ t.head? = some 42 then (match endOf (t.drop 1) with | none => .bad 0 | some k => .rmk (k + 4) (((t.drop 1).take k).contains 10))
    else if b = 59 then .tok 6 1 [59]
    else if sgn b (t.headD 0) ((t.drop 1).headD 0) = 0 then .bad 0
    else .tok 5 (sgn b (t.headD 0) ((t.drop 1).headD 0)) (r.take (sgn b (t.headD 0) ((t.drop 1).headD 0)))
/-- a token -/
structure Tk where
  kind : Nat
  lo : Nat
  hi : Nat
  text : List UInt8
deriving DecidableEq
/-- may a stmt end behind it -/
def ends (t : Tk) : Bool :=
  t.kind == 1 || t.kind == 2 || t.kind == 3 || (t.kind == 4 && (t.text == [98, 114, 101, 97, 107] || t.text == [99, 111, 110, 116, 105, 110, 117, 101] || t.text == [114, 101, 116, 117, 114, 110])) ||
  (t.kind == 5 && (t.text == [43, 43] || t.text == [45, 45] || t.text == [41] || t.text == [93] || t.text == [125]))
/-- the tokens behind a line's end at a place -/
def eol (p : Nat) (l : List Tk) : List Tk := if (match l.getLast? with | none => false | some t => ends t) then l ++ [⟨6, p, p, [10]⟩] else l
/-- the tokens and remarks so far -/
structure St where
  toks : List Tk
  rems : List (Nat × Nat)
deriving DecidableEq
def stp (p : Nat) (s : St) : Pc → St
  | .bad _ => s
  | .line => ⟨eol p s.toks, s.rems⟩
  | .blank => s
  | .tok k n x => ⟨s.toks ++ [⟨k, p, p + n, x⟩], s.rems⟩
  | .rmk n ls => ⟨if ls then eol p s.toks else s.toks, s.rems ++ [(p, p + n)]⟩
/-- what is left of a source read on: k bytes belong to what was read already -/
def scn : List UInt8 → Nat → Nat → St → Except Nat St
  | [], _, p, s => .ok ⟨eol p s.toks ++ [⟨7, p, p, []⟩], s.rems⟩
  | _ :: t, k + 1, p, s => scn t k (p + 1) s
  | b :: t, 0, p, s => match pcOf (b :: t) with
    | .bad o => .error (p + o)
    | .line => scn t 0 (p + 1) (stp p s .line)
    | .blank => scn t 0 (p + 1) (stp p s .blank)
    | .tok k n x => scn t (n - 1) (p + 1) (stp p s (.tok k n x))
    | .rmk n ls => scn t (n - 1) (p + 1) (stp p s (.rmk n ls))
end Go.Proofs.YtmfdfkbcommjfaaDoor
/-
  The small functions of scan, walked: letter, digit, letterOrDigit, wrongAt, Word, signAt, endsStatement.
-/
namespace Go.Proofs.YtmfdfkbcommjfaaDoor
open Go.RowKit
attribute [local go_sem ↓] Go.wp_at_zero Go.wp_at_succ
theorem ret_int {k : IntKind} {a b : Int} (h : a = b) : Ending.returned (.int k a) = .returned (.int k b) := by rw [h]
theorem ret_bool {a b : Bool} (h : a = b) : Ending.returned (.bool a) = .returned (.bool b) := by rw [h]
/-- a letter, of a rune -/
def ltrZ (c : Int) : Bool := (decide (97 ≤ c) && decide (c ≤ 122)) || (decide (65 ≤ c) && decide (c ≤ 90)) || c == 95
def dgtZ (c : Int) : Bool := decide (48 ≤ c) && decide (c ≤ 57)
def lodZ (c : Int) : Bool := ltrZ c || dgtZ c
theorem ltrZ_nat (b : UInt8) : ltrZ (b.toNat : Int) = ltr b := by
  rw [Bool.eq_iff_iff]; simp only [ltrZ, ltr, Bool.or_eq_true, Bool.and_eq_true, decide_eq_true_eq, beq_iff_eq]; omega
theorem dgtZ_nat (b : UInt8) : dgtZ (b.toNat : Int) = dgt b := by
  rw [Bool.eq_iff_iff]; simp only [dgtZ, dgt, Bool.and_eq_true, decide_eq_true_eq]; omega
theorem lodZ_nat (b : UInt8) : lodZ (b.toNat : Int) = lod b := by rw [lodZ, lod, ltrZ_nat, dgtZ_nat]
theorem lodZ_high {c : Int} (h : 128 ≤ c) : lodZ c = false := by
  rw [Bool.eq_false_iff]; simp only [lodZ, ltrZ, dgtZ, ne_eq, Bool.or_eq_true, Bool.and_eq_true, decide_eq_true_eq, beq_iff_eq]; omega
theorem dgtZ_high {c : Int} (h : 128 ≤ c) : dgtZ c = false := by
  rw [Bool.eq_false_iff]; simp only [dgtZ, ne_eq, Bool.and_eq_true, decide_eq_true_eq]; omega
theorem ltrZ_high {c : Int} (h : 128 ≤ c) : ltrZ c = false := by
  rw [Bool.eq_false_iff]; simp only [ltrZ, ne_eq, Bool.or_eq_true, Bool.and_eq_true, decide_eq_true_eq, beq_iff_eq]; omega
theorem letter_any (c : Int) (w : World) : Calls Tryd.prog 24 #[.int .i32 c] w fun e w' => e = .returned (.bool (ltrZ c)) ∧ w' = w := by
  go_enter Tryd.func24, Tryd.ntmps24
  go_wp2
  all_goals (go_ret; refine ⟨ret_bool ?_, rfl⟩; rw [Bool.eq_iff_iff]; simp_all [ltrZ]; try omega)
theorem digit_any (c : Int) (w : World) : Calls Tryd.prog 44 #[.int .i32 c] w fun e w' => e = .returned (.bool (dgtZ c)) ∧ w' = w := by
  go_enter Tryd.func44, Tryd.ntmps44
  go_wp2
  all_goals (go_ret; refine ⟨ret_bool ?_, rfl⟩; rw [Bool.eq_iff_iff]; simp_all [dgtZ]; try omega)
theorem lod_any (c : Int) (w : World) : Calls Tryd.prog 26 #[.int .i32 c] w fun e w' => e = .returned (.bool (lodZ c)) ∧ w' = w := by
  have h24 := letter_any c
  have h44 := digit_any c
  unfold lodZ
  generalize ltrZ c = L at *
  generalize dgtZ c = D at *
  cases L
  · go_enter Tryd.func26, Tryd.ntmps26
    go_wp2_with (first | (go_at_call 24; refine (h24 _).mono ?_; rintro e w1 ⟨rfl, rfl⟩) | (go_at_call 44; refine (h44 _).mono ?_; rintro e w1 ⟨rfl, rfl⟩))
    go_ret
    exact ⟨rfl, rfl⟩
  · go_enter Tryd.func26, Tryd.ntmps26
    go_wp2_with (first | (go_at_call 24; refine (h24 _).mono ?_; rintro e w1 ⟨rfl, rfl⟩) | (go_at_call 44; refine (h44 _).mono ?_; rintro e w1 ⟨rfl, rfl⟩))
    go_ret
    exact ⟨rfl, rfl⟩
def fltV (code p : Int) : Value := .agg #[.int .i64 code, .string ⟨#[]⟩, .int .i64 p]
theorem wrongAt_any (p : Int) (w : World) : Calls Tryd.prog 62 #[.int .i64 p] w fun e w' => e = .returned (fltV 3 p) ∧ w' = w.alloc (.cells #[.int .i64 3, .string ⟨#[]⟩, .int .i64 p] 25) := by
  go_enter Tryd.func62, Tryd.ntmps62
  go_wp2
  exact bodyPost_ret (v := fltV 3 p) (by simp [results, Tryd.results62, go_sem, fltV]) rfl ⟨rfl, rfl⟩
theorem word_any (s : ByteArray) (w : World) : Calls Tryd.prog 13 #[.string s] w fun e w' => e = .returned (.bool (word s.toList)) ∧ w' = w := by
  go_enter Tryd.func13, Tryd.ntmps13
  go_wp2
  all_goals first | (exfalso; simp_all; done) | (go_ret; refine ⟨ret_bool ?_, rfl⟩; simp_all [word, wordsL])
theorem rword_any (s : ByteArray) (w : World) : Calls Tryd.prog 14 #[.string s] w fun e w' => e = .returned (.bool (word s.toList)) ∧ w' = w := by
  go_enter Tryd.func14, Tryd.ntmps14
  go_wp2
  all_goals first | (exfalso; simp_all; done) | (go_ret; refine ⟨ret_bool ?_, rfl⟩; simp_all [word, wordsL])
theorem rletter_any (b : UInt8) (w : World) : Calls Tryd.prog 27 #[.int .u8 b.toNat] w fun e w' => e = .returned (.bool (ltr b)) ∧ w' = w := by
  rw [← ltrZ_nat]
  generalize (b.toNat : Int) = c
  go_enter Tryd.func27, Tryd.ntmps27
  go_wp2
  all_goals (go_ret; refine ⟨ret_bool ?_, rfl⟩; rw [Bool.eq_iff_iff]; simp_all [ltrZ]; try omega)
theorem rdigit_any (b : UInt8) (w : World) : Calls Tryd.prog 28 #[.int .u8 b.toNat] w fun e w' => e = .returned (.bool (dgt b)) ∧ w' = w := by
  rw [← dgtZ_nat]
  generalize (b.toNat : Int) = c
  go_enter Tryd.func28, Tryd.ntmps28
  go_wp2
  all_goals (go_ret; refine ⟨ret_bool ?_, rfl⟩; rw [Bool.eq_iff_iff]; simp_all [dgtZ]; try omega)
/-- may a stmt end behind a token of a kind and a text -/
def endsZ (k : Int) (x : List UInt8) : Bool :=
  k == 1 || k == 2 || k == 3 || (k == 4 && (x == [98, 114, 101, 97, 107] || x == [99, 111, 110, 116, 105, 110, 117, 101] || x == [114, 101, 116, 117, 114, 110])) ||
  (k == 5 && (x == [43, 43] || x == [45, 45] || x == [41] || x == [93] || x == [125]))
theorem natbeq (a b : Nat) : (((a : Int)) == ((b : Nat) : Int)) = (a == b) := by
  rw [Bool.eq_iff_iff]; simp only [beq_iff_eq]; omega
theorem endsZ_nat (t : Tk) : endsZ (t.kind : Int) t.text = ends t := by
  have h1 := natbeq t.kind 1; have h2 := natbeq t.kind 2; have h3 := natbeq t.kind 3; have h4 := natbeq t.kind 4; have h5 := natbeq t.kind 5
  unfold endsZ ends
  rw [← h1, ← h2, ← h3, ← h4, ← h5]
  rfl
theorem ends_any (k lo hi : Int) (x : ByteArray) (w : World) : Calls Tryd.prog 63 #[.agg #[.int .i64 k, .int .i64 lo, .int .i64 hi, .string x]] w fun e w' => e = .returned (.bool (endsZ k x.toList)) ∧ w' = w.alloc (.cells #[.int .i64 k, .int .i64 lo, .int .i64 hi, .string x] 38) := by
  go_enter Tryd.func63, Tryd.ntmps63
  go_wp2
  all_goals first | (exfalso; simp_all; done) | (go_ret; refine ⟨ret_bool ?_, rfl⟩; simp_all [endsZ])
end Go.Proofs.YtmfdfkbcommjfaaDoor
