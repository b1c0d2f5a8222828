/- The evaluator: a call whose arguments are known is carried out on a memory of its own. -/
import Derived.Test.YtdofhlmffponoaaEvA1
import GoSem.Dispatch
set_option linter.unusedVariables false
set_option linter.unusedSimpArgs false
namespace Go.Proofs.Ytdofhlmffponoaa
namespace Ev
inductive R where
  | ok
  | no (why : String)
noncomputable def ob {α β : Type} (x : Option α) (f : α → Option β) : Option β := Option.rec (motive := fun _ => Option β) none f x
noncomputable def oc {α : Type} {β : Type} (x : Option α) (d : β) (f : α → β) : β := Option.rec (motive := fun _ => β) d f x
noncomputable def cb {β : Type} (b : Bool) (x : Option β) : Option β := Bool.rec (motive := fun _ => Option β) none x b
noncomputable def tb {β : Type} (b : Bool) (x y : β) : β := Bool.rec (motive := fun _ => β) y x b
noncomputable def alt {α : Type} (l : List α) : List α × List α :=
  List.rec (motive := fun _ => List α × List α) ([], []) (fun x _ ih => (x :: ih.2, ih.1)) l
noncomputable def T.ofL {α : Type} (f : Nat) : List α → T α :=
  Nat.rec (motive := fun _ => List α → T α) (fun _ => .leaf)
    (fun _ ih l => List.rec (motive := fun _ => T α) .leaf (fun x r _ => .node (ih (alt r).1) (some x) (ih (alt r).2)) l) f
/-- What the evaluator knows of a type. -/
structure TyI where
  d : TypeDesc
  size : Nat
  bytes : Nat
  agg : Bool
  zero : List AV
  zv : AV
  offs : List (Nat × Nat)
structure FnI where
  nt : Nat
  body : Code
  res : List ResultVar
/-- An entry of a map, and when it was born. -/
structure Me where
  k : AV
  v : AV
  born : Nat
inductive AO where
  | cells (t : T AV) (n es : Nat) (el : TypeId)
  | map (es : List Me) (clock : Nat)
  | miter (m : Option Bn) (since : Nat) (seen : List Nat) (last : Nat)
  | siter (s : List Nat) (pos : Nat)
  | loop (st : LoopState) (pend : Option Code) (fn : Nat) (tm : T AV) (nt : Nat) (params : List Nat) (assign body : Code) (dfb : Bn)
  | dfr
/-- A block, and what it holds: cells, or a map. -/
inductive Nb where
  | cells (b : Bn) (l : List AV) (es : Nat) (el : TypeId)
  | map (b : Bn) (es : List Me) (clock : Nat)
/-- A call that is known: the function and its arguments, the blocks that it begins with, the first name that is free ahead of it; what it answers, the blocks that are read behind it, the first name that is free then. -/
structure Met where
  f : Nat
  args : List AV
  pre : List Nb
  nx : Bn
  v : AV
  news : List Nb
  nz : Bn
structure Tab where
  P : Program
  ty : T TyI
  fn : T FnI
  kn : List Nat
  mt : List Met
inductive AD where
  | mark (b : Bn)
  | call (fn : Fn) (cap args : List AV)
structure AS where
  tm : T AV
  nt : Nat
  df : List AD
  ro : Option Bn
  rc : Option AV
  rd : Bool
  hp : T AO
  nx : Bn
inductive AEx where
  | normal
  | exit (id : Nat)
  | goto (l : Nat)
  | ret
  | panic (v : AV)
/-- A value without an address as the evaluator holds it. -/
def cv1 : Value → Option AV
  | .bool b => some (.bool b)
  | .int k n => some (.int k n)
  | .string s => some (.str (bl s))
  | .pointer none => some .ptr0
  | .slice none 0 0 => some .sl0
  | .map none => some .map0
  | .nilFunc => some .nilF
  | .nilIface => some .nilI
  | _ => none
noncomputable def cvs (l : List Value) : Option (List AV) :=
  List.rec (motive := fun _ => Option (List AV)) (some []) (fun v _ ih => ob (cv1 v) fun a => ob ih fun b => some (a :: b)) l
noncomputable def cv : Value → Option AV
  | .agg cs => ob (cvs cs.toList) fun l => some (.agg l)
  | .tuple cs => ob (cvs cs.toList) fun l => some (.tup l)
  | v => cv1 v
def pureRun (P : Program) {α : Type} : Sem α → Option α
  | .pure a => some a
  | .program k => pureRun P (k P)
  | .mark _ k => pureRun P k
  | _ => none
noncomputable def asI (v : AV) : Option (IntKind × Int) :=
  AV.rec (motive_1 := fun _ => Option (IntKind × Int)) (motive_2 := fun _ => Unit) (fun _ => none) (fun k n => some (k, n)) (fun _ => none) none (fun _ _ => none) none (fun _ _ _ _ => none) (fun _ _ _ _ => none) none none (fun _ => none) (fun _ _ _ _ _ => none) (fun _ => none) none (fun _ _ _ => none) none (fun _ _ => none) (fun _ _ => none) none () (fun _ _ _ _ => ()) v
noncomputable def asS (v : AV) : Option (List Nat) :=
  AV.rec (motive_1 := fun _ => Option (List Nat)) (motive_2 := fun _ => Unit) (fun _ => none) (fun _ _ => none) (fun l => some l) none (fun _ _ => none) none (fun _ _ _ _ => none) (fun _ _ _ _ => none) none none (fun _ => none) (fun _ _ _ _ _ => none) (fun _ => none) none (fun _ _ _ => none) none (fun _ _ => none) (fun _ _ => none) none () (fun _ _ _ _ => ()) v
noncomputable def asB (v : AV) : Option Bool :=
  AV.rec (motive_1 := fun _ => Option Bool) (motive_2 := fun _ => Unit) (fun b => some b) (fun _ _ => none) (fun _ => none) none (fun _ _ => none) none (fun _ _ _ _ => none) (fun _ _ _ _ => none) none none (fun _ => none) (fun _ _ _ _ _ => none) (fun _ => none) none (fun _ _ _ => none) none (fun _ _ => none) (fun _ _ => none) none () (fun _ _ _ _ => ()) v
noncomputable def natI (n : Int) : Option Nat := Int.rec (motive := fun _ => Option Nat) (fun n => some n) (fun _ => none) n
noncomputable def isI64 (k : IntKind) : Bool := IntKind.rec (motive := fun _ => Bool) false false false true false false false false k
noncomputable def kindN (k : IntKind) : Nat := IntKind.rec (motive := fun _ => Nat) 0 1 2 3 4 5 6 7 k
noncomputable def intOf (v : AV) : Option Nat :=
  AV.rec (motive_1 := fun _ => Option Nat) (motive_2 := fun _ => Unit) (fun _ => none) (fun _ n => natI n) (fun _ => none) none (fun _ _ => none) none (fun _ _ _ _ => none) (fun _ _ _ _ => none) none none (fun _ => none) (fun _ _ _ _ _ => none) (fun _ => none) none (fun _ _ _ => none) none (fun _ _ => none) (fun _ _ => none) none () (fun _ _ _ _ => ()) v
noncomputable def asAgg (v : AV) : Option (List AV) :=
  AV.rec (motive_1 := fun _ => Option (List AV)) (motive_2 := fun _ => Unit) (fun _ => none) (fun _ _ => none) (fun _ => none) none (fun _ _ => none) none (fun _ _ _ _ => none) (fun _ _ _ _ => none) none none (fun _ => none) (fun _ _ _ _ _ => none) (fun _ => none) none (fun _ _ _ => none) none (fun l _ => some l) (fun _ _ => none) none () (fun _ _ _ _ => ()) v
noncomputable def asTup (v : AV) : Option (List AV) :=
  AV.rec (motive_1 := fun _ => Option (List AV)) (motive_2 := fun _ => Unit) (fun _ => none) (fun _ _ => none) (fun _ => none) none (fun _ _ => none) none (fun _ _ _ _ => none) (fun _ _ _ _ => none) none none (fun _ => none) (fun _ _ _ _ _ => none) (fun _ => none) none (fun _ _ _ => none) none (fun _ _ => none) (fun l _ => some l) none () (fun _ _ _ _ => ()) v
structure Sl where
  b : Bn
  off : Nat
  len : Nat
structure Pt where
  b : Bn
  off : Nat
noncomputable def asSl (v : AV) : Option Sl :=
  AV.rec (motive_1 := fun _ => Option Sl) (motive_2 := fun _ => Unit) (fun _ => none) (fun _ _ => none) (fun _ => none) none (fun _ _ => none) none (fun b off len _ => some ⟨b, off, len⟩) (fun b off len _ => some ⟨b, off, len⟩) none none (fun _ => none) (fun _ _ _ _ _ => none) (fun _ => none) none (fun _ _ _ => none) none (fun _ _ => none) (fun _ _ => none) none () (fun _ _ _ _ => ()) v
noncomputable def asPt (v : AV) : Option Pt :=
  AV.rec (motive_1 := fun _ => Option Pt) (motive_2 := fun _ => Unit) (fun _ => none) (fun _ _ => none) (fun _ => none) none (fun b off => some ⟨b, off⟩) none (fun _ _ _ _ => none) (fun _ _ _ _ => none) none none (fun _ => none) (fun _ _ _ _ _ => none) (fun _ => none) none (fun _ _ _ => none) none (fun _ _ => none) (fun _ _ => none) none () (fun _ _ _ _ => ()) v
noncomputable def asMap (v : AV) : Option (Option Bn) :=
  AV.rec (motive_1 := fun _ => Option (Option Bn)) (motive_2 := fun _ => Unit) (fun _ => none) (fun _ _ => none) (fun _ => none) none (fun _ _ => none) none (fun _ _ _ _ => none) (fun _ _ _ _ => none) none (some none) (fun b => some (some b)) (fun _ _ _ _ _ => none) (fun _ => none) none (fun _ _ _ => none) none (fun _ _ => none) (fun _ _ => none) none () (fun _ _ _ _ => ()) v
noncomputable def lone1 (v : AV) : Bool :=
  AV.rec (motive_1 := fun _ => Bool) (motive_2 := fun _ => Unit) (fun _ => true) (fun _ _ => true) (fun _ => true) true (fun _ _ => true) true (fun _ _ _ _ => true) (fun _ _ _ _ => true) true true (fun _ => true) (fun _ _ _ _ _ => true) (fun _ => true) true (fun _ _ _ => true) true (fun _ _ => false) (fun _ _ => false) true () (fun _ _ _ _ => ()) v
noncomputable def nilK (v : AV) : Option (Nat × Bool) :=
  AV.rec (motive_1 := fun _ => Option (Nat × Bool)) (motive_2 := fun _ => Unit) (fun _ => none) (fun _ _ => none) (fun _ => none) (some (0, true)) (fun _ _ => some (0, false)) (some (1, true)) (fun _ _ _ _ => some (1, false)) (fun _ _ _ _ => some (1, false)) (some (1, false)) (some (2, true)) (fun _ => some (2, false)) (fun _ _ _ _ _ => some (3, false)) (fun _ => some (3, false)) (some (3, true)) (fun _ _ _ => some (4, false)) (some (4, true)) (fun _ _ => none) (fun _ _ => none) none () (fun _ _ _ _ => ()) v
noncomputable def fnF (f : Fn) : Option Nat := Fn.rec (motive := fun _ => Option Nat) (fun f => some f) (fun _ => none) (fun _ _ => none) (fun _ _ _ _ => none) (fun _ => none) f
structure Fv where
  fn : Fn
  first : List AV
  cap : List AV
noncomputable def asFv (v : AV) : Option Fv :=
  AV.rec (motive_1 := fun _ => Option Fv) (motive_2 := fun _ => Unit) (fun _ => none) (fun _ _ => none) (fun _ => none) none (fun _ _ => none) none (fun _ _ _ _ => none) (fun _ _ _ _ => none) none none (fun _ => none) (fun f a b _ _ => some ⟨f, a, b⟩) (fun _ => none) none (fun _ _ _ => none) none (fun _ _ => none) (fun _ _ => none) none () (fun _ _ _ _ => ()) v
noncomputable def asYield (v : AV) : Option Bn :=
  AV.rec (motive_1 := fun _ => Option Bn) (motive_2 := fun _ => Unit) (fun _ => none) (fun _ _ => none) (fun _ => none) none (fun _ _ => none) none (fun _ _ _ _ => none) (fun _ _ _ _ => none) none none (fun _ => none) (fun _ _ _ _ _ => none) (fun b => some b) none (fun _ _ _ => none) none (fun _ _ => none) (fun _ _ => none) none () (fun _ _ _ _ => ()) v
noncomputable def isSl0 (v : AV) : Bool :=
  AV.rec (motive_1 := fun _ => Bool) (motive_2 := fun _ => Unit) (fun _ => false) (fun _ _ => false) (fun _ => false) false (fun _ _ => false) true (fun _ _ _ _ => false) (fun _ _ _ _ => false) false false (fun _ => false) (fun _ _ _ _ _ => false) (fun _ => false) false (fun _ _ _ => false) false (fun _ _ => false) (fun _ _ => false) false () (fun _ _ _ _ => ()) v
noncomputable def isSle (v : AV) : Bool :=
  AV.rec (motive_1 := fun _ => Bool) (motive_2 := fun _ => Unit) (fun _ => false) (fun _ _ => false) (fun _ => false) false (fun _ _ => false) false (fun _ _ _ _ => false) (fun _ _ _ _ => false) true false (fun _ => false) (fun _ _ _ _ _ => false) (fun _ => false) false (fun _ _ _ => false) false (fun _ _ => false) (fun _ _ => false) false () (fun _ _ _ _ => ()) v
noncomputable def noEl (v : AV) : Bool :=
  AV.rec (motive_1 := fun _ => Bool) (motive_2 := fun _ => Unit) (fun _ => false) (fun _ _ => false) (fun _ => false) false (fun _ _ => false) true (fun _ _ _ _ => false) (fun _ _ _ _ => false) true false (fun _ => false) (fun _ _ _ _ _ => false) (fun _ => false) false (fun _ _ _ => false) false (fun _ _ => false) (fun _ _ => false) false () (fun _ _ _ _ => ()) v
noncomputable def okNilK (v : AV) : Bool :=
  AV.rec (motive_1 := fun _ => Bool) (motive_2 := fun _ => Unit) (fun _ => false) (fun _ _ => false) (fun _ => false) false (fun _ _ => true) false (fun _ _ _ _ => false) (fun _ _ _ _ => false) false false (fun _ => false) (fun f _ _ _ _ => oc (fnF f) false (fun _ => true)) (fun _ => true) false (fun _ _ _ => true) false (fun _ _ => false) (fun _ _ => false) false () (fun _ _ _ _ => ()) v
structure Sk where
  b : Bn
  off : Nat
  len : Nat
  c : Nat
noncomputable def asSk (v : AV) : Option Sk :=
  AV.rec (motive_1 := fun _ => Option Sk) (motive_2 := fun _ => Unit) (fun _ => none) (fun _ _ => none) (fun _ => none) none (fun _ _ => none) none (fun b off len c => some ⟨b, off, len, c⟩) (fun _ _ _ _ => none) none none (fun _ => none) (fun _ _ _ _ _ => none) (fun _ => none) none (fun _ _ _ => none) none (fun _ _ => none) (fun _ _ => none) none () (fun _ _ _ _ => ()) v
noncomputable def asSu (v : AV) : Option Sk :=
  AV.rec (motive_1 := fun _ => Option Sk) (motive_2 := fun _ => Unit) (fun _ => none) (fun _ _ => none) (fun _ => none) none (fun _ _ => none) none (fun _ _ _ _ => none) (fun b off len c => some ⟨b, off, len, c⟩) none none (fun _ => none) (fun _ _ _ _ _ => none) (fun _ => none) none (fun _ _ _ => none) none (fun _ _ => none) (fun _ _ => none) none () (fun _ _ _ _ => ()) v
noncomputable def isIface (v : AV) : Bool :=
  AV.rec (motive_1 := fun _ => Bool) (motive_2 := fun _ => Unit) (fun _ => false) (fun _ _ => false) (fun _ => false) false (fun _ _ => false) false (fun _ _ _ _ => false) (fun _ _ _ _ => false) false false (fun _ => false) (fun _ _ _ _ _ => false) (fun _ => false) false (fun _ _ _ => true) false (fun _ _ => false) (fun _ _ => false) false () (fun _ _ _ _ => ()) v
noncomputable def isAny (v : AV) : Bool :=
  AV.rec (motive_1 := fun _ => Bool) (motive_2 := fun _ => Unit) (fun _ => false) (fun _ _ => false) (fun _ => false) false (fun _ _ => false) false (fun _ _ _ _ => false) (fun _ _ _ _ => false) false false (fun _ => false) (fun _ _ _ _ _ => false) (fun _ => false) false (fun _ _ _ => false) false (fun _ _ => false) (fun _ _ => false) true () (fun _ _ _ _ => ()) v
noncomputable def AV.cells (v : AV) : List AV := oc (asAgg v) [v] (fun l => l)
noncomputable def opnd (tm : T AV) (x : Operand) : Option AV :=
  Operand.rec (motive := fun _ => Option AV) (fun t => tm.get (pOf t)) cv (fun _ => none) (fun f => some (.func (.func f) [] [])) x
noncomputable def opnds (tm : T AV) (l : List Operand) : Option (List AV) :=
  List.rec (motive := fun _ => Option (List AV)) (some []) (fun x _ ih => ob (opnd tm x) fun v => ob ih fun r => some (v :: r)) l
noncomputable def parts (tm : T AV) (l : List (Nat × Operand)) : Option (List (Nat × AV)) :=
  List.rec (motive := fun _ => Option (List (Nat × AV))) (some []) (fun x _ ih => ob (opnd tm x.2) fun v => ob ih fun r => some ((x.1, v) :: r)) l
noncomputable def tailL (l : List AV) : List AV := List.rec (motive := fun _ => List AV) [] (fun _ r _ => r) l
noncomputable def over0 (cs vs : List AV) : List AV :=
  List.rec (motive := fun _ => List AV → List AV) (fun cs => cs) (fun v _ ih cs => v :: ih (tailL cs)) vs cs
noncomputable def over (cs : List AV) (o : Nat) (vs : List AV) : List AV :=
  Nat.rec (motive := fun _ => List AV → List AV) (fun cs => over0 cs vs) (fun _ ih cs => List.rec (motive := fun _ => List AV) [] (fun c r _ => c :: ih r) cs) o cs
noncomputable def lenN {α : Type} (l : List α) : Nat := List.rec (motive := fun _ => Nat) 0 (fun _ _ n => Nat.succ n) l
noncomputable def nthO {α : Type} (l : List α) (n : Nat) : Option α :=
  List.rec (motive := fun _ => Nat → Option α) (fun _ => none) (fun x _ ih n => Nat.rec (motive := fun _ => Option α) (some x) (fun m _ => ih m) n) l n
noncomputable def takeN {α : Type} (l : List α) (n : Nat) : List α :=
  List.rec (motive := fun _ => Nat → List α) (fun _ => []) (fun x _ ih n => Nat.rec (motive := fun _ => List α) [] (fun m _ => x :: ih m) n) l n
noncomputable def dropN {α : Type} (l : List α) (n : Nat) : List α :=
  Nat.rec (motive := fun _ => List α → List α) (fun l => l) (fun _ ih l => List.rec (motive := fun _ => List α) [] (fun _ r _ => ih r) l) n l
noncomputable def appN {α : Type} (a b : List α) : List α := List.rec (motive := fun _ => List α) b (fun x _ ih => x :: ih) a
noncomputable def fillA (place : Nat → Option (Nat × Nat)) (l : List (Nat × AV)) (cs : List AV) : Option (List AV) :=
  List.rec (motive := fun _ => List AV → Option (List AV)) (fun cs => some cs) (fun x _ ih cs => ob (place x.1) fun q =>
    cb (Nat.beq (lenN x.2.cells) q.2) (cb (Nat.ble (Nat.add q.1 q.2) (lenN cs)) (ih (over cs q.1 x.2.cells)))) l cs
noncomputable def readN (t : T AV) (o n : Nat) : Option (List AV) :=
  Nat.rec (motive := fun _ => Nat → Option (List AV)) (fun _ => some []) (fun _ ih o => ob (t.getN o) fun v => ob (ih (Nat.succ o)) fun l => some (v :: l)) n o
noncomputable def writeN (t : T AV) (o : Nat) (l : List AV) : Option (T AV) :=
  List.rec (motive := fun _ => T AV → Nat → Option (T AV)) (fun t _ => some t) (fun v _ ih t o => cb (lone1 v) (ih (t.putN o (some v)) (Nat.succ o))) l t o
noncomputable def repN {α : Type} (l : List α) (n : Nat) : List α :=
  Nat.rec (motive := fun _ => List α) [] (fun _ ih => appN l ih) n
inductive Out where
  | pv (v : AV)
  | nw (mk : Bn → AV) (o : AO)
  | val (v : AV) (hp : T AO) (nx : Bn)
  | call (f : Nat) (args : List AV)
  | round (b : Bn) (args : List AV)
  | pick (l : List (AV × T AO)) (nx : Bn)
  | pan (v : AV)
  | dfd (d : AD)
  | rcv
noncomputable def eqLN (a b : List Nat) : Bool :=
  List.rec (motive := fun _ => List Nat → Bool) (fun b => List.rec (motive := fun _ => Bool) true (fun _ _ _ => false) b)
    (fun x _ ih b => List.rec (motive := fun _ => Bool) false (fun y m _ => tb (Nat.beq x y) (ih m) false) b) a b
noncomputable def ltLN (a b : List Nat) : Bool :=
  List.rec (motive := fun _ => List Nat → Bool) (fun b => List.rec (motive := fun _ => Bool) false (fun _ _ _ => true) b)
    (fun x _ ih b => List.rec (motive := fun _ => Bool) false (fun y m _ => tb (Nat.blt x y) true (tb (Nat.beq x y) (ih m) false)) b) a b
/-- A text as one number, its first byte last. -/
noncomputable def codeN (l : List Nat) : Nat := List.rec (motive := fun _ => Nat) 0 (fun x _ ih => Nat.add x (Nat.mul 256 ih)) l
noncomputable def chrAt (l : List Nat) (n : Nat) : Option Nat := cb (Nat.blt n (lenN l)) (some (Nat.land (Nat.shiftRight (codeN l) (Nat.mul 8 n)) 255))
noncomputable def unp (m : Nat) (c : Nat) : List Nat := Nat.rec (motive := fun _ => Nat → List Nat) (fun _ => []) (fun _ ih c => Nat.land c 255 :: ih (Nat.shiftRight c 8)) m c
noncomputable def cutN (l : List Nat) (o m : Nat) : List Nat := unp m (Nat.shiftRight (codeN l) (Nat.mul 8 o))
noncomputable def eqTx (a b : List Nat) : Bool := tb (Nat.beq (lenN a) (lenN b)) (Nat.beq (codeN a) (codeN b)) false
noncomputable def notB (a : Bool) : Bool := Bool.rec (motive := fun _ => Bool) true false a
noncomputable def eqB (a b : Bool) : Bool := Bool.rec (motive := fun _ => Bool) (notB b) b a
noncomputable def eqInt (a b : Int) : Bool :=
  Int.rec (motive := fun _ => Int → Bool) (fun x b => Int.rec (motive := fun _ => Bool) (fun y => Nat.beq x y) (fun _ => false) b)
    (fun x b => Int.rec (motive := fun _ => Bool) (fun _ => false) (fun y => Nat.beq x y) b) a b
noncomputable def ltInt (a b : Int) : Bool :=
  Int.rec (motive := fun _ => Int → Bool) (fun x b => Int.rec (motive := fun _ => Bool) (fun y => Nat.blt x y) (fun _ => false) b)
    (fun x b => Int.rec (motive := fun _ => Bool) (fun _ => true) (fun y => Nat.blt y x) b) a b
noncomputable def kindEq (j k : IntKind) : Bool := Nat.beq (kindN j) (kindN k)
/-- Two keys; c: 0 whole numbers, 1 texts, 2 truth values. -/
noncomputable def eqKey0 (c : Nat) (x y : AV) : Option Bool :=
  tb (Nat.beq c 0) (ob (asI x) fun a => ob (asI y) fun b => cb (kindEq a.1 b.1) (some (eqInt a.2 b.2)))
    (tb (Nat.beq c 1) (ob (asS x) fun a => ob (asS y) fun b => some (eqTx a b)) (ob (asB x) fun a => ob (asB y) fun b => some (eqB a b)))
/-- One of the two is nil; k: what kind of type they are of. -/
noncomputable def eqNil (k : Nat) (x y : AV) : Option Bool := ob (nilK x) fun a => ob (nilK y) fun b => cb (Nat.beq a.1 b.1) (cb (Nat.beq a.1 (Nat.mod k 20))
  (tb a.2 (tb b.2 (tb (Nat.beq k 4) none (some true)) (some false)) (tb b.2 (some false) none)))
noncomputable def eqBo (k : Nat) (x y : AV) : Option Bool := cb (Nat.beq (Nat.mod k 20) 5) (ob (asB x) fun a => ob (asB y) fun b => some (eqB a b))
/-- Two parts of one field's type are one. -/
noncomputable def eqPl (d : Option TypeDesc) (x y : AV) : Option Bool := match d with
  | some (.int _) => ob (asI x) fun a => ob (asI y) fun b => cb (kindEq a.1 b.1) (some (eqInt a.2 b.2))
  | some .string => ob (asS x) fun a => ob (asS y) fun b => some (eqTx a b)
  | some .bool => ob (asB x) fun a => ob (asB y) fun b => some (eqB a b)
  | _ => none
noncomputable def eqFs (P : Program) (xs ys : List AV) : List Field → Option Bool
  | [] => some true
  | f :: fs => cb (f.name != "_") (ob (nthO xs f.offset) fun a => ob (nthO ys f.offset) fun b => ob (eqPl (P.underlying f.type) a b) fun r => tb r (eqFs P xs ys fs) (some false))
/-- Two structs of plain fields are one. -/
noncomputable def eqSt (P : Program) (t : TypeId) (xs : List AV) (y : AV) : Option Bool := ob (asAgg y) fun ys => match P.underlying t with
  | some (.struct fs) => cb (notB (P.stoodInHeld t)) (cb (notB (P.eqGuardType P.depth t)) (eqFs P xs ys fs.toList))
  | _ => none
/-- A type of pointers to what is known. -/
def ptrT (P : Program) (t : TypeId) : Bool := match P.underlying t with
  | some (.pointer te) => (P.info? te).isSome
  | _ => false
noncomputable def eqBn (a b : Bn) : Bool :=
  Bn.rec (motive := fun _ => Bn → Bool) (fun b => Bn.rec (motive := fun _ => Bool) true (fun _ _ => false) (fun _ _ => false) b) (fun _ ih b => Bn.rec (motive := fun _ => Bool) false (fun q _ => ih q) (fun _ _ => false) b)
    (fun _ ih b => Bn.rec (motive := fun _ => Bool) false (fun _ _ => false) (fun q _ => ih q) b) a b
/-- Two pointers, none of them nil: one and the same. -/
noncomputable def eqPt (P : Program) (t : TypeId) (a b : Pt) : Option Bool := cb (eqBn a.b b.b) (cb (Nat.beq a.off b.off) (cb (ptrT P t) (some true)))
noncomputable def eqNP (P : Program) (t : TypeId) (k : Nat) (x y : AV) : Option Bool := oc (ob (asPt x) fun a => ob (asPt y) fun b => some (Prod.mk a b)) (eqNil k x y) (fun q => eqPt P t q.1 q.2)
noncomputable def eqAV (P : Program) (t : TypeId) (k : Nat) (x y : AV) : Option Bool :=
  oc (asI x) (oc (asS x) (tb (Nat.beq (Nat.mod k 20) 5) (eqBo k x y) (oc (asAgg x) (eqNP P t k x y) (fun xs => eqSt P t xs y))) (fun a => ob (asS y) fun b => some (eqTx a b)))
    (fun a => ob (asI y) fun b => cb (kindEq a.1 b.1) (some (eqInt a.2 b.2)))
noncomputable def eqE (P : Program) (t : TypeId) (neg : Bool) (k : Nat) (x y : AV) : Option AV := ob (eqAV P t k x y) fun b => some (.bool (tb neg (notB b) b))
noncomputable def slowE (P : Program) (op : BinOp) (t : TypeId) (a b : IntKind × Int) : Option AV :=
  ob (pureRun P (binOp op t (.int a.1 a.2) (.int b.1 b.2))) fun v => ob (cv1 v) fun r => ob (asI r) fun _ => some r
/-- Two numbers of int that are not below 0. -/
noncomputable def natsI (a b : IntKind × Int) : Option (Nat × Nat) := cb (isI64 a.1) (cb (isI64 b.1) (ob (natI a.2) fun x => ob (natI b.2) fun y => some (x, y)))
noncomputable def addQ (P : Program) (t : TypeId) (a b : IntKind × Int) : Option AV := oc (natsI a b) (slowE P .add t a b)
  (fun q => cb (Nat.blt (Nat.add q.1 q.2) 9223372036854775808) (some (.int .i64 (.ofNat (Nat.add q.1 q.2)))))
noncomputable def subQ (P : Program) (t : TypeId) (a b : IntKind × Int) : Option AV := oc (natsI a b) (slowE P .sub t a b)
  (fun q => tb (Nat.ble q.2 q.1) (cb (Nat.blt q.1 9223372036854775808) (some (.int .i64 (.ofNat (Nat.sub q.1 q.2))))) (slowE P .sub t a b))
noncomputable def addE (P : Program) (t : TypeId) (x y : AV) : Option AV :=
  oc (asI x) (ob (asS x) fun a => ob (asS y) fun b => cb (Nat.ble (Nat.add (lenN a) (lenN b)) 1000000) (some (.str (appN a b)))) (fun a => ob (asI y) fun b => addQ P t a b)
noncomputable def subE (P : Program) (t : TypeId) (x y : AV) : Option AV := ob (asI x) fun a => ob (asI y) fun b => subQ P t a b
noncomputable def orB (a b : Bool) : Bool := Bool.rec (motive := fun _ => Bool) b true a
/-- How two are compared: below, at most, above, at least. -/
structure Cm where
  i : Int → Int → Bool
  s : List Nat → List Nat → Bool
noncomputable def cmpE (m : Cm) (x y : AV) : Option AV :=
  oc (asI x) (ob (asS x) fun a => ob (asS y) fun b => some (.bool (m.s a b))) (fun a => ob (asI y) fun b => cb (kindEq a.1 b.1) (some (.bool (m.i a.2 b.2))))
noncomputable def cmL : Cm := ⟨fun a b => ltInt a b, fun a b => ltLN a b⟩
noncomputable def cmM : Cm := ⟨fun a b => notB (ltInt b a), fun a b => orB (ltLN a b) (eqLN a b)⟩
noncomputable def cmA : Cm := ⟨fun a b => ltInt b a, fun a b => notB (orB (ltLN a b) (eqLN a b))⟩
noncomputable def cmG : Cm := ⟨fun a b => notB (ltInt a b), fun a b => notB (ltLN a b)⟩
noncomputable def otherE (P : Program) (op : BinOp) (t : TypeId) (x y : AV) : Option AV := ob (asI x) fun a => ob (asI y) fun b => slowE P op t a b
structure Bi where
  run : Program → Nat → TypeId → AV → AV → Option AV
noncomputable def binE (op : BinOp) : Bi :=
  match op with
  | .add => ⟨fun P _ t x y => addE P t x y⟩
  | .sub => ⟨fun P _ t x y => subE P t x y⟩
  | .eql => ⟨fun P k t x y => eqE P t false k x y⟩
  | .neq => ⟨fun P k t x y => eqE P t true k x y⟩
  | .lss => ⟨fun _ _ _ x y => cmpE cmL x y⟩
  | .gtr => ⟨fun _ _ _ x y => cmpE cmA x y⟩
  | .leq => ⟨fun _ _ _ x y => cmpE cmM x y⟩
  | .geq => ⟨fun _ _ _ x y => cmpE cmG x y⟩
  | op => ⟨fun P _ t x y => otherE P op t x y⟩
/-- How many fields a struct has. -/
def nF (P : Program) (t : TypeId) : Nat := match P.underlying t with
  | some (.struct fs) => fs.size
  | _ => 0
noncomputable def eqStK (P : Program) (t : TypeId) (x y : AV) : Option Bool := ob (asAgg x) fun xs => ob (asAgg y) fun ys => cb (Nat.beq (lenN xs) (nF P t)) (cb (Nat.beq (lenN ys) (nF P t)) (eqSt P t xs y))
/-- Two keys; 3 and more: structs of plain fields, of the type that is 3 less. -/
noncomputable def eqKey (P : Program) (c : Nat) (x y : AV) : Option Bool := tb (Nat.blt c 3) (eqKey0 c x y) (eqStK P (Nat.sub c 3) x y)
/-- A key is one. -/
noncomputable def okKey (P : Program) (c : Nat) (k : AV) : Bool := tb (Nat.blt c 3) true (oc (eqKey P c k k) false (fun b => b))
structure Fd where
  i : Nat
  v : AV
noncomputable def findE (P : Program) (c : Nat) (k : AV) (l : List Me) (i : Nat) : Option (Option Fd) :=
  List.rec (motive := fun _ => Nat → Option (Option Fd)) (fun _ => some none) (fun e _ ih i => ob (eqKey P c k e.k) fun b =>
    tb b (some (some ⟨i, e.v⟩)) (ih (Nat.succ i))) l i
noncomputable def setE (k v : AV) (l : List Me) (i : Nat) : List Me :=
  List.rec (motive := fun _ => Nat → List Me) (fun _ => []) (fun e r ih i => Nat.rec (motive := fun _ => List Me) (⟨k, v, e.born⟩ :: r) (fun j _ => e :: ih j) i) l i
noncomputable def newB (σ : AS) (o : AO) : T AO := σ.hp.put σ.nx (some o)
structure Mp where
  es : List Me
  clock : Nat
structure Mi where
  m : Option Bn
  since : Nat
  seen : List Nat
  last : Nat
noncomputable def memN (i : Nat) (l : List Nat) : Bool :=
  List.rec (motive := fun _ => Bool) false (fun j _ ih => tb (Nat.beq i j) true ih) l
/-- The entries that an iterator has not told yet: the elder ones, or the others. -/
noncomputable def leftE (old : Bool) (since : Nat) (seen : List Nat) (l : List Me) : List Me :=
  List.rec (motive := fun _ => List Me) [] (fun e _ ih => tb (memN e.born seen) ih (tb (eqB (Nat.blt e.born since) old) (e :: ih) ih)) l
noncomputable def lateE (last : Nat) (l : List Me) : Bool := List.rec (motive := fun _ => Bool) true (fun e _ ih => tb (Nat.ble last e.born) ih false) l
noncomputable def isNilL {α : Type} (l : List α) : Bool := List.rec (motive := fun _ => Bool) true (fun _ _ _ => false) l
noncomputable def picksE (hp : T AO) (it : Bn) (q : Mi) (clock : Nat) (l : List Me) : List (AV × T AO) :=
  List.rec (motive := fun _ => List (AV × T AO)) [] (fun e _ ih => (.tup [.bool true, e.k, e.v], hp.put it (some (.miter q.m q.since (e.born :: q.seen) clock))) :: ih) l
structure Ce where
  t : T AV
  n : Nat
  es : Nat
  el : TypeId
structure Lp where
  st : LoopState
  pend : Option Code
  fn : Nat
  tm : T AV
  nt : Nat
  ps : List Nat
  assign : Code
  body : Code
  dfb : Bn
noncomputable def asCe (o : AO) : Option Ce := AO.rec (motive := fun _ => Option Ce) (fun t n es el => some ⟨t, n, es, el⟩) (fun _ _ => none) (fun _ _ _ _ => none) (fun _ _ => none) (fun _ _ _ _ _ _ _ _ _ => none) none o
noncomputable def asMp (o : AO) : Option Mp := AO.rec (motive := fun _ => Option Mp) (fun _ _ _ _ => none) (fun es c => some ⟨es, c⟩) (fun _ _ _ _ => none) (fun _ _ => none) (fun _ _ _ _ _ _ _ _ _ => none) none o
noncomputable def asMi (o : AO) : Option Mi := AO.rec (motive := fun _ => Option Mi) (fun _ _ _ _ => none) (fun _ _ => none) (fun m a s l => some ⟨m, a, s, l⟩) (fun _ _ => none) (fun _ _ _ _ _ _ _ _ _ => none) none o
noncomputable def asSi (o : AO) : Option (List Nat × Nat) := AO.rec (motive := fun _ => Option (List Nat × Nat)) (fun _ _ _ _ => none) (fun _ _ => none) (fun _ _ _ _ => none) (fun s p => some (s, p)) (fun _ _ _ _ _ _ _ _ _ => none) none o
noncomputable def asLp (o : AO) : Option Lp := AO.rec (motive := fun _ => Option Lp) (fun _ _ _ _ => none) (fun _ _ => none) (fun _ _ _ _ => none) (fun _ _ => none) (fun st pend fn tm nt ps assign body dfb => some ⟨st, pend, fn, tm, nt, ps, assign, body, dfb⟩) none o
noncomputable def cellsAt (hp : T AO) (b : Bn) : Option Ce := ob (hp.get b) asCe
noncomputable def mapAt (hp : T AO) (b : Bn) : Option Mp := ob (hp.get b) asMp
noncomputable def lpAt (hp : T AO) (b : Bn) : Option Lp := ob (hp.get b) asLp
noncomputable def mapBytes (l : List Nat) : List AV := List.rec (motive := fun _ => List AV) [] (fun n _ ih => .int .u8 (.ofNat n) :: ih) l
noncomputable def readSl (hp : T AO) (size : Nat) (s : Sl) : Option (List AV) := ob (cellsAt hp s.b) fun c =>
  cb (Nat.ble (Nat.add s.off (Nat.mul s.len size)) c.n) (readN c.t s.off (Nat.mul s.len size))
/-- A slice's elements (its cells). -/
noncomputable def sliceCells (hp : T AO) (size : Nat) (v : AV) : Option (List AV) :=
  oc (asSl v) (oc (asS v) (cb (noEl v) (some [])) (fun l => some (mapBytes l))) (fun s => readSl hp size s)
noncomputable def lenE (v : AV) : Option Nat := oc (asSl v) (oc (asS v) (cb (noEl v) (some 0)) (fun l => some (lenN l))) (fun s => some s.len)
noncomputable def dSlice (d : TypeDesc) : Option TypeId := match d with
  | .slice e => some e
  | _ => none
noncomputable def dMap (d : TypeDesc) : Option TypeId := match d with
  | .map _ e => some e
  | _ => none
noncomputable def dStr (d : TypeDesc) : Bool := match d with
  | .string => true
  | _ => false
noncomputable def dByte (d : TypeDesc) : Bool := match d with
  | .int .u8 => true
  | _ => false
noncomputable def dPtr (d : TypeDesc) : Option TypeId := match d with
  | .pointer e => some e
  | _ => none
noncomputable def dUns (d : TypeDesc) : Bool := match d with
  | .unsafePointer => true
  | _ => false
noncomputable def isK0 (x : AV) : Bool := oc (nilK x) false (fun p => tb p.2 (Nat.beq p.1 0) false)
noncomputable def dIface (d : TypeDesc) : Option (List (String × TypeId)) := match d with
  | .interface ms => some ms.toList
  | _ => none
noncomputable def dArr (d : TypeDesc) : Option (Nat × TypeId) := match d with
  | .array n e => some (n, e)
  | _ => none
noncomputable def dFields (d : TypeDesc) : Option (List TypeId) := match d with
  | .struct fs => some (fs.toList.map fun f => f.type)
  | _ => none
noncomputable def Tab.t (T0 : Tab) (t : TypeId) : Option TyI := T0.ty.get (pOf t)
/-- The element type of a slice type, and what is known of it. -/
noncomputable def elemI (T0 : Tab) (t : TypeId) : Option (TypeId × TyI) := ob (T0.t t) fun i => ob (dSlice i.d) fun e => ob (T0.t e) fun ei => some (e, ei)
noncomputable def mkCells (l : List AV) (n es : Nat) (el : TypeId) : AO := .cells (T.ofL (Nat.succ (lenN l)) l) n es el
noncomputable def appNew (σ : AS) (el : TypeId) (size n : Nat) (l : List AV) : Option Out :=
  some (.val (.slu σ.nx 0 n 0) (newB σ (mkCells l (Nat.mul n size) size el)) σ.nx.succ)
noncomputable def appIn (σ : AS) (s : Sk) (n size : Nat) (new : List AV) : Option Out := ob (cellsAt σ.hp s.b) fun c =>
  cb (Nat.ble (Nat.add s.off (Nat.mul (Nat.add s.len n) size)) c.n) (ob (writeN c.t (Nat.add s.off (Nat.mul s.len size)) new) fun t =>
    some (.val (.slk s.b s.off (Nat.add s.len n) s.c) (σ.hp.put s.b (some (.cells t c.n c.es c.el))) σ.nx))
noncomputable def allL (l : List AV) : Bool := List.rec (motive := fun _ => Bool) true (fun v _ ih => tb (lone1 v) ih false) l
noncomputable def appV (σ : AS) (size : Nat) (s : Sk) (n : Nat) (new : List AV) (c : Ce) : Option Out :=
  ob (tb (Nat.beq s.off 0) (writeN c.t (Nat.mul s.len size) new) (cb (allL new) (ob (readN c.t s.off (Nat.mul s.len size)) fun old => some (T.ofL (Nat.succ (lenN (appN old new))) (appN old new))))) fun t =>
    some (.val (.slu σ.nx 0 (Nat.add s.len n) 0) ((σ.hp.put s.b none).put σ.nx (some (.cells t (Nat.mul (Nat.add s.len n) size) size c.el))) σ.nx.succ)
noncomputable def appU (σ : AS) (el : TypeId) (size : Nat) (s : Sk) (n : Nat) (new : List AV) : Option Out := ob (cellsAt σ.hp s.b) fun c =>
  cb (Nat.blt 0 size) <| cb (Nat.beq c.el el) <| cb (Nat.beq c.es size) (cb (Nat.beq s.off (Nat.mul s.c size)) (cb (Nat.ble (Nat.add s.off (Nat.mul s.len size)) c.n)
    (tb (Nat.ble (Nat.add s.off (Nat.mul (Nat.add s.len n) size)) c.n)
      (ob (writeN c.t (Nat.add s.off (Nat.mul s.len size)) new) fun t => some (.val (.slu s.b s.off (Nat.add s.len n) s.c) (σ.hp.put s.b (some (.cells t c.n c.es c.el))) σ.nx))
      (appV σ size s n new c))))
noncomputable def appTo (σ : AS) (el : TypeId) (size n : Nat) (new : List AV) (s : AV) : Option Out :=
  oc (asSu s) (oc (asSk s) (cb (isSl0 s) (tb (Nat.beq n 0) (some (.pv .sl0)) (appNew σ el size n new)))
    (fun k => tb (Nat.ble (Nat.add k.len n) k.c) (appIn σ k n size new) (ob (readSl σ.hp size ⟨k.b, k.off, k.len⟩) fun old => appNew σ el size (Nat.add k.len n) (appN old new))))
    (fun u => appU σ el size u n new)
noncomputable def lenSl (x : AV) : Option Nat := oc (asSl x) (cb (noEl x) (some 0)) (fun s => some s.len)
noncomputable def appendE (T0 : Tab) (σ : AS) (st : TypeId) (s x : AV) : Option Out := ob (elemI T0 st) fun q =>
  ob (sliceCells σ.hp q.2.size x) fun new => ob (lenE x) fun n => ob (lenSl s) fun m => cb (oc (asS x) true (fun _ => Nat.beq q.2.size 1)) (cb (Nat.ble (Nat.mul (Nat.add m n) (Nat.succ q.2.bytes)) 1000000000) (appTo σ q.1 q.2.size n new s))
noncomputable def bnd (v : Option AV) (d : Nat) : Option Nat := oc v (some d) intOf
noncomputable def cutS (s : List Nat) (l : Nat) (hi : Option AV) : Option AV := ob (bnd hi (lenN s)) fun h =>
  cb (Nat.ble l h) (cb (Nat.ble h (lenN s)) (some (.str (cutN s l (Nat.sub h l)))))
noncomputable def cutK (ei : Nat) (s : Sk) (l : Nat) (hi : Option AV) : Option AV := ob (bnd hi s.len) fun h =>
  cb (Nat.ble l h) (cb (Nat.ble h s.c) (some (.slk s.b (tb (Nat.beq l s.c) s.off (Nat.add s.off (Nat.mul l ei))) (Nat.sub h l) (Nat.sub s.c l))))
noncomputable def cutU (hp : T AO) (ei : Nat) (s : Sk) (l : Nat) (hi : Option AV) : Option AV := ob (bnd hi s.len) fun h => ob (cellsAt hp s.b) fun c =>
  cb (Nat.blt 0 ei) <| cb (Nat.beq c.es ei) (cb (Nat.beq s.off (Nat.mul s.c ei)) (cb (Nat.ble l h) (cb (Nat.ble (Nat.add s.off (Nat.mul h ei)) c.n)
    (some (tb (Nat.blt (Nat.add s.off (Nat.mul l ei)) c.n) (.slu s.b (Nat.add s.off (Nat.mul l ei)) (Nat.sub h l) (Nat.add s.c l)) .sle)))))
noncomputable def cut0 (l : Nat) (hi : Option AV) : Option AV := ob (bnd hi 0) fun h => cb (Nat.beq h 0) (cb (Nat.beq l 0) (some .sl0))
noncomputable def sliceS (x : AV) (lo hi : Option AV) : Option AV := ob (bnd lo 0) fun l => ob (asS x) fun s => cutS s l hi
noncomputable def sliceE (hp : T AO) (ei : Nat) (x : AV) (lo hi : Option AV) : Option AV := ob (bnd lo 0) fun l =>
  oc (asSu x) (oc (asSk x) (cb (isSl0 x) (cut0 l hi)) (fun k => cutK ei k l hi)) (fun u => cutU hp ei u l hi)
noncomputable def cut3 (ei : Nat) (b : Bn) (off cap l h m : Nat) : Option AV :=
  cb (Nat.ble l h) (cb (Nat.ble h m) (cb (Nat.ble m cap) (some (.slk b (tb (Nat.beq l m) off (Nat.add off (Nat.mul l ei))) (Nat.sub h l) (Nat.sub m l)))))
noncomputable def slice3E (ei : Nat) (x : AV) (lo : Option AV) (hi mx : AV) : Option AV := ob (bnd lo 0) fun l => ob (intOf hi) fun h => ob (intOf mx) fun m =>
  oc (asSu x) (oc (asSk x) (cb (isSl0 x) (cb (Nat.beq m 0) (cb (Nat.beq h 0) (cb (Nat.beq l 0) (some .sl0))))) (fun k => cut3 ei k.b k.off k.c l h m)) (fun u => cut3 ei u.b u.off u.len l h m)
noncomputable def calleeE (v : AV) (args : List AV) : Option Out :=
  oc (asFv v) (ob (asYield v) fun b => some (.round b args)) (fun f => ob (fnF f.fn) fun g => some (.call g (appN f.first (appN args f.cap))))
noncomputable def valE (σ : AS) (v : Option AV) : Option Out := ob v fun v => some (.pv v)
noncomputable def natV (σ : AS) (n : Nat) : Option Out := some (.pv (.int .i64 (.ofNat n)))
noncomputable def lenS (σ : AS) (x : AV) : Option Out := ob (asS x) fun l => natV σ (lenN l)
noncomputable def lenL (σ : AS) (x : AV) : Option Out := ob (lenSl x) fun n => natV σ n
noncomputable def lenM (σ : AS) (x : AV) : Option Out := ob (asMap x) fun m => oc m (natV σ 0) (fun b => ob (mapAt σ.hp b) fun m => natV σ (lenN m.es))
noncomputable def lenC (T0 : Tab) (t : TypeId) : Option (AS → List AV → Option Out) := ob (T0.t t) fun i =>
  tb (dStr i.d) (some (fun σ args => ob (nthO args 0) fun x => lenS σ x)) (oc (dSlice i.d) (ob (dMap i.d) fun _ => some (fun σ args => ob (nthO args 0) fun x => lenM σ x)) (fun _ => some (fun σ args => ob (nthO args 0) fun x => lenL σ x)))
noncomputable def clearE (T0 : Tab) (σ : AS) (t : TypeId) (x : AV) : Option Out := ob (elemI T0 t) fun q => oc (asSl x) (cb (noEl x) (some (.pv (.tup [])))) (fun s => tb (Nat.beq s.len 0) (some (.pv (.tup []))) (ob (cellsAt σ.hp s.b) fun c =>
  cb (Nat.ble (Nat.add s.off (Nat.mul s.len q.2.size)) c.n) (ob (writeN c.t s.off (repN q.2.zero s.len)) fun t' =>
    some (.val (.tup []) (σ.hp.put s.b (some (.cells t' c.n c.es c.el))) σ.nx))))
noncomputable def minE (mx : Bool) (x y : AV) : Option AV := ob (asI x) fun a => ob (asI y) fun b => cb (kindEq a.1 b.1)
  (some (.int a.1 (tb (tb mx (ltInt a.2 b.2) (ltInt b.2 a.2)) b.2 a.2)))
noncomputable def headL {α : Type} (l : List α) : Option α := List.rec (motive := fun _ => Option α) none (fun x _ _ => some x) l
/-- The first elements of what is copied. -/
noncomputable def firstK (hp : T AO) (size : Nat) (y : AV) (k : Nat) : Option (List AV) :=
  oc (asSl y) (oc (asS y) (cb (noEl y) (cb (Nat.beq k 0) (some []))) (fun l => cb (Nat.beq size 1) (cb (Nat.ble k (lenN l)) (some (mapBytes (takeN l k)))))) (fun s => readSl hp size ⟨s.b, s.off, k⟩)
noncomputable def copyK (σ : AS) (size : Nat) (s : Sl) (y : AV) (k : Nat) : Option Out := ob (firstK σ.hp size y k) fun src => ob (cellsAt σ.hp s.b) fun c => cb (Nat.ble (Nat.add s.off (Nat.mul k size)) c.n) (ob (writeN c.t s.off src) fun t' =>
  some (.val (.int .i64 (.ofNat k)) (σ.hp.put s.b (some (.cells t' c.n c.es c.el))) σ.nx))
noncomputable def copyE (T0 : Tab) (σ : AS) (t : TypeId) (x y : AV) : Option Out := ob (elemI T0 t) fun q => ob (lenE y) fun n => tb (isSl0 x) (ob (firstK σ.hp q.2.size y 0) fun _ => natV σ 0) (ob (asSl x) fun s => copyK σ q.2.size s y (tb (Nat.ble n s.len) n s.len))
/-- Where a slice's elements lie (of one that has room). -/
noncomputable def dataE (x : AV) : Option AV := oc (asSk x) (oc (asSu x) (cb (isSl0 x) (some .ptr0)) (fun s => cb (Nat.blt 0 s.len) (some (.ptr s.b s.off)))) (fun s => cb (Nat.blt 0 s.c) (some (.ptr s.b s.off)))
noncomputable def bytesL (l : List AV) : Option (List Nat) :=
  List.rec (motive := fun _ => Option (List Nat)) (some []) (fun v _ ih => ob (asI v) fun a => cb (kindEq a.1 .u8) (ob (natI a.2) fun n => cb (Nat.blt n 256) (ob ih fun r => some (n :: r)))) l
/-- So many bytes at a pointer become a string; the row is not looked at any more. -/
noncomputable def strAt (T0 : Tab) (σ : AS) (p : Pt) (n : Nat) : Option Out := ob (cellsAt σ.hp p.b) fun c => cb (Nat.ble (Nat.add p.off n) c.n) (ob (T0.t c.el) fun i => cb (dByte i.d) (cb (Nat.beq (T0.P.cellsOf c.el) 1) (cb (Nat.ble n 1000000) (ob (readN c.t p.off n) fun l =>
  ob (bytesL l) fun s => some (.val (.str s) (σ.hp.put p.b none) σ.nx)))))
noncomputable def toPtr (T0 : Tab) (t : TypeId) : Option Nat := ob (T0.t t) fun i => dPtr i.d
noncomputable def strE (T0 : Tab) (pt : TypeId) (σ : AS) (x y : AV) : Option Out := ob (asI y) fun a => cb (isI64 a.1) (ob (natI a.2) fun n =>
  tb (Nat.beq n 0) (tb (isK0 x) (some (.pv (.str []))) (ob (asPt x) fun _ => some (.pv (.str [])))) (ob (asPt x) fun p => ob (toPtr T0 pt) fun e => ob (T0.t e) fun i => cb (dByte i.d) (cb (Nat.beq (T0.P.cellsOf e) 1) (ob (cellsAt σ.hp p.b) fun c => cb (Nat.beq c.el e) (strAt T0 σ p n)))))
noncomputable def keyC (d : TypeDesc) : Option Nat := match d with
  | .int _ => some 0
  | .string => some 1
  | .bool => some 2
  | _ => none
/-- A type of whole numbers, texts or truth values. -/
def plainT (P : Program) (t : TypeId) : Bool := match P.underlying t with
  | some (.int _) => true
  | some .string => true
  | some .bool => true
  | _ => false
/-- What kind of key a type is: 3 more than its number where it is a struct of plain fields. -/
def keyS (P : Program) (k : TypeId) (d : TypeDesc) : Option Nat := match d with
  | .struct fs => if fs.toList.map (fun f => f.offset) == List.range fs.size && fs.toList.all (fun f => f.name != "_" && plainT P f.type) then some (3 + k) else none
  | _ => none
noncomputable def keyD (P : Program) (k : TypeId) (d : TypeDesc) : Option Nat := oc (keyC d) (keyS P k d) (fun c => some c)
/-- What kind of key a map's type has. -/
noncomputable def keyT (T0 : Tab) (t : TypeId) : Option Nat := ob (T0.t t) fun i => match i.d with
  | .map k _ => ob (T0.t k) fun ki => keyD T0.P k ki.d
  | _ => none
noncomputable def delL (l : List Me) (i : Nat) : List Me := appN (takeN l i) (dropN l (Nat.succ i))
noncomputable def delE (P : Program) (σ : AS) (c : Nat) (x k : AV) : Option Out := ob (asMap x) fun m => oc m (some (.pv (.tup []))) (fun b => ob (mapAt σ.hp b) fun m => ob (findE P c k m.es 0) fun r =>
  oc r (some (.pv (.tup []))) (fun q => some (.val (.tup []) (σ.hp.put b (some (.map (delL m.es q.i) m.clock))) σ.nx)))
noncomputable def capE (σ : AS) (x : AV) : Option Out := tb (isSl0 x) (natV σ 0) (ob (asSk x) fun s => natV σ s.c)
/-- The type of what is appended is a slice's or a string. -/
noncomputable def rowT (T0 : Tab) (ts : List TypeId) : Bool := oc (ob (nthO ts 1) fun t => T0.t t) false (fun i => oc (dSlice i.d) (dStr i.d) (fun _ => true))
/-- So many zero values are appended. -/
noncomputable def appendZ (T0 : Tab) (σ : AS) (st : TypeId) (s x : AV) : Option Out := ob (elemI T0 st) fun q => ob (asI x) fun a => cb (isI64 a.1) (ob (natI a.2) fun n => ob (lenSl s) fun m =>
  cb (Nat.ble (Nat.mul (Nat.add m n) (Nat.succ q.2.bytes)) 1000000000) (appTo σ q.1 q.2.size n (repN q.2.zero n) s))
noncomputable def dInt (d : TypeDesc) : Bool := match d with
  | .int _ => true
  | _ => false
noncomputable def intT (T0 : Tab) (ts : List TypeId) : Bool := oc (ob (nthO ts 1) fun t => T0.t t) false (fun i => dInt i.d)
noncomputable def builtinE (T0 : Tab) (b : Builtin) (t : TypeId) (ts : List TypeId) : Option (AS → List AV → Option Out) := match b with
  | .len => lenC T0 t
  | .append => tb (rowT T0 ts) (some (fun σ args => ob (nthO args 0) fun x => ob (nthO args 1) fun y => appendE T0 σ t x y)) (cb (intT T0 ts) (some (fun σ args => ob (nthO args 0) fun x => ob (nthO args 1) fun y => appendZ T0 σ t x y)))
  | .cap => ob (T0.t t) fun i => ob (dSlice i.d) fun _ => some (fun σ args => ob (nthO args 0) fun x => capE σ x)
  | .copy => some (fun σ args => ob (nthO args 0) fun x => ob (nthO args 1) fun y => copyE T0 σ t x y)
  | .clear => some (fun σ args => ob (nthO args 0) fun x => clearE T0 σ t x)
  | .min => some (fun σ args => cb (Nat.beq (lenN args) 2) (ob (nthO args 0) fun x => ob (nthO args 1) fun y => valE σ (minE false x y)))
  | .max => some (fun σ args => cb (Nat.beq (lenN args) 2) (ob (nthO args 0) fun x => ob (nthO args 1) fun y => valE σ (minE true x y)))
  | .unsafeSliceData => some (fun σ args => cb (Nat.beq (lenN args) 1) (ob (nthO args 0) fun x => valE σ (dataE x)))
  | .unsafeString => ob (nthO ts 0) fun pt => some (fun σ args => cb (Nat.beq (lenN args) 2) (ob (nthO args 0) fun x => ob (nthO args 1) fun y => strE T0 pt σ x y))
  | _ => none
noncomputable def zeroOf (i : TyI) : Option AV := some i.zv
noncomputable def newOut (σ : AS) (o : AO) : Option Out := some (.nw (fun b => .ptr b 0) o)
noncomputable def opPick (σ : AS) (c a b : Operand) : Option Out := ob (opnd σ.tm c) fun v => ob (asB v) fun t => tb t (valE σ (opnd σ.tm a)) (valE σ (opnd σ.tm b))
noncomputable def opAlloc (σ : AS) (i : TyI) (el : TypeId) : Option Out := newOut σ (mkCells i.zero (lenN i.zero) 0 el)
noncomputable def opBox (σ : AS) (el : TypeId) (x : Operand) : Option Out := ob (opnd σ.tm x) fun v => newOut σ (mkCells v.cells (lenN v.cells) 0 el)
noncomputable def opBuildS (σ : AS) (i : TyI) (ps : List (Nat × Operand)) : Option Out := ob (parts σ.tm ps) fun l =>
  ob (fillA (fun j => nthO i.offs j) l i.zero) fun cs => some (.pv (.agg cs))
noncomputable def opBuildA (σ : AS) (i ei : TyI) (ps : List (Nat × Operand)) : Option Out := ob (parts σ.tm ps) fun l =>
  ob (fillA (fun j => some (Nat.mul j ei.size, ei.size)) l i.zero) fun cs => some (.pv (.agg cs))
noncomputable def opBuildSlice (σ : AS) (e : TypeId) (ei : TyI) (len : Nat) (ps : List (Nat × Operand)) : Option Out := cb (Nat.ble (Nat.mul len ei.size) 16777216) <| ob (parts σ.tm ps) fun l =>
  ob (fillA (fun j => some (Nat.mul j ei.size, ei.size)) l (repN ei.zero len)) fun cs =>
    some (.nw (fun b => .slk b 0 len len) (mkCells cs (lenN cs) 0 e))
noncomputable def loadE (hp : T AO) (i : TyI) (p : Pt) : Option AV := ob (cellsAt hp p.b) fun c =>
  tb i.agg (cb (Nat.ble (Nat.add p.off i.size) c.n) (ob (readN c.t p.off i.size) fun l => some (.agg l))) (cb (Nat.blt p.off c.n) (c.t.getN p.off))
noncomputable def ptO (σ : AS) (x : Operand) : Option Pt := ob (opnd σ.tm x) asPt
noncomputable def opLoad (σ : AS) (i : TyI) (a : Operand) : Option Out := ob (ptO σ a) fun p => valE σ (loadE σ.hp i p)
noncomputable def storeE (σ : AS) (size : Nat) (p : Pt) (l : List AV) : Option Out := ob (cellsAt σ.hp p.b) fun c =>
  cb (Nat.beq (lenN l) size) (cb (Nat.ble (Nat.add p.off size) c.n) (ob (writeN c.t p.off l) fun t =>
    some (.val (.tup []) (σ.hp.put p.b (some (.cells t c.n c.es c.el))) σ.nx)))
noncomputable def opStore (σ : AS) (i : TyI) (a x : Operand) : Option Out := ob (ptO σ a) fun p => ob (opnd σ.tm x) fun v => storeE σ i.size p v.cells
noncomputable def opNil (σ : AS) (x : Operand) : Option Out := ob (opnd σ.tm x) fun v => cb (okNilK v) (some (.pv v))
noncomputable def opBin (P : Program) (σ : AS) (f : Program → Nat → TypeId → AV → AV → Option AV) (k : Nat) (t : TypeId) (x y : Operand) : Option Out :=
  ob (opnd σ.tm x) fun a => ob (opnd σ.tm y) fun b => valE σ (f P k t a b)
noncomputable def dKind (d : TypeDesc) : Nat := match d with
  | .pointer _ => 0
  | .slice _ => 1
  | .map _ _ => 2
  | .func _ _ _ => 3
  | .interface _ => 4
  | .bool => 5
  | _ => 9
noncomputable def isCst (x : Operand) : Bool := Operand.rec (motive := fun _ => Bool) (fun _ => false) (fun _ => true) (fun _ => false) (fun _ => false) x
noncomputable def orB' (a b : Bool) : Bool := Bool.rec (motive := fun _ => Bool) b true a
/-- The kind of a type; 20 more where one operand is a constant. -/
noncomputable def kindT (T0 : Tab) (x y : Operand) (t : TypeId) : Nat := oc (T0.t t) 9 (fun i => tb (orB' (isCst x) (isCst y)) (Nat.add (dKind i.d) 20) (dKind i.d))
noncomputable def isNot (op : UnOp) : Bool := match op with
  | .not => true
  | _ => false
noncomputable def unE (P : Program) (op : UnOp) (v : AV) : Option AV :=
  oc (asB v) (ob (asI v) fun a => ob (pureRun P (Op.unary op (.int a.1 a.2))) fun v => ob (cv1 v) fun r => ob (asI r) fun _ => some r) (fun b => cb (isNot op) (some (.bool (notB b))))
noncomputable def bytesE (l : List AV) : Option (List Nat) :=
  List.rec (motive := fun _ => Option (List Nat)) (some []) (fun v _ ih => ob (asI v) fun a => cb (kindEq a.1 .u8) (ob (natI a.2) fun n => cb (Nat.blt n 256) (ob ih fun r => some (n :: r)))) l
noncomputable def convBytes (hp : T AO) (x : AV) : Option AV := oc (asS x) (ob (sliceCells hp 1 x) fun l => ob (bytesE l) fun s => some (.str s)) (fun _ => none)
/-- Which way a conversion goes: 0 int to int, 1 string to string, 2 bytes to string. -/
noncomputable def convK (T0 : Tab) (src dst : TypeId) : Option Nat := ob (T0.t src) fun s => ob (T0.t dst) fun d =>
  tb (dStr d.d) (tb (dStr s.d) (some 1) (ob (dSlice s.d) fun e => ob (T0.t e) fun ei => cb (dByte ei.d) (some 2))) (tb (dUns d.d) (ob (dPtr s.d) fun _ => some 3) (tb (dUns s.d) (ob (dPtr d.d) fun _ => some 4) (some 0)))
/-- What a pointer's type points to has a size. -/
noncomputable def sizedT (P : Program) (t : TypeId) : Bool := match P.underlying t with
  | some (.pointer te) => (match P.info? te with
    | some i => notB (Nat.beq i.size 0)
    | none => false)
  | _ => false
noncomputable def toUns (P : Program) (hp : T AO) (src : TypeId) (v : AV) : Option AV := ob (asPt v) fun p => ob (cellsAt hp p.b) fun c => cb (Nat.blt p.off c.n) (cb (sizedT P src) (some v))
def liesT0 (P : Program) (el : TypeId) (n off : Nat) (dst : TypeId) : Bool := match P.underlying dst with
  | some (.pointer u) => (match P.info? u with
    | some _ => liesAt P P.depth el (n / P.cellsOf el) off u 1
    | none => false)
  | _ => false
noncomputable def fromUns (P : Program) (hp : T AO) (dst : TypeId) (v : AV) : Option AV := ob (asPt v) fun p => ob (cellsAt hp p.b) fun c => cb (Nat.beq c.es 0) (cb (Nat.blt 0 c.n) (cb (liesT0 P c.el c.n p.off dst) (some v)))
noncomputable def convE (P : Program) (hp : T AO) (k : Nat) (src dst : TypeId) (v : AV) : Option AV :=
  tb (Nat.beq k 0) (ob (asI v) fun a => ob (pureRun P (convert src dst (.int a.1 a.2))) fun v => ob (cv1 v) fun r => ob (asI r) fun _ => some r)
    (tb (Nat.beq k 1) (ob (asS v) fun l => some (.str l)) (tb (Nat.beq k 2) (convBytes hp v) (tb (Nat.beq k 3) (toUns P hp src v) (fromUns P hp dst v))))
noncomputable def opFunc (σ : AS) (f : Nat) (first cap : List Operand) : Option Out := ob (opnds σ.tm first) fun a => ob (opnds σ.tm cap) fun b =>
  some (.pv (.func (.func f) a b))
noncomputable def mapNew (σ : AS) : Option Out := some (.nw (fun b => .map b) (.map [] 0))
noncomputable def opMap (σ : AS) (r : Option Operand) : Option Out := oc r (mapNew σ) (fun r => ob (opnd σ.tm r) fun v => ob (asI v) fun _ => mapNew σ)
noncomputable def natO (σ : AS) (x : Operand) : Option Nat := ob (opnd σ.tm x) intOf
noncomputable def opMakeSlice (σ : AS) (e : TypeId) (ei : TyI) (l c : Operand) : Option Out := ob (natO σ l) fun len => ob (natO σ c) fun cap =>
  cb (Nat.ble len cap) (cb (Nat.ble (Nat.mul cap (Nat.succ ei.bytes)) 1000000000) (some (.nw (fun b => .slk b 0 len cap) (mkCells (repN ei.zero cap) (Nat.mul cap ei.size) 0 e))))
noncomputable def okO (tm : T AV) (x : Option Operand) : Option (Option AV) := oc x (some none) (fun x => ob (opnd tm x) fun v => some (some v))
noncomputable def opSliceS (σ : AS) (x : Operand) (lo hi : Option Operand) : Option Out := ob (opnd σ.tm x) fun v => ob (okO σ.tm lo) fun l => ob (okO σ.tm hi) fun h =>
  valE σ (sliceS v l h)
noncomputable def opSlice (σ : AS) (es : Nat) (x : Operand) (lo hi : Option Operand) : Option Out := ob (opnd σ.tm x) fun v => ob (okO σ.tm lo) fun l => ob (okO σ.tm hi) fun h =>
  valE σ (sliceE σ.hp es v l h)
noncomputable def opSlice3 (σ : AS) (es : Nat) (x : Operand) (lo : Option Operand) (hi mx : Operand) : Option Out := ob (opnd σ.tm x) fun v => ob (okO σ.tm lo) fun l =>
  ob (opnd σ.tm hi) fun h => ob (opnd σ.tm mx) fun m => valE σ (slice3E es v l h m)
noncomputable def opFieldAddr (σ : AS) (q : Nat × Nat) (x : Operand) : Option Out := ob (ptO σ x) fun p => tb (Nat.beq q.2 0) none (some (.pv (.ptr p.b (Nat.add p.off q.1))))
noncomputable def partE (fi : TyI) (o : Nat) (l : List AV) : Option AV := tb fi.agg (some (.agg (takeN (dropN l o) fi.size))) (nthO l o)
noncomputable def opField (σ : AS) (fi : TyI) (o : Nat) (x : Operand) : Option Out := ob (opnd σ.tm x) fun v => ob (asAgg v) fun l => valE σ (partE fi o l)
noncomputable def idxAddr (σ : AS) (len size n : Nat) (b : Bn) (off : Nat) : Option Out := cb (Nat.blt n len) (some (.pv (.ptr b (Nat.add off (Nat.mul n size)))))
noncomputable def opIndexS (σ : AS) (size : Nat) (x i : Operand) : Option Out := ob (opnd σ.tm x) fun v => ob (natO σ i) fun n => ob (asSl v) fun s => idxAddr σ s.len size n s.b s.off
noncomputable def opIndexA (σ : AS) (len size : Nat) (x i : Operand) : Option Out := ob (ptO σ x) fun p => ob (natO σ i) fun n => idxAddr σ len size n p.b p.off
noncomputable def opIndex (σ : AS) (x i : Operand) : Option Out := ob (opnd σ.tm x) fun v => ob (asS v) fun s => ob (natO σ i) fun n => ob (chrAt s n) fun c =>
  some (.pv (.int .u8 (.ofNat c)))
noncomputable def entriesE (hp : T AO) (v : AV) : Option (List Me) := ob (asMap v) fun m => oc m (some []) (fun b => ob (mapAt hp b) fun m => some m.es)
noncomputable def okV (ok : Bool) (found : Bool) (v : AV) : AV := tb ok (.tup [v, .bool found]) v
noncomputable def opLookup (P : Program) (σ : AS) (c : Nat) (ei : TyI) (x i : Operand) (ok : Bool) : Option Out := ob (opnd σ.tm x) fun v => ob (opnd σ.tm i) fun k =>
  cb (okKey P c k) <| ob (entriesE σ.hp v) fun es => ob (findE P c k es 0) fun r => oc r (ob (zeroOf ei) fun z => some (.pv (okV ok false z))) (fun q => some (.pv (okV ok true q.v)))
noncomputable def putMap (σ : AS) (b : Bn) (es : List Me) (clock : Nat) : Option Out := some (.val (.tup []) (σ.hp.put b (some (.map es clock))) σ.nx)
noncomputable def opUpdate (P : Program) (σ : AS) (c : Nat) (m k x : Operand) : Option Out := ob (opnd σ.tm m) fun mv => ob (asMap mv) fun mb => ob mb fun b => ob (opnd σ.tm k) fun q => ob (opnd σ.tm x) fun v =>
  cb (okKey P c q) <| ob (mapAt σ.hp b) fun m => ob (findE P c q m.es 0) fun r => oc r (putMap σ b (appN m.es [⟨q, v, m.clock⟩]) (Nat.succ m.clock)) (fun i => putMap σ b (setE q v m.es i.i) m.clock)
noncomputable def opRangeS (σ : AS) (x : Operand) : Option Out := ob (opnd σ.tm x) fun v => ob (asS v) fun s => newOut σ (.siter s 0)
noncomputable def opRangeM (σ : AS) (x : Operand) : Option Out := ob (opnd σ.tm x) fun v => ob (asMap v) fun m => oc m (newOut σ (.miter none 0 [] 0)) (fun b => ob (mapAt σ.hp b) fun q => newOut σ (.miter (some b) q.clock [] q.clock))
noncomputable def overE (σ : AS) : AV × T AO := (.tup [.bool false], σ.hp)
noncomputable def nextMap (σ : AS) (it : Bn) (q : Mi) (m : Mp) : Option Out := cb (orB (isNilL q.seen) (orB (isNilL m.es) (notB (lateE q.last m.es))))
  (some (.pick (tb (isNilL (leftE true q.since q.seen m.es)) (overE σ :: picksE σ.hp it q m.clock (leftE false q.since q.seen m.es))
    (picksE σ.hp it q m.clock (appN (leftE true q.since q.seen m.es) (leftE false q.since q.seen m.es)))) σ.nx))
noncomputable def nextStr (σ : AS) (b : Bn) (s : List Nat) (pos : Nat) : Option Out := oc (chrAt s pos) (some (.pv (.tup [.bool false])))
  (fun c => cb (Nat.blt c 128) (some (.val (.tup [.bool true, .int .i64 (.ofNat pos), .int .i32 (.ofNat c)]) (σ.hp.put b (some (.siter s (Nat.succ pos)))) σ.nx)))
structure Ib where
  b : Bn
  o : AO
noncomputable def itO (σ : AS) (it : Operand) : Option Ib := ob (ptO σ it) fun p => cb (Nat.beq p.off 0) (ob (σ.hp.get p.b) fun o => some ⟨p.b, o⟩)
noncomputable def opNextS (σ : AS) (it : Operand) : Option Out := ob (itO σ it) fun q => ob (asSi q.o) fun s => nextStr σ q.b s.1 s.2
noncomputable def opNextM (σ : AS) (it : Operand) : Option Out := ob (itO σ it) fun q => ob (asMi q.o) fun s =>
  oc s.m (some (.pv (.tup [.bool false]))) (fun m => ob (mapAt σ.hp m) fun e => nextMap σ q.b s e)
noncomputable def bornE (b : Nat) (l : List Me) : Option Me := List.rec (motive := fun _ => Option Me) none (fun e _ ih => tb (Nat.beq e.born b) (some e) ih) l
noncomputable def opEntry (σ : AS) (it : Operand) : Option Out := ob (itO σ it) fun q => ob (asMi q.o) fun s => ob s.m fun m => ob (headL s.seen) fun i =>
  ob (mapAt σ.hp m) fun es => cb (Nat.beq es.clock s.last) (ob (bornE i es.es) fun e => some (.pv (.tup [e.k, e.v])))
noncomputable def opExtract (σ : AS) (x : Operand) (i : Nat) : Option Out := ob (opnd σ.tm x) fun v => ob (asTup v) fun l => valE σ (nthO l i)
noncomputable def opCallV (σ : AS) (f : Operand) (args : List Operand) : Option Out := ob (opnd σ.tm f) fun v => ob (opnds σ.tm args) fun l => calleeE v l
noncomputable def opPanic (σ : AS) (x : Operand) : Option Out := ob (opnd σ.tm x) fun v => cb (isIface v) (some (.pan v))
noncomputable def ifTV (v : AV) : Option (TypeId × AV) := AV.rec (motive_1 := fun _ => Option (TypeId × AV)) (motive_2 := fun _ => Unit) (fun _ => none) (fun _ _ => none) (fun _ => none) none (fun _ _ => none) none (fun _ _ _ _ => none) (fun _ _ _ _ => none) none none (fun _ => none) (fun _ _ _ _ _ => none) (fun _ => none) none (fun t v _ => some (t, v)) none (fun _ _ => none) (fun _ _ => none) none () (fun _ _ _ _ => ()) v
noncomputable def isPtrD (d : TypeDesc) : Bool := match d with
  | .pointer _ => true
  | _ => false
noncomputable def methE (T0 : Tab) (t : TypeId) (name : String) : Option Nat := ob (T0.P.info? t) fun i => ob (i.methods.toList.find? (fun m => m.name == name)) fun m =>
  cb m.path.toList.isEmpty (ob m.func fun q => ob (T0.P.underlying t) fun d => cb (eqB (isPtrD d) q.2) (some q.1))
noncomputable def opInvoke (T0 : Tab) (σ : AS) (r : Operand) (name : String) (args : List Operand) : Option Out := ob (opnd σ.tm r) fun v => ob (ifTV v) fun q => ob (methE T0 q.1 name) fun f =>
  ob (opnds σ.tm args) fun l => some (.call f (q.2 :: l))
noncomputable def hasAll (T0 : Tab) (t : TypeId) (ms : List (String × TypeId)) : Option Bool := ob (T0.P.info? t) fun i => some (ms.all fun m => i.methods.toList.any fun q => q.name == m.1 && Nat.beq q.sig m.2)
noncomputable def okA (ok : Bool) (z : Option AV) (b : Bool) (v : AV) : Option AV := tb b (some (okV ok true v)) (cb ok (ob z fun z => some (.tup [z, .bool false])))
noncomputable def isNilI (v : AV) : Bool := AV.rec (motive_1 := fun _ => Bool) (motive_2 := fun _ => Unit) (fun _ => false) (fun _ _ => false) (fun _ => false) false (fun _ _ => false) false (fun _ _ _ _ => false) (fun _ _ _ _ => false) false false (fun _ => false) (fun _ _ _ _ _ => false) (fun _ => false) false (fun _ _ _ => false) true (fun _ _ => false) (fun _ _ => false) false () (fun _ _ _ _ => ()) v
noncomputable def asrt (T0 : Tab) (a : TypeId) (i : TyI) (ok : Bool) (x : AV) : Option AV :=
  oc (ifTV x) (cb (isNilI x) (okA ok (zeroOf i) false x)) (fun q => oc (dIface i.d) (okA ok (zeroOf i) (Nat.beq q.1 a) q.2) (fun ms => ob (hasAll T0 q.1 ms) fun b => okA ok (zeroOf i) b x))
noncomputable def callC (T0 : Tab) (c : Call) : Option (AS → Option Out) := match c.callee with
  | .builtin .recover => some (fun _ => some .rcv)
  | .builtin b => ob (headL c.argTypes.toList) fun t => ob (builtinE T0 b t c.argTypes.toList) fun f => some (fun σ => ob (opnds σ.tm c.args.toList) fun l => f σ l)
  | .value f => some (fun σ => opCallV σ f c.args.toList)
  | .invoke r name => some (fun σ => opInvoke T0 σ r name c.args.toList)
noncomputable def buildC (T0 : Tab) (t : TypeId) (ps : List (Nat × Operand)) : Option (AS → Option Out) := ob (T0.t t) fun i =>
  oc (dArr i.d) (ob (dFields i.d) fun _ => some (fun σ => opBuildS σ i ps)) (fun a => ob (T0.t a.2) fun ei => some (fun σ => opBuildA σ i ei ps))
noncomputable def rangeC (T0 : Tab) (t : TypeId) (x : Operand) : Option (AS → Option Out) := ob (T0.t t) fun i =>
  tb (dStr i.d) (some (fun σ => opRangeS σ x)) (ob (dMap i.d) fun _ => some (fun σ => opRangeM σ x))
noncomputable def indexC (T0 : Tab) (t : TypeId) (x i : Operand) : Option (AS → Option Out) := ob (T0.t t) fun ti =>
  oc (dSlice ti.d) (ob (dArr ti.d) fun a => ob (T0.t a.2) fun ei => some (fun σ => opIndexA σ a.1 ei.size x i)) (fun e => ob (T0.t e) fun ei => some (fun σ => opIndexS σ ei.size x i))
noncomputable def fieldC (T0 : Tab) (t : TypeId) (x : Operand) (f : Nat) : Option (AS → Option Out) := ob (T0.t t) fun i => ob (dFields i.d) fun fs => ob (nthO fs f) fun ft =>
  ob (T0.t ft) fun fi => ob (nthO i.offs f) fun q => some (fun σ => opField σ fi q.1 x)
noncomputable def sliceC (T0 : Tab) (t : TypeId) (x : Operand) (lo hi mx : Option Operand) : Option (AS → Option Out) := ob (T0.t t) fun i =>
  tb (dStr i.d) (oc mx (some (fun σ => opSliceS σ x lo hi)) (fun _ => none))
    (ob (elemI T0 t) fun q => oc mx (some (fun σ => opSlice σ q.2.size x lo hi)) (fun m => ob hi fun h => some (fun σ => opSlice3 σ q.2.size x lo h m)))
/-- One operation: what can be told ahead of a run is told first. -/
noncomputable def opE (T0 : Tab) (o : Op) : Option (AS → Option Out) :=
  match o with
  | .move x => some (fun σ => valE σ (opnd σ.tm x))
  | .assign x => some (fun σ => valE σ (opnd σ.tm x))
  | .pick c a b => some (fun σ => opPick σ c a b)
  | .alloc el => ob (T0.t el) fun i => some (fun σ => opAlloc σ i el)
  | .box el x => some (fun σ => opBox σ el x)
  | .build t ps => buildC T0 t ps.toList
  | .buildSlice t len ps => ob (elemI T0 t) fun q => some (fun σ => opBuildSlice σ q.1 q.2 len ps.toList)
  | .load t a => ob (T0.t t) fun i => some (fun σ => opLoad σ i a)
  | .store t a x => ob (T0.t t) fun i => some (fun σ => opStore σ i a x)
  | .nilCheck x => some (fun σ => opNil σ x)
  | .binOp op t x y _ => Bi.rec (motive := fun _ => Option (AS → Option Out)) (fun f => some (fun σ => opBin T0.P σ f (kindT T0 x y t) t x y)) (binE op)
  | .unOp op _ x => some (fun σ => ob (opnd σ.tm x) fun v => valE σ (unE T0.P op v))
  | .convert src dst x => ob (convK T0 src dst) fun k => some (fun σ => ob (opnd σ.tm x) fun v => valE σ (convE T0.P σ.hp k src dst v))
  | .makeInterface t x => ob (T0.t t) fun i => oc (dIface i.d) (some (fun σ => ob (opnd σ.tm x) fun v => some (.pv (.iface t v)))) (fun _ => none)
  | .makeFunc fn first cap => ob (fnF fn) fun f => some (fun σ => opFunc σ f first.toList cap.toList)
  | .makeMap t r => ob (keyT T0 t) fun _ => some (fun σ => opMap σ r)
  | .makeSlice t l c => ob (elemI T0 t) fun q => some (fun σ => opMakeSlice σ q.1 q.2 l c)
  | .slice t x lo hi mx => sliceC T0 t x lo hi mx
  | .fieldAddr t x f => ob (T0.t t) fun i => ob (nthO i.offs f) fun q => some (fun σ => opFieldAddr σ q x)
  | .field t x f => fieldC T0 t x f
  | .indexAddr t x i => indexC T0 t x i
  | .index t x i => ob (T0.t t) fun ti => cb (dStr ti.d) (some (fun σ => opIndex σ x i))
  | .lookup t x i ok => ob (keyT T0 t) fun c => ob (T0.t t) fun ti => ob (dMap ti.d) fun e => ob (T0.t e) fun ei => some (fun σ => opLookup T0.P σ c ei x i ok)
  | .mapUpdate t m k x => ob (keyT T0 t) fun c => some (fun σ => opUpdate T0.P σ c m k x)
  | .insert t m k x => ob (keyT T0 t) fun c => some (fun σ => opUpdate T0.P σ c m k x)
  | .range t x => rangeC T0 t x
  | .next it isS => tb isS (some (fun σ => opNextS σ it)) (some (fun σ => opNextM σ it))
  | .entry it => some (fun σ => opEntry σ it)
  | .extract x i => some (fun σ => opExtract σ x i)
  | .call c => callC T0 c
  | .panic x => some (fun σ => opPanic σ x)
  | .typeAssert x _ a ok => ob (T0.t a) fun i => some (fun σ => ob (opnd σ.tm x) fun v => valE σ (asrt T0 a i ok v))
  | .defer c => (match c.callee with
    | .value f => some (fun σ => ob (opnd σ.tm f) fun v => ob (asFv v) fun q => ob (opnds σ.tm c.args.toList) fun l => some (.dfd (.call q.fn q.cap (appN q.first l))))
    | _ => none)
  | _ => none
noncomputable def putE (σ : AS) (dst : Option Tmp) (v : AV) (hp : T AO) (nx : Bn) : AS :=
  AS.rec (motive := fun _ => AS) (fun tm nt df ro rc rd _ _ => ⟨oc dst tm (fun d => tm.put (pOf d) (tb (Nat.blt d nt) (some v) none)), nt, df, ro, rc, rd, hp, nx⟩) σ
noncomputable def guardE (ops : List Oper) (tm : T AV) (g : Nat × Bool) : Option Bool := oc (nthO ops g.1) (some false) (fun o => oc o.dst (some false) (fun d => ob (tm.get (pOf d)) fun v => oc (asB v) (cb (notB (isAny v)) (some false)) (fun b => some (eqB b g.2))))
noncomputable def wantedE (ops : List Oper) (tm : T AV) (o : Oper) : Option Bool := oc o.guard (some true) (fun g => guardE ops tm g)
noncomputable def initTm (l : List AV) (i : Nat) (t : T AV) : T AV :=
  List.rec (motive := fun _ => Nat → T AV → T AV) (fun _ t => t) (fun v _ ih i t => ih (Nat.succ i) (t.put (pOf i) (some v))) l i t
noncomputable def res1 (T0 : Tab) (σ : AS) (r : ResultVar) : Option AV :=
  ResultVar.rec (motive := fun _ => Option AV) (fun t => σ.tm.get (pOf t)) (fun a t => ob (T0.t t) fun i => ob (σ.tm.get (pOf a)) fun v => ob (asPt v) fun p => loadE σ.hp i p) r
noncomputable def resE (T0 : Tab) (σ : AS) (l : List ResultVar) : Option (List AV) :=
  List.rec (motive := fun _ => Option (List AV)) (some []) (fun r _ ih => ob (res1 T0 σ r) fun v => ob ih fun q => some (v :: q)) l
noncomputable def cb' (b : Bool) (x : R) : R := tb b x (.no "guard")
noncomputable def marksOnly (l : List AD) : Bool := List.rec (motive := fun _ => Bool) true (fun d _ ih => AD.rec (motive := fun _ => Bool) (fun _ => ih) (fun _ _ _ => false) d) l
abbrev Self := Code → AS → (AEx → AS → R) → R
/-- How a call ends: a value, or a panic. -/
structure En where
  v : AV
  pan : Bool
noncomputable def oneL (l : List AV) : AV := List.rec (motive := fun _ => AV) (.tup []) (fun v r _ => List.rec (motive := fun _ => AV) v (fun _ _ _ => .tup l) r) l
abbrev Kc := En → T AO → Bn → R
noncomputable def withM (σ : AS) (hp : T AO) (nx : Bn) : AS := AS.rec (motive := fun _ => AS) (fun tm nt df ro rc rd _ _ => ⟨tm, nt, df, ro, rc, rd, hp, nx⟩) σ
/-- The end of a body: what it answers. -/
noncomputable def retE (T0 : Tab) (res : List ResultVar) (k : Kc) (σ : AS) : R := oc (resE T0 σ res) (.no "results") (fun l => k ⟨oneL l, false⟩ σ.hp σ.nx)
noncomputable def dfMark (d : AD) : Option Bn := AD.rec (motive := fun _ => Option Bn) (fun b => some b) (fun _ _ _ => none) d
structure Dc where
  fn : Fn
  cap : List AV
  args : List AV
noncomputable def dfCall (d : AD) : Option Dc := AD.rec (motive := fun _ => Option Dc) (fun _ => none) (fun f c a => some ⟨f, c, a⟩) d
noncomputable def asDf (o : AO) : Option Unit := AO.rec (motive := fun _ => Option Unit) (fun _ _ _ _ => none) (fun _ _ => none) (fun _ _ _ _ => none) (fun _ _ => none) (fun _ _ _ _ _ _ _ _ _ => none) (some ()) o
noncomputable def entE (fn : FnI) (rc : Option AV) (args : List AV) (hp : T AO) (nx : Bn) : AS := ⟨initTm args 0 .leaf, fn.nt, [], none, rc, false, hp, nx⟩
noncomputable def normE (e : AEx) : Bool := AEx.rec (motive := fun _ => Bool) true (fun _ => false) (fun _ => false) true (fun _ => false) e
/-- Behind a deferred call. -/
noncomputable def dfdK (T0 : Tab) (res : List ResultVar) (rec : Option AV → T AO → Bn → R) (p : Option AV) (e : AEx) (σ : AS) : R :=
  tb (normE e) (oc (headL σ.df) (oc (resE T0 σ res) (.no "results of a deferred call") (fun _ => rec (tb σ.rd none p) σ.hp σ.nx)) (fun _ => .no "defers in a deferred call")) (.no "panic in a deferred call")
/-- Behind a body: what was put off, then the answer. p: the panic that goes on. -/
noncomputable def unwindE (deep : Self) (T0 : Tab) (res : List ResultVar) (k : Kc) (ds : List AD) : Option AV → AS → R :=
  List.rec (motive := fun _ => Option AV → AS → R) (fun p σ => oc p (retE T0 res k σ) (fun v => k ⟨v, true⟩ σ.hp σ.nx))
    (fun d _ ih p σ => oc (dfMark d) (oc (dfCall d) (.no "put off") (fun q => oc (fnF q.fn) (.no "deferred what") (fun f => oc (T0.fn.get (pOf f)) (.no "deferred function") (fun fn =>
        cb' (Nat.ble (lenN (appN q.args q.cap)) fn.nt) (deep fn.body (entE fn p (appN q.args q.cap) σ.hp σ.nx) (dfdK T0 fn.res (fun p' hp nx => ih p' (withM σ hp nx)) p))))))
      (fun b => oc (ob (σ.hp.get b) asDf) (.no "mark") (fun _ => ih p (withM σ (σ.hp.put b none) σ.nx)))) ds
noncomputable def panOf (e : AEx) : Option (Option AV) := AEx.rec (motive := fun _ => Option (Option AV)) (some none) (fun _ => none) (fun _ => none) (some none) (fun v => some (some v)) e
noncomputable def endC (deep : Self) (T0 : Tab) (k : Kc) (res : List ResultVar) (e : AEx) (σ : AS) : R :=
  oc (panOf e) (.no "leaves a body by a jump") (fun p => unwindE deep T0 res k σ.df p σ)
noncomputable def tv (v : AV) : Option Value := oc (asI v) (oc (asS v) (ob (asB v) fun b => some (.bool b)) (fun l => some (.string ⟨(l.map UInt8.ofNat).toArray⟩))) (fun a => some (.int a.1 a.2))
noncomputable def tvs (l : List AV) : Option (List Value) := List.rec (motive := fun _ => Option (List Value)) (some []) (fun v _ ih => ob (tv v) fun x => ob ih fun r => some (x :: r)) l
def nextV (n : Next) : Option Value := match n with
  | .value v => some v
  | _ => none
/-- The entry that answers its argument. -/
def isNE (P : Program) (f : Nat) : Bool := match P.funcs[f]? with
  | some g => g.name == "internal/abi.NoEscape" && (g.body.isNone && (Extern.findNext g).isNone)
  | none => false
noncomputable def neE (P : Program) (f : Nat) (args : List AV) : Option AV := cb (isNE P f) (cb (Nat.beq (lenN args) 1) (nthO args 0))
noncomputable def extE (T0 : Tab) (f : Nat) (args : List AV) : Option AV := oc (neE T0.P f args) (ob (tvs args) fun l => ob (pureRun T0.P (callFunc f l.toArray)) fun n => ob (nextV n) fun v => cv v) (fun v => some v)
noncomputable def andB (a b : Bool) : Bool := Bool.rec (motive := fun _ => Bool) false b a
noncomputable def isK (j : Nat) (y : AV) : Bool := oc (nilK y) false (fun p => andB p.2 (Nat.beq p.1 j))
noncomputable def eqFn (f g : Fn) : Bool := oc (fnF f) false (fun a => oc (fnF g) false (fun b => Nat.beq a b))
/-- Two values are one. -/
noncomputable def sameV (x : AV) : AV → Bool :=
  AV.rec (motive_1 := fun _ => AV → Bool) (motive_2 := fun _ => List AV → Bool) (fun b y => oc (asB y) false (fun c => eqB b c)) (fun k n y => oc (asI y) false (fun p => andB (kindEq k p.1) (eqInt n p.2)))
    (fun l y => oc (asS y) false (fun m => eqLN l m)) (fun y => isK 0 y) (fun b off y => oc (asPt y) false (fun p => andB (eqBn b p.b) (Nat.beq off p.off))) (fun y => isK 1 y)
    (fun b off len c y => oc (asSk y) false (fun p => andB (eqBn b p.b) (andB (Nat.beq off p.off) (andB (Nat.beq len p.len) (Nat.beq c p.c)))))
    (fun b off len c y => oc (asSu y) false (fun p => andB (eqBn b p.b) (andB (Nat.beq off p.off) (andB (Nat.beq len p.len) (Nat.beq c p.c))))) (fun y => isSle y) (fun y => isK 2 y)
    (fun b y => oc (asMap y) false (fun m => oc m false (fun c => eqBn b c))) (fun f _ _ ih1 ih2 y => oc (asFv y) false (fun q => andB (eqFn f q.fn) (andB (ih1 q.first) (ih2 q.cap)))) (fun b y => oc (asYield y) false (fun c => eqBn b c)) (fun y => isK 3 y)
    (fun t _ ih y => oc (ifTV y) false (fun q => andB (Nat.beq t q.1) (ih q.2))) (fun y => isK 4 y) (fun _ ih y => oc (asAgg y) false (fun m => ih m)) (fun _ ih y => oc (asTup y) false (fun m => ih m)) (fun y => isAny y)
    (fun m => isNilL m) (fun _ _ ihv ihl m => List.rec (motive := fun _ => Bool) false (fun v r _ => andB (ihv v) (ihl r)) m) x
noncomputable def callB (self deep : Self) (T0 : Tab) (fn : FnI) (args : List AV) (hp : T AO) (nx : Bn) (k : Kc) : R :=
  cb' (Nat.ble (lenN args) fn.nt) (self fn.body (entE fn none args hp nx) (endC deep T0 k fn.res))
/-- A function that is known: without arguments it answers true, and what was in memory stays. -/
noncomputable def hasN (f : Nat) (l : List Nat) : Bool := List.rec (motive := fun _ => Bool) false (fun a _ ih => tb (Nat.beq a f) true ih) l
noncomputable def metE (f : Nat) (args : List AV) (nx : Bn) (l : List Met) : Option Met :=
  List.rec (motive := fun _ => Option Met) none (fun m _ ih => tb (Nat.beq m.f f) (tb (andB (eqBn m.nx nx) (sameV (.agg m.args) (.agg args))) (some m) ih) ih) l
noncomputable def Nb.b (p : Nb) : Bn := Nb.rec (motive := fun _ => Bn) (fun b _ _ _ => b) (fun b _ _ => b) p
noncomputable def Nb.o (p : Nb) : AO := Nb.rec (motive := fun _ => AO) (fun _ l es el => mkCells l (lenN l) es el) (fun _ es c => .map es c) p
noncomputable def putL (l : List Nb) (hp : T AO) : T AO := List.rec (motive := fun _ => T AO) hp (fun p _ ih => ih.put p.b (some p.o)) l
noncomputable def offL (l : List Nb) (hp : T AO) : T AO := List.rec (motive := fun _ => T AO) hp (fun p _ ih => ih.put p.b none) l
noncomputable def sameEs (l : List Me) : List Me → Bool :=
  List.rec (motive := fun _ => List Me → Bool) (fun m => isNilL m) (fun e _ ih m => List.rec (motive := fun _ => Bool) false (fun d r _ => andB (sameV e.k d.k) (andB (sameV e.v d.v) (andB (Nat.beq e.born d.born) (ih r)))) m) l
/-- Whether a block holds just this. -/
noncomputable def hasNb (hp : T AO) (p : Nb) : Bool := Nb.rec (motive := fun _ => Bool)
  (fun b pl es el => oc (cellsAt hp b) false fun c => andB (Nat.beq c.n (lenN pl)) (andB (Nat.beq c.es es) (andB (Nat.beq c.el el) (oc (readN c.t 0 c.n) false (fun l => sameV (.agg pl) (.agg l))))))
  (fun b es k => oc (mapAt hp b) false fun c => andB (Nat.beq k c.clock) (sameEs es c.es)) p
noncomputable def hasL (hp : T AO) (l : List Nb) : Bool := List.rec (motive := fun _ => Bool) true (fun p _ ih => andB (hasNb hp p) ih) l
noncomputable def callE (self deep : Self) (T0 : Tab) (f : Nat) (args : List AV) (hp : T AO) (nx : Bn) (k : Kc) : R :=
  oc (T0.fn.get (pOf f)) (oc (extE T0 f args) (.no (((T0.P.funcs[f]?).map fun g => g.name).getD "no function")) (fun v => k ⟨v, false⟩ hp nx))
    (fun fn => tb (tb (isNilL args) (hasN f T0.kn) false) (k ⟨.bool true, false⟩ hp nx) (oc (metE f args nx T0.mt) (callB self deep T0 fn args hp nx k) (fun m => tb (hasL hp m.pre) (k ⟨m.v, false⟩ (putL m.news (offL m.pre hp)) m.nz) (callB self deep T0 fn args hp nx k))))
noncomputable def setPs (nt : Nat) (ps : List Nat) (vs : List AV) (t : T AV) : Option (T AV) :=
  List.rec (motive := fun _ => List AV → T AV → Option (T AV)) (fun vs t => List.rec (motive := fun _ => Option (T AV)) (some t) (fun _ _ _ => none) vs)
    (fun p _ ih vs t => List.rec (motive := fun _ => Option (T AV)) none (fun v r _ => ih r (t.put (pOf p) (tb (Nat.blt p nt) (some v) none))) vs) ps vs t
def Lp.o (l : Lp) (st : LoopState) (pend : Option Code) : AO := .loop st pend l.fn l.tm l.nt l.ps l.assign l.body l.dfb
noncomputable def isReady (s : LoopState) : Bool := LoopState.rec (motive := fun _ => Bool) true false false false s
noncomputable def isBusy (s : LoopState) : Bool := LoopState.rec (motive := fun _ => Bool) false true false false s
structure Jr where
  pend : Option Code
  st : LoopState
  on : Bool
noncomputable def finR (b : Bn) (k : Kc) (σ : AS) (j : Jr) : R :=
  oc (headL σ.df) (oc (lpAt σ.hp b) (.no "end of a round") (fun l => k ⟨.bool j.on, false⟩ (σ.hp.put b (some (l.o j.st j.pend))) σ.nx)) (fun _ => .no "defers in a round")
noncomputable def roundX (e : AEx) : Option Jr :=
  AEx.rec (motive := fun _ => Option Jr) (some ⟨none, .ready, true⟩) (fun id => some ⟨some (.exit id), .done, false⟩) (fun l => some ⟨some (.goto l), .done, false⟩) (some ⟨some .ret, .done, false⟩) (fun _ => none) e
noncomputable def bodyK (b : Bn) (k : Kc) (e : AEx) (σ : AS) : R := oc (roundX e) (.no "panic in a round") (fun j => finR b k σ j)
noncomputable def isNormal (e : AEx) : Bool := AEx.rec (motive := fun _ => Bool) true (fun _ => false) (fun _ => false) false (fun _ => false) e
noncomputable def assignK (self : Self) (b : Bn) (body : Code) (k : Kc) (e : AEx) (σ : AS) : R := tb (isNormal e)
  (oc (lpAt σ.hp b) (.no "round") (fun l => tb (isReady l.st) (self body (withM σ (σ.hp.put b (some (l.o .busy l.pend))) σ.nx) (bodyK b k)) (.no "round"))) (.no "assign")
noncomputable def roundE (self : Self) (b : Bn) (args : List AV) (hp : T AO) (nx : Bn) (k : Kc) : R :=
  oc (lpAt hp b) (.no "no loop") (fun l => oc (setPs l.nt l.ps args l.tm) (.no "yield") (fun tm => self l.assign ⟨tm, l.nt, [], some b, none, false, hp, nx⟩ (assignK self b l.body k)))
noncomputable def isOk (r : R) : Bool := R.rec (motive := fun _ => Bool) true (fun _ => false) r
noncomputable def allE (l : List (AV × T AO)) (k : AV → T AO → R) : R :=
  List.rec (motive := fun _ => R) .ok (fun e _ ih => R.rec (motive := fun _ => R) ih (fun w => .no w) (k e.1 e.2)) l
structure Vm where
  v : AV
  hp : T AO
  nx : Bn
noncomputable def outVal (σ : AS) (r : Out) : Option Vm := Out.rec (motive := fun _ => Option Vm) (fun v => some ⟨v, σ.hp, σ.nx⟩) (fun mk o => some ⟨mk σ.nx, newB σ o, σ.nx.succ⟩) (fun v hp nx => some ⟨v, hp, nx⟩) (fun _ _ => none) (fun _ _ => none) (fun _ _ => none) (fun _ => none) (fun _ => none) none r
structure Fc where
  f : Nat
  a : List AV
noncomputable def outCall (r : Out) : Option Fc := Out.rec (motive := fun _ => Option Fc) (fun _ => none) (fun _ _ => none) (fun _ _ _ => none) (fun f a => some ⟨f, a⟩) (fun _ _ => none) (fun _ _ => none) (fun _ => none) (fun _ => none) none r
structure Rc where
  b : Bn
  a : List AV
noncomputable def outRound (r : Out) : Option Rc := Out.rec (motive := fun _ => Option Rc) (fun _ => none) (fun _ _ => none) (fun _ _ _ => none) (fun _ _ => none) (fun b a => some ⟨b, a⟩) (fun _ _ => none) (fun _ => none) (fun _ => none) none r
structure Pk where
  l : List (AV × T AO)
  nx : Bn
noncomputable def outPick (r : Out) : Option Pk := Out.rec (motive := fun _ => Option Pk) (fun _ => none) (fun _ _ => none) (fun _ _ _ => none) (fun _ _ => none) (fun _ _ => none) (fun l nx => some ⟨l, nx⟩) (fun _ => none) (fun _ => none) none r
noncomputable def outPan (r : Out) : Option AV := Out.rec (motive := fun _ => Option AV) (fun _ => none) (fun _ _ => none) (fun _ _ _ => none) (fun _ _ => none) (fun _ _ => none) (fun _ _ => none) (fun v => some v) (fun _ => none) none r
noncomputable def outDfd (r : Out) : Option AD := Out.rec (motive := fun _ => Option AD) (fun _ => none) (fun _ _ => none) (fun _ _ _ => none) (fun _ _ => none) (fun _ _ => none) (fun _ _ => none) (fun _ => none) (fun d => some d) none r
noncomputable def outRcv (r : Out) : Bool := Out.rec (motive := fun _ => Bool) (fun _ => false) (fun _ _ => false) (fun _ _ _ => false) (fun _ _ => false) (fun _ _ => false) (fun _ _ => false) (fun _ => false) (fun _ => false) true r
noncomputable def nextE (σ : AS) (dst : Option Tmp) (k : AEx → AS → R) (next : AS → R) (e : En) (hp : T AO) (nx : Bn) : R := tb e.pan (k (.panic e.v) (withM σ hp nx)) (next (putE σ dst e.v hp nx))
noncomputable def noRo (ro : Option Bn) (x : R) : R := oc ro x (fun _ => .no "defer in a round")
noncomputable def stepR (self : Self) (o : Oper) (σ : AS) (k : AEx → AS → R) (next : AS → R) (r : Out) : R :=
  oc (outRound r) (oc (outPick r) (oc (outPan r) (oc (outDfd r) (.no o.pos) (fun d => noRo σ.ro (next (putE ⟨σ.tm, σ.nt, d :: σ.df, σ.ro, σ.rc, σ.rd, σ.hp, σ.nx⟩ o.dst (.tup []) σ.hp σ.nx)))) (fun v => k (.panic v) σ)) (fun q => allE q.l (fun v hp => next (putE σ o.dst v hp q.nx))))
    (fun q => roundE self q.b q.a σ.hp σ.nx (nextE σ o.dst k next))
noncomputable def stepE (self deep : Self) (T0 : Tab) (o : Oper) (σ : AS) (k : AEx → AS → R) (next : AS → R) (r : Option Out) : R :=
  oc r (.no o.pos) (fun r => oc (outVal σ r) (oc (outCall r) (stepR self o σ k next r) (fun q => callE self deep T0 q.f q.a σ.hp σ.nx (nextE σ o.dst k next)))
    (fun q => next (putE σ o.dst q.v q.hp q.nx)))
noncomputable def regE (self deep : Self) (T0 : Tab) (ops : List Oper) (k : AEx → AS → R) (l : List Oper) : AS → R :=
  List.rec (motive := fun _ => AS → R) (fun σ => k .normal σ) (fun o _ ih σ => oc (wantedE ops σ.tm o) (.no "guard") (fun b => tb b
    (oc (opE T0 o.op) (.no o.pos) (fun f => stepE self deep T0 o σ k ih (f σ))) (ih (putE σ o.dst (.tup []) σ.hp σ.nx)))) l
/-- An operation of a region whose order is drawn: which one, the temporaries that it reads, what comes ahead of it (a mask), and of what kind it is: 0 it leaves memory as it is, 1 it makes a block, 2 it may do anything. -/
structure Dr where
  i : Nat
  rs : List Nat
  bf : Nat
  cl : Nat
noncomputable def hasB (m i : Nat) : Bool := Nat.beq (Nat.land (Nat.shiftRight m i) 1) 1
noncomputable def subM (a m : Nat) : Bool := Nat.beq (Nat.land a m) a
noncomputable def oneM (i : Nat) : Nat := Nat.shiftLeft 1 i
noncomputable def tmpsOf (l : List Operand) : List Nat :=
  List.rec (motive := fun _ => List Nat) [] (fun x _ ih => Operand.rec (motive := fun _ => List Nat) (fun t => t :: ih) (fun _ => ih) (fun _ => ih) (fun _ => ih) x) l
noncomputable def optL {α : Type} (x : Option α) : List α := oc x [] (fun a => [a])
noncomputable def readsO (ops : List Oper) (o : Oper) : List Nat := appN (tmpsOf o.op.operands.toList) (oc o.guard [] (fun g => oc (nthO ops g.1) [] (fun p => optL p.dst)))
noncomputable def callK (c : Call) : Nat := match c.callee with
  | .builtin .len => 0
  | .builtin .min => 0
  | .builtin .max => 0
  | _ => 2
noncomputable def kindO (o : Op) : Nat := match o with
  | .alloc _ => 1
  | .box _ _ => 1
  | .buildSlice _ _ _ => 1
  | .makeSlice _ _ _ => 1
  | .makeMap _ _ => 1
  | .store _ _ _ => 2
  | .mapUpdate _ _ _ _ => 2
  | .insert _ _ _ _ => 2
  | .range _ _ => 2
  | .next _ _ => 2
  | .call c => callK c
  | .panic _ => 2
  | .defer _ => 2
  | _ => 0
noncomputable def bindG (g : Ground) : Bool := match g with
  | .textOnly _ => false
  | .gcOnly _ => false
  | _ => true
/-- What the edges name, and what is ahead of that. -/
noncomputable def bfE (t : T Nat) (l : List Edge) : Nat :=
  List.rec (motive := fun _ => Nat) 0 (fun e _ ih => tb (bindG e.ground) (Nat.lor ih (Nat.lor (oneM e.on) (oc (t.get (pOf e.on)) 0 (fun m => m)))) ih) l
noncomputable def mkEns (ops : List Oper) (l : List Oper) (i : Nat) (t : T Nat) : List Dr :=
  List.rec (motive := fun _ => Nat → T Nat → List Dr) (fun _ _ => []) (fun o _ ih i t => ⟨i, readsO ops o, bfE t o.after.toList, kindO o.op⟩ :: ih (Nat.succ i) (t.put (pOf i) (some (bfE t o.after.toList)))) l i t
noncomputable def isE (en : Dr) : Bool := Nat.beq en.cl 2
noncomputable def filtE (p : Dr → Bool) (l : List Dr) : List Dr := List.rec (motive := fun _ => List Dr) [] (fun e _ ih => tb (p e) (e :: ih) ih) l
noncomputable def maskE (l : List Dr) : Nat := List.rec (motive := fun _ => Nat) 0 (fun e _ ih => Nat.lor ih (oneM e.i)) l
noncomputable def freeE (u : Nat) (e : Dr) : Bool := Nat.beq (Nat.land e.bf u) 0
noncomputable def canonL (es rest : List Dr) (u : Nat) : List Dr :=
  List.rec (motive := fun _ => List Dr → Nat → List Dr) (fun rest _ => rest)
    (fun e _ ih rest u => appN (filtE (fun x => freeE u x) rest) (e :: ih (filtE (fun x => notB (freeE u x)) rest) (Nat.xor u (oneM e.i)))) es rest u
noncomputable def canonE (l : List Dr) : List Dr := canonL (filtE (fun x => isE x) l) (filtE (fun x => notB (isE x)) l) (maskE (filtE (fun x => isE x) l))
noncomputable def canonO (ops : List Oper) : List Dr := canonE (mkEns ops ops 0 .leaf)
noncomputable def tblE (l : List Dr) : T Nat := List.rec (motive := fun _ => T Nat) .leaf (fun e _ ih => ih.put (pOf e.i) (some e.bf)) l
noncomputable def dstE (ops : List Oper) (e : Dr) : List Nat := oc (nthO ops e.i) [] (fun o => optL o.dst)
noncomputable def wrE (ops : List Oper) (l : List Dr) : T (List Dr) :=
  List.rec (motive := fun _ => T (List Dr)) .leaf (fun e _ ih => oc (headL (dstE ops e)) ih (fun t => ih.put (pOf t) (some (e :: oc (ih.get (pOf t)) [] (fun l => l))))) l
noncomputable def allB {α : Type} (p : α → Bool) (l : List α) : Bool := List.rec (motive := fun _ => Bool) true (fun x _ ih => andB (p x) ih) l
/-- Of two one comes ahead. -/
noncomputable def ordE (e f : Dr) : Bool := tb (Nat.beq e.i f.i) true (tb (hasB e.bf f.i) true (hasB f.bf e.i))
noncomputable def raceE (ops : List Oper) (wr : T (List Dr)) (e : Dr) : Bool := allB (fun t => oc (wr.get (pOf t)) true (fun l => allB (fun f => ordE e f) l)) (appN (dstE ops e) e.rs)
noncomputable def okE (ops : List Oper) (tbl : T Nat) (wr : T (List Dr)) (e : Dr) (m : Nat) : Bool :=
  oc (nthO ops e.i) false (fun o => andB (Nat.beq e.cl (kindO o.op)) (andB (subM e.bf (bfE tbl o.after.toList)) (andB (subM (bfE .leaf o.after.toList) m) (raceE ops wr e))))
/-- Behind an operation that may do anything come those alone that wait for it, or for one that comes later. -/
noncomputable def lateE' (e : Dr) (m : Nat) (r : List Dr) : Bool := allB (fun f => tb (isE f) (hasB f.bf e.i) (notB (subM f.bf m))) r
noncomputable def walkE (ops : List Oper) (tbl : T Nat) (wr : T (List Dr)) (n : Nat) (l : List Dr) (m : Nat) : Bool :=
  List.rec (motive := fun _ => Nat → Bool) (fun m => Nat.beq m (Nat.sub (oneM n) 1)) (fun e r ih m => andB (subM e.bf m) (andB (notB (hasB m e.i)) (andB (okE ops tbl wr e m) (andB (tb (isE e) (lateE' e m r) true) (ih (Nat.lor m (oneM e.i))))))) l m
noncomputable def vOk (ops : List Oper) (l : List Dr) : Bool := walkE ops (tblE l) (wrE ops l) (lenN ops) l 0
/-- An operation that may not have come up yet: it is not wanted; it leaves a value; it makes a block of that name. -/
inductive Pd where
  | sk (en : Dr) (tm : T AV)
  | rd (en : Dr) (tm : T AV) (v : AV)
  | al (en : Dr) (tm : T AV) (mk : Bn → AV) (b : Bn) (o : AO)
noncomputable def restr (l : List Nat) (tm : T AV) : T AV := List.rec (motive := fun _ => T AV) .leaf (fun t _ ih => ih.put (pOf t) (tm.get (pOf t))) l
noncomputable def Pd.dr (p : Pd) : Dr := Pd.rec (motive := fun _ => Dr) (fun e _ => e) (fun e _ _ => e) (fun e _ _ _ _ => e) p
noncomputable def matE (mask : Nat) (pend : List Pd) (hp : T AO) : T AO :=
  List.rec (motive := fun _ => T AO) hp (fun p _ ih => Pd.rec (motive := fun _ => T AO) (fun _ _ => ih) (fun _ _ _ => ih) (fun e _ _ b o => tb (hasB mask e.i) (ih.put b (some o)) ih) p) pend
noncomputable def keepP (mask : Nat) (pend : List Pd) : List Pd := List.rec (motive := fun _ => List Pd) [] (fun p _ ih => tb (hasB mask p.dr.i) ih (p :: ih)) pend
noncomputable def bumpE (r : List Dr) (nx : Bn) : Bn := List.rec (motive := fun _ => Bn) nx (fun e _ ih => tb (isE e) nx (tb (Nat.beq e.cl 1) ih.succ ih)) r
noncomputable def asPv (r : Out) : Option AV := Out.rec (motive := fun _ => Option AV) (fun v => some v) (fun _ _ => none) (fun _ _ _ => none) (fun _ _ => none) (fun _ _ => none) (fun _ _ => none) (fun _ => none) (fun _ => none) none r
structure Nw where
  f : Bn → AV
  o : AO
noncomputable def asNw (r : Out) : Option Nw := Out.rec (motive := fun _ => Option Nw) (fun _ => none) (fun mk o => some ⟨mk, o⟩) (fun _ _ _ => none) (fun _ _ => none) (fun _ _ => none) (fun _ _ => none) (fun _ => none) (fun _ => none) none r
noncomputable def sigR (tm : T AV) (hp : T AO) (nx : Bn) : AS := ⟨tm, 0, [], none, none, false, hp, nx⟩
noncomputable def tryO (T0 : Tab) (ops : List Oper) (en : Dr) (tm : T AV) (hp : T AO) (nx : Bn) : Option Out := ob (nthO ops en.i) fun o => ob (opE T0 o.op) fun f => f (sigR tm hp nx)
/-- What was read is still what would be read. -/
noncomputable def checkP (T0 : Tab) (ops : List Oper) (hp : T AO) (nx : Bn) (pend : List Pd) : Bool :=
  allB (fun p => Pd.rec (motive := fun _ => Bool) (fun _ _ => true) (fun e tm v => oc (ob (tryO T0 ops e tm hp nx) asPv) false (fun u => sameV v u)) (fun _ _ _ _ _ => true) p) pend
noncomputable def dropK (k : AEx → AS → R) (e : AEx) (σ : AS) : R := k e ⟨.leaf, σ.nt, σ.df, σ.ro, σ.rc, σ.rd, σ.hp, σ.nx⟩
abbrev Nx := AS → Bn → List Pd → R
noncomputable def behind (T0 : Tab) (ops : List Oper) (r : List Dr) (ih : Nx) (pend : List Pd) (σ : AS) : R :=
  cb' (checkP T0 ops σ.hp (bumpE r σ.nx) pend) (ih (withM σ σ.hp (bumpE r σ.nx)) σ.nx pend)
noncomputable def effD (self deep : Self) (T0 : Tab) (ops : List Oper) (k : AEx → AS → R) (en : Dr) (o : Oper) (r : List Dr) (ih : Nx) (σ : AS) (pend : List Pd) : R :=
  oc (wantedE ops (restr en.rs σ.tm) o) (.no "guard") (fun b => tb b
    (oc (opE T0 o.op) (.no o.pos) (fun f => stepE self deep T0 o (withM σ (matE en.bf pend σ.hp) σ.nx) (dropK k) (behind T0 ops r ih (keepP en.bf pend)) (f (sigR (restr en.rs σ.tm) (matE en.bf pend σ.hp) σ.nx))))
    (behind T0 ops r ih (keepP en.bf pend) (putE σ o.dst (.tup []) (matE en.bf pend σ.hp) σ.nx)))
noncomputable def quietD (T0 : Tab) (ops : List Oper) (en : Dr) (o : Oper) (ih : Nx) (σ : AS) (nm : Bn) (pend : List Pd) : R :=
  oc (wantedE ops (restr en.rs σ.tm) o) (.no "guard") (fun b => tb b
    (oc (tryO T0 ops en (restr en.rs σ.tm) σ.hp σ.nx) (.no o.pos) (fun out => oc (asPv out) (oc (asNw out) (.no "a drawn operation of another kind") (fun q => cb' (Nat.beq en.cl 1)
      (ih (putE σ o.dst (q.f nm) σ.hp σ.nx) nm.succ (.al en (restr en.rs σ.tm) q.f nm q.o :: pend))))
      (fun v => ih (putE σ o.dst v σ.hp σ.nx) nm (.rd en (restr en.rs σ.tm) v :: pend))))
    (ih (putE σ o.dst (.tup []) σ.hp σ.nx) nm (.sk en (restr en.rs σ.tm) :: pend)))
noncomputable def runD (self deep : Self) (T0 : Tab) (ops : List Oper) (k : AEx → AS → R) (l : List Dr) : Nx :=
  List.rec (motive := fun _ => Nx) (fun σ _ pend => k .normal (withM σ (matE (Nat.sub (oneM (lenN ops)) 1) pend σ.hp) σ.nx))
    (fun en r ih σ nm pend => oc (nthO ops en.i) (.no "drawn") (fun o => tb (isE en) (effD self deep T0 ops k en o r ih σ pend) (quietD T0 ops en o ih σ nm pend))) l
/-- A region whose order is drawn. -/
noncomputable def regD (self deep : Self) (T0 : Tab) (ops : List Oper) (k : AEx → AS → R) (σ : AS) : R :=
  cb' (vOk ops (canonO ops)) (runD self deep T0 ops k (canonO ops) (withM σ σ.hp (bumpE (canonO ops) σ.nx)) σ.nx [])
noncomputable def jumpX (j : Option Code) : Option AEx := oc j (some .normal) (fun c => match c with
  | .ret => some .ret
  | .exit id => some (.exit id)
  | .goto l => some (.goto l)
  | _ => none)
noncomputable def withDf (σ : AS) (df : List AD) (hp : T AO) (nx : Bn) : AS := AS.rec (motive := fun _ => AS) (fun tm nt _ ro rc rd _ _ => ⟨tm, nt, df, ro, rc, rd, hp, nx⟩) σ
noncomputable def rangeK (b : Bn) (σ : AS) (df : List AD) (k : AEx → AS → R) (v : En) (hp : T AO) (nx : Bn) : R :=
  tb v.pan (k (.panic v.v) (withDf σ df hp nx)) <| oc (lpAt hp b) (.no "end of a range") (fun l => tb (isBusy l.st) (.no "end of a range") (oc (jumpX l.pend) (.no "jump") (fun e => k e (withDf σ df (hp.put b (some (l.o .exhausted l.pend))) nx))))
noncomputable def rangeF (self deep : Self) (T0 : Tab) (f : Fv) (b : Bn) (hp : T AO) (σ : AS) (df : List AD) (k : AEx → AS → R) : R :=
  oc (fnF f.fn) (.no "range") (fun g => oc (T0.fn.get (pOf g)) (.no "range") (fun fn => callB self deep T0 fn (appN f.first (.yield b :: f.cap)) hp b.succ (rangeK b σ df k)))
noncomputable def rangeE (self deep : Self) (T0 : Tab) (f : Operand) (ps : List Nat) (assign body : Code) (σ : AS) (k : AEx → AS → R) : R :=
  oc (ob (opnd σ.tm f) asFv) (.no "range") (fun v => oc σ.ro
    (rangeF self deep T0 v σ.nx.succ ((σ.hp.put σ.nx (some .dfr)).put σ.nx.succ (some (.loop .ready none 0 σ.tm σ.nt ps assign body σ.nx))) σ (AD.mark σ.nx :: σ.df) k)
    (fun r => oc (lpAt σ.hp r) (.no "round") (fun l => rangeF self deep T0 v σ.nx (σ.hp.put σ.nx (some (.loop .ready none 0 σ.tm σ.nt ps assign body l.dfb))) σ σ.df k)))
noncomputable def seqK (self : Self) (b : Code) (k : AEx → AS → R) (e : AEx) (σ : AS) : R := tb (isNormal e) (self b σ k) (k e σ)
noncomputable def exitId (e : AEx) : Option Nat := AEx.rec (motive := fun _ => Option Nat) none (fun id => some id) (fun _ => none) none (fun _ => none) e
noncomputable def blockK (id : Nat) (k : AEx → AS → R) (e : AEx) (σ : AS) : R := oc (exitId e) (k e σ) (fun i => tb (Nat.beq i id) (k .normal σ) (k e σ))
noncomputable def condE (v : Option AV) (a b : R) : R := oc (ob v asB) (.no "cond") (fun t => tb t a b)
/-- A region of a deferred body that recovers. -/
noncomputable def recoverE (o : Oper) (σ : AS) (next : AS → R) : R := oc σ.rc (next (putE σ o.dst .nilI σ.hp σ.nx)) (fun v => tb σ.rd (next (putE σ o.dst .nilI σ.hp σ.nx)) (next (putE ⟨σ.tm, σ.nt, σ.df, σ.ro, σ.rc, true, σ.hp, σ.nx⟩ o.dst v σ.hp σ.nx)))
noncomputable def regS (T0 : Tab) (ops : List Oper) (k : AEx → AS → R) (l : List Oper) : AS → R :=
  List.rec (motive := fun _ => AS → R) (fun σ => k .normal σ) (fun o _ ih σ => oc (wantedE ops σ.tm o) (.no "guard") (fun b => tb b
    (oc (opE T0 o.op) (.no o.pos) (fun f => oc (f σ) (.no o.pos) (fun r => oc (outVal σ r) (tb (outRcv r) (recoverE o σ ih) (oc (outPan r) (.no o.pos) (fun v => k (.panic v) σ)))
      (fun q => ih (putE σ o.dst q.v q.hp q.nx))))) (ih (putE σ o.dst (.tup []) σ.hp σ.nx)))) l
noncomputable def isRec (o : Oper) : Bool := match o.op with
  | .call c => (match c.callee with
    | .builtin .recover => true
    | _ => false)
  | _ => false
noncomputable def hasRec (l : List Oper) : Bool := List.rec (motive := fun _ => Bool) false (fun o _ ih => tb (isRec o) true ih) l
noncomputable def isGoto (e : AEx) : Bool := AEx.rec (motive := fun _ => Bool) false (fun _ => false) (fun _ => true) false (fun _ => false) e
noncomputable def scopeK (k : AEx → AS → R) (e : AEx) (σ : AS) : R := tb (isGoto e) (.no "goto") (k e σ)
structure Cd where
  run : Self → Self → AS → (AEx → AS → R) → R
noncomputable def codeE (T0 : Tab) (c : Code) : Cd := match c with
  | .skip => ⟨fun _ _ σ k => k .normal σ⟩
  | .label _ => ⟨fun _ _ σ k => k .normal σ⟩
  | .region _ ops d => ⟨fun self deep σ k => tb d (regD self deep T0 ops.toList k σ) (regE self deep T0 ops.toList k ops.toList σ)⟩
  | .seq a b => ⟨fun self _ σ k => self a σ (seqK self b k)⟩
  | .cond x a b => ⟨fun self _ σ k => condE (opnd σ.tm x) (self a σ k) (self b σ k)⟩
  | .block id b => ⟨fun self _ σ k => self b σ (blockK id k)⟩
  | .loop b => ⟨fun self _ σ k => self b σ (seqK self (.loop b) k)⟩
  | .exit id => ⟨fun _ _ σ k => k (.exit id) σ⟩
  | .goto l => ⟨fun _ _ σ k => k (.goto l) σ⟩
  | .ret => ⟨fun _ _ σ k => k .ret σ⟩
  | .rangeFunc g ps assign body => ⟨fun self deep σ k => rangeE self deep T0 g ps.toList assign body σ k⟩
  | .scope b => ⟨fun self _ σ k => self b σ (scopeK k)⟩
  | .refuse _ => ⟨fun _ _ _ _ => .no "refuse"⟩
/-- The body of a deferred function: it may recover. -/
noncomputable def deepE (T0 : Tab) (c : Code) : Cd := match c with
  | .region _ ops d => ⟨fun self _ σ k => tb (hasRec ops.toList) (tb d (.no "recover in a drawn region") (regS T0 ops.toList k ops.toList σ)) (self c σ k)⟩
  | .seq a b => ⟨fun _ deep σ k => deep a σ (seqK deep b k)⟩
  | .cond x a b => ⟨fun _ deep σ k => condE (opnd σ.tm x) (deep a σ k) (deep b σ k)⟩
  | c => ⟨fun self _ σ k => self c σ k⟩
structure Evs where
  ev : Self
  dp : Self
noncomputable def ev2 (T0 : Tab) (f : Nat) : Evs :=
  Nat.rec (motive := fun _ => Evs) ⟨fun _ _ _ => .no "fuel", fun _ _ _ => .no "fuel"⟩
    (fun _ ih => ⟨fun c σ k => Cd.rec (motive := fun _ => R) (fun g => g ih.ev ih.dp σ k) (codeE T0 c), fun c σ k => Cd.rec (motive := fun _ => R) (fun g => g ih.ev ih.dp σ k) (deepE T0 c)⟩) f
/-- The tables of a program. -/
def isAggD : TypeDesc → Bool
  | .struct _ | .array _ _ => true
  | _ => false
def offsD (P : Program) : TypeDesc → Option (List (Nat × Nat))
  | .struct fs => fs.toList.mapM (fun f => (P.info? f.type).map fun i => (f.offset, i.size))
  | _ => some []
noncomputable def tyOf (P : Program) (t : TypeId) : Option TyI := ob (P.info? t) fun i => ob (P.underlying t) fun d => ob i.zero fun z => ob (cv z) fun zv => ob (offsD P d) fun offs =>
  cb (Nat.beq (lenN zv.cells) i.size) (some { d := d, size := i.size, bytes := i.bytes, agg := isAggD d, zero := zv.cells, zv := zv, offs := offs })
def fnOf (f : Func) : Option FnI := match f.body with
  | some b => if f.name == "runtime.NumGoroutine" then none else some { nt := f.ntmps, body := b, res := f.results.toList }
  | none => none
noncomputable def T.ofO {α : Type} (l : List (Option α)) (p : Bn) (t : T α) : T α :=
  List.rec (motive := fun _ => Bn → T α → T α) (fun _ t => t) (fun x _ ih p t => ih p.succ (t.put p x)) l p t
noncomputable def tabOf (P : Program) : Tab :=
  { P, ty := T.ofO ((List.range P.types.size).map (tyOf P)) .h .leaf, fn := T.ofO (P.funcs.toList.map fnOf) .h .leaf, kn := [], mt := [] }
noncomputable def tabK (P : Program) (ks : List Nat) : Tab :=
  { P, ty := T.ofO ((List.range P.types.size).map (tyOf P)) .h .leaf, fn := T.ofO (P.funcs.toList.map fnOf) .h .leaf, kn := ks, mt := [] }
/-- With functions and calls that are known. -/
noncomputable def tabM (P : Program) (ks : List Nat) (ms : List Met) : Tab :=
  { P, ty := T.ofO ((List.range P.types.size).map (tyOf P)) .h .leaf, fn := T.ofO (P.funcs.toList.map fnOf) .h .leaf, kn := ks, mt := ms }
noncomputable def metK (m : Met) (e : En) (hp : T AO) (nx : Bn) : R :=
  tb e.pan (.no "panic") (tb (eqBn m.nz nx) (tb (sameV m.v e.v) (tb (hasL hp m.news) .ok (.no "blocks")) (.no "value")) (.no "names"))
noncomputable def trueK (e : En) (_ : T AO) (_ : Bn) : R := tb e.pan (.no "panic") (oc (asB e.v) (.no "no truth value") (fun b => tb b .ok (.no "false")))
noncomputable def runE (T0 : Tab) (f : Nat) (args : List AV) : R :=
  oc (T0.fn.get (pOf f)) (.no "no function") (fun fn => callB (ev2 T0 1000000000).ev (ev2 T0 1000000000).dp T0 fn args .leaf .h trueK)
end Ev
end Go.Proofs.Ytdofhlmffponoaa
