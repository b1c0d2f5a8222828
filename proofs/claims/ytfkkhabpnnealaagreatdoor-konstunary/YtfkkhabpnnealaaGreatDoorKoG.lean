/-
  The document's Binary at whole numbers, walked.
-/
import Derived.Test.YtfkkhabpnnealaaGreatDoorKonA
import Derived.Test.YtfkkhabpnnealaaGreatDoorRefQ
import Derived.Test.YtfkkhabpnnealaaGreatDoorRefG
import Derived.Test.YtfkkhabpnnealaaGreatDoorRefCD
namespace Go.Proofs.YtfkkhabpnnealaaGreatDoor
open Go.RowKit
attribute [local go_sem ↓] Go.wp_at_zero Go.wp_at_succ
theorem bx2 {w : World} {B : Nat} {a b : Value} {T : TypeId} (h : w.heap[B]? = some (.cells #[a, b] T (0, 0))) : w.cell? ⟨B, 0, none⟩ = some a ∧ w.cell? ⟨B, 1, none⟩ = some b ∧ w.frozen? ⟨B, 0, none⟩ = false ∧ w.frozen? ⟨B, 1, none⟩ = false := by
  simp [World.cell?, World.frozen?, h]
theorem far2 {w : World} {B C : Nat} {a b : Value} {o : Obj} (h : w.heap[C]? = some o) (hne : C ≠ B) : ((w.setCell ⟨B, 0, none⟩ a).setCell ⟨B, 1, none⟩ b).heap[C]? = some o :=
  (Below.heap_setCell _ _ _ C hne).trans ((Below.heap_setCell _ _ _ C hne).trans h)
/-- what Binary gives of two whole numbers; E: are they equal; A: what an order's sign gives; e, q, M: what reckoning gives -/
def biB (op : ByteArray) (E : Bool) (A : Ans) (e1 e2 e3 e4 : Int) (q1 q2 q3 q4 q5 : Bool) (M1 M2 M3 M4 M5 : Nat) : Ans :=
  if op.toList = [61, 61] then ⟨3, false, 0, ⟨#[]⟩, E, 0⟩ else if op.toList = [33, 61] then ⟨3, false, 0, ⟨#[]⟩, !E, 0⟩
  else if op.toList = [38, 38] then noA 6 else if op.toList = [124, 124] then noA 6
  else if op.toList = [60] ∨ op.toList = [60, 61] ∨ op.toList = [62] ∨ op.toList = [62, 61] then A
  else if op.toList = [43] then arA e1 q1 M1 else if op.toList = [45] then arA e2 q2 M2 else if op.toList = [42] then arA e3 q3 M3 else if op.toList = [47] then arA e4 q4 M4 else if op.toList = [37] then arA e4 q5 M5 else noA 6
end Go.Proofs.YtfkkhabpnnealaaGreatDoor

