/-
  The contract of the document's own times at every argument.
-/
import Derived.Test.YtfkkhabpnnealaaGreatDoorRefAB
import Derived.Test.YtfkkhabpnnealaaGreatDoorWalkH
namespace Go.Proofs.YtfkkhabpnnealaaGreatDoor
open Go.RowKit
attribute [local go_sem ↓] Go.wp_at_zero Go.wp_at_succ
open Go.Sort (Holds putRow holds_putRow putRow_self putRow_set cell?_putRow_other)
theorem set_win (d r : List Nat) (i t : Nat) (h : i + r.length < d.length) : (d.take i ++ (r ++ d.drop (i + r.length))).set (i + r.length) t = d.take i ++ ((r ++ [t]) ++ d.drop (i + r.length + 1)) := by
  have h1 : (d.take i).length = i := by simp; omega
  have h2 : (d.take i ++ r).length = i + r.length := by rw [List.length_append, h1]
  have h3 := set_mid (d.take i ++ r) (d.drop (i + r.length + 1)) (d[i + r.length]'h) t
  rw [h2, ← List.drop_eq_getElem_cons h, List.append_assoc] at h3
  rw [h3]
  simp
theorem getD_win (d r : List Nat) (i : Nat) (h : i + r.length < d.length) : (d.take i ++ (r ++ d.drop (i + r.length))).getD (i + r.length) 0 = d.getD (i + r.length) 0 := by
  have h1 : (d.take i).length = i := by simp; omega
  simp only [List.getD_eq_getElem?_getD]
  rw [List.getElem?_append_right (by omega), h1, List.getElem?_append_right (by omega), List.getElem?_drop]
  congr 2
  omega
theorem len_win (d r : List Nat) (i : Nat) (h : i + r.length ≤ d.length) : (d.take i ++ (r ++ d.drop (i + r.length))).length = d.length := by simp; omega
end Go.Proofs.YtfkkhabpnnealaaGreatDoor

/-
  The contract of the document's own Mul at every argument.
-/
namespace Go.Proofs.YtfkkhabpnnealaaGreatDoor
open Go.RowKit
attribute [local go_sem ↓] Go.wp_at_zero Go.wp_at_succ
end Go.Proofs.YtfkkhabpnnealaaGreatDoor

