/-
  What is kept of memory.
-/
import Derived.Test.YtleiohccaagalaaGreatRows
import Derived.Test.YtleiohccaagalaaGreatPln
import Derived.WalkKit
import Derived.WalkSpells
import Derived.WalkLawsBesides
import Derived.Below
namespace Go.Proofs.YtleiohccaagalaaGreat
open Go.RowKit
theorem nat_beq {a b : Nat} (h : a = b) : ((a : Int) == (b : Int)) = true := by subst h; simp
theorem nat_bne {a b : Nat} (h : a ≠ b) : ((a : Int) == (b : Int)) = false := by
  rw [Bool.eq_false_iff]; intro h2; exact h (by have := eq_of_beq h2; omega)
theorem w32 (b : UInt8) : wrap32 (b.toNat : Int) = b.toNat := by
  have := b.toNat_lt
  unfold wrap32
  omega
theorem bal (E : ByteArray) : E.data.toList.length = E.size := Array.length_toList
theorem bget (E : ByteArray) (i : Nat) (h : i < E.size) : E.data.toList[i]? = some (E[i]'h) := by
  have h2 : i < E.data.toList.length := by rw [bal]; exact h
  rw [List.getElem?_eq_getElem h2]; rfl
/-- all blocks but those of X lie as they lay -/
structure Kx (X : Nat → Prop) (A B : World) : Prop where
  os : B.os = A.os
  tape : B.tape = A.tape
  output : B.output = A.output
  size : A.heap.size ≤ B.heap.size
  keep : ∀ b o, A.heap[b]? = some o → ¬ X b → B.heap[b]? = some o
theorem Kx.refl (X : Nat → Prop) (A : World) : Kx X A A := ⟨rfl, rfl, rfl, Nat.le_refl _, fun _ _ h _ => h⟩
theorem Kx.trans {X : Nat → Prop} {A B C : World} (h : Kx X A B) (k : Kx X B C) : Kx X A C :=
  ⟨k.os.trans h.os, k.tape.trans h.tape, k.output.trans h.output, Nat.le_trans h.size k.size, fun b o h1 h2 => k.keep b o (h.keep b o h1 h2) h2⟩
theorem Kx.mono {X Y : Nat → Prop} {A B : World} (h : Kx X A B) (hx : ∀ b, b < A.heap.size → X b → Y b) : Kx Y A B :=
  ⟨h.os, h.tape, h.output, h.size, fun b o h1 h2 => h.keep b o h1 (fun hb => h2 (hx b (Array.getElem?_eq_some_iff.1 h1).1 hb))⟩
/-- blocks of Y that are new in between don't count -/
theorem Kx.andThen {X Y Z : Nat → Prop} {A B C : World} (h : Kx X A B) (k : Kx Y B C) (hx : ∀ b, b < A.heap.size → X b → Z b) (hy : ∀ b, b < A.heap.size → Y b → Z b) : Kx Z A C :=
  ⟨k.os.trans h.os, k.tape.trans h.tape, k.output.trans h.output, Nat.le_trans h.size k.size, fun b o h1 h2 => by
    have hb := (Array.getElem?_eq_some_iff.1 h1).1
    exact k.keep b o (h.keep b o h1 (fun hb' => h2 (hx b hb hb'))) (fun hb' => h2 (hy b hb hb'))⟩
theorem Kx.drew {X : Nat → Prop} {A B : World} (h : Kx X A B) : Kx X A B.drew := ⟨h.os, h.tape, h.output, h.size, h.keep⟩
theorem Kx.cell {X : Nat → Prop} {A B : World} (h : Kx X A B) {a : Addr} {v : Value} (hc : A.cell? a = some v) (hx : ¬ X a.block) : B.cell? a = some v := by
  unfold World.cell? at hc ⊢
  cases ho : A.heap[a.block]? with
  | none => rw [ho] at hc; cases hc
  | some o => rw [h.keep _ _ ho hx]; rw [ho] at hc; exact hc
theorem Kx.frozen {X : Nat → Prop} {A B : World} (h : Kx X A B) {a : Addr} {v : Value} (hc : A.cell? a = some v) (hx : ¬ X a.block) : B.frozen? a = A.frozen? a := by
  unfold World.cell? at hc
  unfold World.frozen?
  cases ho : A.heap[a.block]? with
  | none => rw [ho] at hc; cases hc
  | some o => rw [h.keep _ _ ho hx]
theorem Kx.of_below {n : Nat} {A B : World} (h : Below n A B) : Kx (fun b => n ≤ b) A B :=
  ⟨h.os, h.tape, h.output, h.size, fun b o h1 h2 => (h.block b (by omega)).trans h1⟩
/-- nothing that was there is changed -/
theorem Kx.of_whole {X : Nat → Prop} {A B : World} (h : Below A.heap.size A B) : Kx X A B :=
  ⟨h.os, h.tape, h.output, h.size, fun b _ h1 _ => (h.block b (Array.getElem?_eq_some_iff.1 h1).1).trans h1⟩
theorem Kx.below {X : Nat → Prop} {A B : World} {n : Nat} (h : Kx X A B) (hn : n ≤ A.heap.size) (hx : ∀ b, b < n → ¬ X b) : Below n A B :=
  ⟨h.os, h.tape, h.output, h.size, fun b hb => by rw [h.keep b A.heap[b] (by simp [show b < A.heap.size by omega]) (hx b hb)]; simp [show b < A.heap.size by omega]⟩
end Go.Proofs.YtleiohccaagalaaGreat
