/-
  Types in plain Lean, and in memory.
-/
import Derived.Test.YtdofhlmffponoaaRows
import Derived.WalkKit
import Derived.WalkSpells
import Derived.WalkLawsBesides
import Derived.Below
import Derived.Deep.AppendLies
import Derived.Laws.OwnMore
import Derived.Deep.OwnRows
import Derived.Deep.LoopGhost
import Derived.Deep.DrawnRows
import Derived.Deep.QuietTactic
import Derived.BigQuiet
import Derived.Deep.RegionHeld3
import Derived.Deep.RegionWith
import Derived.Laws.IdiomStrings
import Derived.Lib.Bytealg
import Derived.Lib.OwnBridge
import Derived.Lib.IndexMore
import Derived.RowKit
import Derived.Laws.Cover1
import Derived.Laws.AppendOwnNone
import Derived.RangeFuncNested
import Derived.RangeFuncBound
import Derived.RangeFuncCalls
import Derived.RangeFuncLeaves
import Derived.RangeFuncBox
import Derived.Shelf.Abstract
import Derived.Shelf.RegionOpen
import Derived.OwnWalkIn
import Derived.TacticsInMore
import Derived.LoopNIn
import Derived.LoopIn
import Derived.WalkMore
import Derived.WalkSmall
import Derived.Laws.EntriesVeiled
import Derived.Maps.AppendAt
namespace Go.Proofs.Ytdofhlmffponoaa
open Go.RowKit
theorem nat_beq {a b : Nat} (h : a = b) : ((a : Int) == (b : Int)) = true := by subst h; simp
theorem nat_bne {a b : Nat} (h : a ≠ b) : ((a : Int) == (b : Int)) = false := by
  rw [Bool.eq_false_iff]; intro h2; exact h (by have := eq_of_beq h2; omega)
theorem int_beq {a b : Int} (h : a = b) : (a == b) = true := by subst h; simp
theorem int_bne {a b : Int} (h : a ≠ b) : (a == b) = false := by simpa using h
/-- all blocks but those of X lie as they lay -/
structure Kx (X : Nat → Prop) (A B : World) : Prop where
  os : B.os = A.os
  tape : B.tape = A.tape
  output : B.output = A.output
  size : A.heap.size ≤ B.heap.size
  keep : ∀ b o, A.heap[b]? = some o → ¬ X b → B.heap[b]? = some o
theorem Kx.refl (X : Nat → Prop) (A : World) : Kx X A A := ⟨rfl, rfl, rfl, Nat.le_refl _, fun _ _ h _ => h⟩
theorem Kx.trans {X : Nat → Prop} {A B C : World} (h : Kx X A B) (k : Kx X B C) : Kx X A C :=
  ⟨k.os.trans h.os, k.tape.trans h.tape, k.output.trans h.output, Nat.le_trans h.size k.size, fun b o h1 h2 => k.keep b o (h.keep b o h1 h2) h2⟩
theorem Kx.andThen {X Y Z : Nat → Prop} {A B C : World} (h : Kx X A B) (k : Kx Y B C) (hx : ∀ b, b < A.heap.size → X b → Z b) (hy : ∀ b, b < A.heap.size → Y b → Z b) : Kx Z A C :=
  ⟨k.os.trans h.os, k.tape.trans h.tape, k.output.trans h.output, Nat.le_trans h.size k.size, fun b o h1 h2 => by
    have hb := (Array.getElem?_eq_some_iff.1 h1).1
    exact k.keep b o (h.keep b o h1 (fun hb' => h2 (hx b hb hb'))) (fun hb' => h2 (hy b hb hb'))⟩
theorem Kx.drew {X : Nat → Prop} {A B : World} (h : Kx X A B) : Kx X A B.drew := ⟨h.os, h.tape, h.output, h.size, h.keep⟩
theorem Kx.cell {X : Nat → Prop} {A B : World} (h : Kx X A B) {a : Addr} {v : Value} (hc : A.cell? a = some v) (hx : ¬ X a.block) : B.cell? a = some v := by
  unfold World.cell? at hc ⊢
  cases ho : A.heap[a.block]? with
  | none => rw [ho] at hc; cases hc
  | some o => rw [h.keep _ _ ho hx]; rw [ho] at hc; exact hc
theorem Kx.of_whole {X : Nat → Prop} {A B : World} (h : Below A.heap.size A B) : Kx X A B :=
  ⟨h.os, h.tape, h.output, h.size, fun b _ h1 _ => (h.block b (Array.getElem?_eq_some_iff.1 h1).1).trans h1⟩
theorem Kx.below {X : Nat → Prop} {A B : World} {n : Nat} (h : Kx X A B) (hn : n ≤ A.heap.size) (hx : ∀ b, b < n → ¬ X b) : Below n A B :=
  ⟨h.os, h.tape, h.output, h.size, fun b hb => by rw [h.keep b A.heap[b] (by simp [show b < A.heap.size by omega]) (hx b hb)]; simp [show b < A.heap.size by omega]⟩
theorem kept_cell {W W' : World} (h : Below W.heap.size W W') {a : Addr} {v : Value} (hc : W.cell? a = some v) : W'.cell? a = some v :=
  (h.cell (World.block_lt_of_cell? _ _ hc)).trans hc
theorem blk_kept {W W' : World} (h : Below W.heap.size W W') {b : Nat} {o : Obj} (hb : W.heap[b]? = some o) : W'.heap[b]? = some o :=
  (h.block b (Array.getElem?_eq_some_iff.1 hb).1).trans hb
theorem below_alloc (w : World) (o : Obj) : Below w.heap.size w (w.alloc o) := (Below.refl _ w).alloc (Nat.le_refl _) _
theorem below_drew1 (w : World) : Below w.heap.size w w.drew := ⟨rfl, rfl, rfl, Nat.le_refl _, fun _ _ => rfl⟩
theorem below_dn (w : World) (n : Nat) : Below w.heap.size w (w.drewN n) := ⟨rfl, rfl, rfl, Nat.le_refl _, fun _ _ => rfl⟩
theorem bthen {A B C : World} (h : Below A.heap.size A B) (k : Below B.heap.size B C) : Below A.heap.size A C := h.trans (k.mono h.size)
theorem heap_new (w : World) (o : Obj) : (w.alloc o).heap[w.heap.size]? = some o := by show (w.heap.push _)[w.heap.size]? = _; simp
theorem cell_of {w : World} {k : Nat} {cs : Array Value} {T : TypeId} {fz : Nat × Nat} (h : w.heap[k]? = some (.cells cs T fz)) (i : Nat) : w.cell? ⟨k, i, none⟩ = cs[i]? := by simp [World.cell?, h]
theorem grownBy_kx {W W' : World} {row : Option Nat} (h : W.grownBy W' row) : Kx (fun b => row = some b) W W' :=
  ⟨h.os, h.tape, h.output, h.size, fun b _ h1 h2 => (h.block b (Array.getElem?_eq_some_iff.1 h1).1 (fun e => h2 e.symm)).trans h1⟩
/-- a type -/
inductive Ty where
  | mk (kind : Int) (name : ByteArray) (n : Int) (flag : Bool) (names : List ByteArray) (marks : List Bool) (kids : List Ty)
namespace Ty
def kind : Ty → Int | mk k _ _ _ _ _ _ => k
def name : Ty → ByteArray | mk _ x _ _ _ _ _ => x
def n : Ty → Int | mk _ _ x _ _ _ _ => x
def flag : Ty → Bool | mk _ _ _ x _ _ _ => x
def names : Ty → List ByteArray | mk _ _ _ _ x _ _ => x
def marks : Ty → List Bool | mk _ _ _ _ _ x _ => x
def kids : Ty → List Ty | mk _ _ _ _ _ _ x => x
end Ty
theorem Ty.ind {P : Ty → Prop} (h : ∀ k nm n f ns ms ks, (∀ x ∈ ks, P x) → P (.mk k nm n f ns ms ks)) : ∀ t, P t := fun t =>
  Ty.rec (motive_1 := P) (motive_2 := fun l => ∀ x ∈ l, P x) (fun k nm n f ns ms ks ih => h k nm n f ns ms ks ih) (fun _ hx => by cases hx)
    (fun x r hx hr y hy => by rcases List.mem_cons.1 hy with rfl | hy; exact hx; exact hr y hy) t
/-- what is asked of a block -/
abbrev BQ := Nat → Prop
/-- a slice of plain values: one cell each -/
def RowV {α : Type} (f : α → Value) (B : BQ) (W : World) (v : Value) (l : List α) : Prop :=
  (∃ a c, v = .slice a 0 c ∧ l = []) ∨ ∃ b o c, v = .slice (some ⟨b, o, none⟩) l.length c ∧ (l.length : Int) ≤ 9223372036854775807 ∧ b < W.heap.size ∧ B b ∧ ∀ i x, l[i]? = some x → W.cell? ⟨b, o + i, none⟩ = some (f x)
abbrev StrV := RowV Value.string
abbrev BooV := RowV Value.bool
theorem RowV.to {α : Type} {f : α → Value} {B B' : BQ} {X : Nat → Prop} {W W' : World} {v : Value} {l : List α} (h : RowV f B W v l) (hk : Kx X W W') (hB : ∀ b, b < W.heap.size → B b → B' b) (hX : ∀ b, b < W.heap.size → B b → ¬ X b) : RowV f B' W' v l := by
  rcases h with h | ⟨b, o, c, e, hl, hb, h1, h2⟩
  · exact .inl h
  · exact .inr ⟨b, o, c, e, hl, Nat.lt_of_lt_of_le hb hk.size, hB b hb h1, fun i x hx => hk.cell (h2 i x hx) (hX b hb h1)⟩
theorem RowV.slice {α : Type} {f : α → Value} {B : BQ} {W : World} {v : Value} {l : List α} (h : RowV f B W v l) : ∃ a c, v = .slice a l.length c ∧ (l.length : Int) ≤ 9223372036854775807 := by
  rcases h with ⟨a, c, rfl, rfl⟩ | ⟨b, o, c, rfl, hl, _⟩
  · exact ⟨a, c, rfl, by simp⟩
  · exact ⟨_, c, rfl, hl⟩
theorem RowV.get {α : Type} {f : α → Value} {B : BQ} {W : World} {a : Option Addr} {n c : Nat} {l : List α} (h : RowV f B W (.slice a n c) l) {i : Nat} (hi : i < l.length) : ∃ b o, a = some ⟨b, o, none⟩ ∧ W.cell? ⟨b, o + i, none⟩ = some (f l[i]) := by
  rcases h with ⟨_, _, _, rfl⟩ | ⟨b, o, c', e, hl, _, h1, h2⟩
  · cases hi
  · obtain ⟨rfl, _, _⟩ : a = some ⟨b, o, none⟩ ∧ n = l.length ∧ c = c' := by simpa using e
    exact ⟨b, o, rfl, h2 i _ (List.getElem?_eq_getElem hi)⟩
mutual
/-- the type lies at block b from cell o on; all its slices in blocks of B -/
def Ty.lies (B : BQ) (W : World) : Ty → Nat → Nat → Prop
  | .mk k nm n f ns ms ks, b, o => W.cell? ⟨b, o, none⟩ = some (.int .i64 k) ∧ W.cell? ⟨b, o + 1, none⟩ = some (.string nm) ∧ W.cell? ⟨b, o + 2, none⟩ = some (.int .i64 n) ∧ W.cell? ⟨b, o + 3, none⟩ = some (.bool f) ∧
      (∃ v, W.cell? ⟨b, o + 4, none⟩ = some v ∧ StrV B W v ns) ∧ (∃ v, W.cell? ⟨b, o + 5, none⟩ = some v ∧ BooV B W v ms) ∧
      ∃ v, W.cell? ⟨b, o + 6, none⟩ = some v ∧ ((∃ a c, v = .slice a 0 c ∧ ks = []) ∨ ∃ b' o' c, v = .slice (some ⟨b', o', none⟩) ks.length c ∧ (ks.length : Int) ≤ 9223372036854775807 ∧ b' < W.heap.size ∧ B b' ∧ liesT B W ks b' o')
def liesT (B : BQ) (W : World) : List Ty → Nat → Nat → Prop
  | [], _, _ => True
  | x :: r, b, o => x.lies B W b o ∧ liesT B W r b (o + 7)
end
/-- a slice of types reads as these -/
def SlT (B : BQ) (W : World) (v : Value) (ks : List Ty) : Prop :=
  (∃ a c, v = .slice a 0 c ∧ ks = []) ∨ ∃ b o c, v = .slice (some ⟨b, o, none⟩) ks.length c ∧ (ks.length : Int) ≤ 9223372036854775807 ∧ b < W.heap.size ∧ B b ∧ liesT B W ks b o
/-- the parts of a type that stand in slices -/
structure Prt (B : BQ) (W : World) (t : Ty) (vn vm vk : Value) : Prop where
  ns : StrV B W vn t.names
  ms : BooV B W vm t.marks
  ks : SlT B W vk t.kids
/-- a type as a value -/
def agT (t : Ty) (vn vm vk : Value) : Value := .agg #[.int .i64 t.kind, .string t.name, .int .i64 t.n, .bool t.flag, vn, vm, vk]
theorem lies_iff {B : BQ} {W : World} {t : Ty} {b o : Nat} : t.lies B W b o ↔ W.cell? ⟨b, o, none⟩ = some (.int .i64 t.kind) ∧ W.cell? ⟨b, o + 1, none⟩ = some (.string t.name) ∧ W.cell? ⟨b, o + 2, none⟩ = some (.int .i64 t.n) ∧ W.cell? ⟨b, o + 3, none⟩ = some (.bool t.flag) ∧
    ∃ vn vm vk, W.cell? ⟨b, o + 4, none⟩ = some vn ∧ W.cell? ⟨b, o + 5, none⟩ = some vm ∧ W.cell? ⟨b, o + 6, none⟩ = some vk ∧ Prt B W t vn vm vk := by
  cases t
  simp only [Ty.lies, Ty.kind, Ty.name, Ty.n, Ty.flag]
  constructor
  · rintro ⟨h0, h1, h2, h3, ⟨v4, h4, g4⟩, ⟨v5, h5, g5⟩, v6, h6, g6⟩
    exact ⟨h0, h1, h2, h3, v4, v5, v6, h4, h5, h6, g4, g5, g6⟩
  · rintro ⟨h0, h1, h2, h3, v4, v5, v6, h4, h5, h6, g⟩
    exact ⟨h0, h1, h2, h3, ⟨v4, h4, g.ns⟩, ⟨v5, h5, g.ms⟩, v6, h6, g.ks⟩
theorem liesT_nil {B : BQ} {W : World} {b o : Nat} : liesT B W [] b o := by simp [liesT]
theorem liesT_cons {B : BQ} {W : World} {x : Ty} {r : List Ty} {b o : Nat} : liesT B W (x :: r) b o ↔ x.lies B W b o ∧ liesT B W r b (o + 7) := by simp [liesT]
theorem liesT_get {B : BQ} {W : World} {l : List Ty} {b o : Nat} (h : liesT B W l b o) (i : Nat) (hi : i < l.length) : (l[i]).lies B W b (o + i * 7) := by
  induction l generalizing o i with
  | nil => cases hi
  | cons x r ih =>
    obtain ⟨h1, h2⟩ := liesT_cons.1 h
    cases i with
    | zero => simpa using h1
    | succ i => have := ih h2 i (by simpa using hi); simp only [List.getElem_cons_succ]; rwa [show o + (i + 1) * 7 = o + 7 + i * 7 by omega]
theorem liesT_of {B : BQ} {W : World} {l : List Ty} {b o : Nat} (h : ∀ i (hi : i < l.length), (l[i]).lies B W b (o + i * 7)) : liesT B W l b o := by
  induction l generalizing o with
  | nil => exact liesT_nil
  | cons x r ih =>
    have h0 := h 0 (by simp)
    rw [Nat.zero_mul, Nat.add_zero] at h0
    refine liesT_cons.2 ⟨h0, ih fun i hi => ?_⟩
    have := h (i + 1) (by simpa using hi)
    simp only [List.getElem_cons_succ] at this
    rwa [show o + (i + 1) * 7 = o + 7 + i * 7 by omega] at this
/-- what is kept reads on as it read -/
theorem lies_to {B B' : BQ} {X : Nat → Prop} {W W' : World} (hk : Kx X W W') (hB : ∀ b, b < W.heap.size → B b → B' b) (hX : ∀ b, b < W.heap.size → B b → ¬ X b) : ∀ t : Ty, ∀ b o, ¬ X b → t.lies B W b o → t.lies B' W' b o :=
  Ty.ind fun k nm n f ns ms ks ih b o hb h => by
    obtain ⟨h0, h1, h2, h3, v4, v5, v6, h4, h5, h6, g⟩ := lies_iff.1 h
    refine lies_iff.2 ⟨hk.cell h0 hb, hk.cell h1 hb, hk.cell h2 hb, hk.cell h3 hb, v4, v5, v6, hk.cell h4 hb, hk.cell h5 hb, hk.cell h6 hb, g.ns.to hk hB hX, g.ms.to hk hB hX, ?_⟩
    rcases g.ks with g | ⟨b', o', c, e, hl, hb1, hb', hL⟩
    · exact .inl g
    · exact .inr ⟨b', o', c, e, hl, Nat.lt_of_lt_of_le hb1 hk.size, hB _ hb1 hb', liesT_of fun i hi => ih _ (List.getElem_mem _) b' _ (hX _ hb1 hb') (liesT_get hL i hi)⟩
theorem SlT.to {B B' : BQ} {X : Nat → Prop} {W W' : World} {v : Value} {l : List Ty} (h : SlT B W v l) (hk : Kx X W W') (hB : ∀ b, b < W.heap.size → B b → B' b) (hX : ∀ b, b < W.heap.size → B b → ¬ X b) : SlT B' W' v l := by
  rcases h with g | ⟨b', o', c, e, hl, hb1, hb', hL⟩
  · exact .inl g
  · exact .inr ⟨b', o', c, e, hl, Nat.lt_of_lt_of_le hb1 hk.size, hB _ hb1 hb', liesT_of fun i hi => lies_to hk hB hX _ b' _ (hX _ hb1 hb') (liesT_get hL i hi)⟩
theorem Prt.to {B B' : BQ} {X : Nat → Prop} {W W' : World} {t : Ty} {vn vm vk : Value} (h : Prt B W t vn vm vk) (hk : Kx X W W') (hB : ∀ b, b < W.heap.size → B b → B' b) (hX : ∀ b, b < W.heap.size → B b → ¬ X b) : Prt B' W' t vn vm vk :=
  ⟨h.ns.to hk hB hX, h.ms.to hk hB hX, h.ks.to hk hB hX⟩
theorem Prt.kept {B : BQ} {W W' : World} {t : Ty} {vn vm vk : Value} (h : Prt B W t vn vm vk) (hk : Below W.heap.size W W') : Prt B W' t vn vm vk :=
  h.to (X := fun _ => False) (Kx.of_whole hk) (fun _ _ h => h) (fun _ _ _ h => h)
theorem SlT.kept {B : BQ} {W W' : World} {v : Value} {l : List Ty} (h : SlT B W v l) (hk : Below W.heap.size W W') : SlT B W' v l :=
  h.to (X := fun _ => False) (Kx.of_whole hk) (fun _ _ h => h) (fun _ _ _ h => h)
theorem RowV.kept {α : Type} {f : α → Value} {B : BQ} {W W' : World} {v : Value} {l : List α} (h : RowV f B W v l) (hk : Below W.heap.size W W') : RowV f B W' v l :=
  h.to (X := fun _ => False) (Kx.of_whole hk) (fun _ _ h => h) (fun _ _ _ h => h)
theorem SlT.with {B B' : BQ} {W : World} {v : Value} {l : List Ty} (h : SlT B W v l) (hB : ∀ b, b < W.heap.size → B b → B' b) : SlT B' W v l := h.to (X := fun _ => False) (Kx.refl _ _) hB (fun _ _ _ h => h)
theorem Prt.with {B B' : BQ} {W : World} {t : Ty} {vn vm vk : Value} (h : Prt B W t vn vm vk) (hB : ∀ b, b < W.heap.size → B b → B' b) : Prt B' W t vn vm vk := h.to (X := fun _ => False) (Kx.refl _ _) hB (fun _ _ _ h => h)
/-- the slice's parts -/
theorem SlT.open {B : BQ} {W : World} {v : Value} {l : List Ty} (h : SlT B W v l) :
    ∃ a c, v = .slice a l.length c ∧ (l.length : Int) ≤ 9223372036854775807 ∧ ∀ i (hi : i < l.length), ∃ b o, a = some ⟨b, o, none⟩ ∧ b < W.heap.size ∧ B b ∧ (l[i]).lies B W b (o + i * 7) := by
  rcases h with ⟨a, c, rfl, rfl⟩ | ⟨b, o, c, rfl, hl, hb1, hb, hL⟩
  · exact ⟨a, c, rfl, by simp, fun i hi => by cases hi⟩
  · exact ⟨_, c, rfl, hl, fun i hi => ⟨b, o, rfl, hb1, hb, liesT_get hL i hi⟩⟩
theorem SlT.slice {B : BQ} {W : World} {v : Value} {l : List Ty} (h : SlT B W v l) : ∃ a c, v = .slice a l.length c ∧ (l.length : Int) ≤ 9223372036854775807 := by
  obtain ⟨a, c, h, hl, _⟩ := h.open
  exact ⟨a, c, h, hl⟩
/-- the three slices in form -/
theorem Prt.form {B : BQ} {W : World} {t : Ty} {vn vm vk : Value} (h : Prt B W t vn vm vk) : ∃ an cn am cm ak ck, vn = .slice an t.names.length cn ∧ vm = .slice am t.marks.length cm ∧ vk = .slice ak t.kids.length ck := by
  obtain ⟨an, cn, e1, _⟩ := h.ns.slice
  obtain ⟨am, cm, e2, _⟩ := h.ms.slice
  obtain ⟨ak, ck, e3, _⟩ := h.ks.slice
  exact ⟨an, cn, am, cm, ak, ck, e1, e2, e3⟩
theorem bx7 {w : World} {B : Nat} {a b c d e f g : Value} {T : TypeId} (h : w.heap[B]? = some (.cells #[a, b, c, d, e, f, g] T (0, 0))) : w.cell? ⟨B, 0, none⟩ = some a ∧ w.cell? ⟨B, 1, none⟩ = some b ∧ w.cell? ⟨B, 2, none⟩ = some c ∧ w.cell? ⟨B, 3, none⟩ = some d ∧ w.cell? ⟨B, 4, none⟩ = some e ∧ w.cell? ⟨B, 5, none⟩ = some f ∧ w.cell? ⟨B, 6, none⟩ = some g := by
  simp [World.cell?, h]
end Go.Proofs.Ytdofhlmffponoaa

/-
  Laws for a walk over a list of what is still to come: a loop with a number that is not told, deferred marks at a return, an append whose block is told.
-/
namespace Go.Proofs.Ytdofhlmffponoaa
open Go.RowKit
/-- a loop whose rounds are counted by a number that the code does not hold -/
theorem loopG {F : Fence} {n : Nat} {P : Program} {Q : Exit → Act → World → Prop} {a : Act} {w : World} {c : Code} (I : Nat → Act → World → Prop) (g : Nat) (h0 : I g a w)
    (round : ∀ g a w, I g a w → c.wpIn F n P (Exit.then (fun a' w' => ∃ g', g' < g ∧ I g' a' w') Q) a w) : (Code.loop c).wpIn F n P Q a w := by
  have key : ∀ g, ∀ g', g' ≤ g → ∀ a w, I g' a w → Code.roundsIn F n P c Q (g + 1) a w := by
    intro g
    induction g with
    | zero =>
      intro g' hg a w h
      refine wpIn_mono (round g' a w h) ?_
      rintro e a' w' hq
      cases e with
      | normal => obtain ⟨g'', h1, _⟩ := hq; omega
      | _ => exact hq
    | succ g ih =>
      intro g' hg a w h
      refine wpIn_mono (round g' a w h) ?_
      rintro e a' w' hq
      cases e with
      | normal => obtain ⟨g'', h1, h2⟩ := hq; exact ih g'' (by omega) a' w' h2
      | _ => exact hq
  exact wpIn_loop_rounds (g + 1) (key g g (Nat.le_refl _) a w h0)
theorem kx_putObj (W : World) (l : Nat) (o' : Obj) : Kx (fun b => b = l) W (W.putObj l o') :=
  ⟨rfl, rfl, rfl, by simp [World.putObj], fun b _ hb hne => (World.putObj_heap_other hne).trans hb⟩
/-- a frame's marks -/
def marks (Ds : List Nat) : List Deferred := Ds.map fun D => { target := .collected D, args := #[] }
theorem leaves_marks {F : Fence} {n : Nat} {P : Program} {fn : Func} {tmps : Array Value} {R : Ending → World → Prop} {v : Value} (hv : ∀ w, (results fn tmps).run P w = .ok v w) :
    ∀ (Ds : List Nat) (w : World), Ds.Nodup → (∀ D, D ∈ Ds → w.heap[D]? = some (.deferred (some []))) → (∀ w', Kx (fun b => b ∈ Ds) w w' → R (.returned v) w') → LeavesInM F n P fn tmps R (marks Ds) .returning w := by
  intro Ds
  induction Ds with
  | nil => intro w _ _ h; exact ⟨v, hv w, h w (Kx.refl _ _)⟩
  | cons D Ds ih =>
    intro w hn hD h
    obtain ⟨hn1, hn2⟩ := List.nodup_cons.1 hn
    refine ⟨by simp, .inl ⟨D, _, rfl, run_takeDeferred (hD D (by simp)), ?_⟩⟩
    refine ih _ hn2 (fun D' hD' => (World.putObj_heap_other (fun e => by cases e; exact hn1 hD')).trans (hD D' (by simp [hD']))) (fun w' hk => h w' ?_)
    exact (kx_putObj w D _).andThen hk (fun b _ e => by simp [e]) (fun b _ e => by simp [e])
/-- an append's row stays in its block, or is a new one -/
theorem append_block {P : Program} (w : World) (base : Nat) (t ty e : TypeId) (i : TypeInfo) (z : Value) (size bytes : Nat) (ht : P.underlying t = some (.slice e)) (hi : P.info? e = some i) (hz : i.zero = some z)
    (hsize : i.size = size) (hby : i.bytes = bytes) (hzs : z.cells.size = size) (hsz : 0 < size)
    (v : Value) (n : Nat) (xs : List Value) (hown : w.ownsRow base e size v n xs)
    (a : Addr) (m c : Nat) (news : List Value) (hl : news.length = m * size) (hnews : ∀ j u, news[j]? = some u → w.cell? (a.add j) = some u) (h1 : ∀ u ∈ news, u.oneCell' = true)
    (h63 : n + m ≤ maxLen) (hbytes : (n + m) * bytes ≤ 140737488355328) (v' : Value) (w' : World) (hr : (Builtin.append_ #[t, t] ty #[v, .slice (some a) m c]).run P w = .ok v' w') :
    ∀ k, v'.ownBlock = some k → v.ownBlock = some k ∨ w.heap.size ≤ k := by
  rcases hown.2 with ⟨rfl, rfl⟩ | ⟨g, cap, cur, rfl, hbg, hg, hnc, hcm, hcs, htake⟩
  · have hx : xs = [] := List.eq_nil_of_length_eq_zero (by simpa using hown.1)
    subst hx
    obtain ⟨v2, w2, hr2, ho2, -, -⟩ := run_append_own (P := P) w w.heap.size t ty e i z size bytes ht hi hz hsize hby hzs hsz _ 0 [] (World.ownsRow_nil w _ e size) a m c news hl hnews h1 h63 hbytes (Nat.le_refl _)
    rw [hr] at hr2
    obtain ⟨rfl, rfl⟩ : v' = v2 ∧ w' = w2 := by simpa using hr2
    intro k hk
    exact .inr (ho2.lt k hk).1
  · by_cases hroom : n + m ≤ cap
    · have hfit : n * i.size + news.length ≤ cur.size := by rw [hl, hcs, hsize, ← Nat.add_mul]; exact Nat.mul_le_mul_right _ hroom
      have hr2 := run_append_room (P := P) w t ty e i ht hi g n cap cur hg a m c news (by rw [hsize]; exact hl) hnews h1 hroom hfit
      rw [hr] at hr2
      obtain ⟨rfl, _⟩ : v' = _ ∧ w' = _ := by simpa using hr2
      intro k hk
      exact .inl hk
    · have holds : ∀ j u, xs[j]? = some u → w.cell? ((⟨g, 0, none⟩ : Addr).add j) = some u := hown.cells (g := g) rfl
      have hsmall : n + m ≤ 9223372036854775807 := by simp only [maxLen] at h63; omega
      have hr2 := run_append_grow (P := P) w t ty e i z ht hi hz ⟨g, 0, none⟩ n cap xs (by rw [hsize]; exact hown.1) holds a m c news (by rw [hsize]; exact hl) hnews (by omega) (by omega) (growslice_fits (by omega) (by rw [hby]; exact hbytes))
      rw [hr] at hr2
      obtain ⟨rfl, _⟩ : v' = _ ∧ w' = _ := by simpa using hr2
      intro k hk
      obtain rfl : w.heap.size = k := by simpa [Value.ownBlock] using hk
      exact .inr (Nat.le_refl _)
theorem wpListIn_append_at {F : Fence} {n : Nat} {P : Program} (w : World) {ops : Array Oper} {rest : List Oper} {o : Oper} {a : Act} {Q : Exit → Act → World → Prop}
    (hg : o.guard = none) (s x : Operand) (t : TypeId) (hop : o.op = Op.call { callee := Callee.builtin Builtin.append, args := #[s, x], argTypes := #[t, t] })
    (base : Nat) (e : TypeId) (i : TypeInfo) (z : Value) (size bytes : Nat) (h1 : P.underlying t = some (.slice e)) (h2 : P.info? e = some i) (h3 : i.zero = some z) (h4 : i.size = size) (h5 : i.bytes = bytes) (h6 : z.cells.size = size) (h7 : 0 < size)
    (v : Value) (k : Nat) (xs : List Value) (hs : a.eval s = v) (hown : w.ownsRow base e size v k xs) (ad : Addr) (m c : Nat) (news : List Value) (hx : a.eval x = .slice (some ad) m c) (hn : news.length = m * size)
    (hc : ∀ j u, news[j]? = some u → w.cell? (ad.add j) = some u) (h1c : ∀ u ∈ news, u.oneCell' = true) (b1 : k + m ≤ maxLen) (b2 : (k + m) * bytes ≤ 140737488355328) (b3 : base ≤ w.heap.size)
    (hK : ∀ v' w', w'.ownsRow base e size v' (k + m) (xs ++ news) → w.grownBy w' v.ownBlock → (∀ j, v'.ownBlock = some j → v.ownBlock = some j ∨ w.heap.size ≤ j) → wpListIn F n P ops Q rest (a.put o.dst v') w') :
    wpListIn F n P ops Q (o :: rest) a w := by
  refine wpListIn_plain hg fun K hK' => ?_
  obtain ⟨v', w', hrun, r1, r2, r3⟩ := run_append_own (P := P) w base t o.type e i z size bytes h1 h2 h3 h4 h5 h6 h7 v k xs hown ad m c news hn hc h1c b1 b2 b3
  have r4 := append_block (P := P) w base t o.type e i z size bytes h1 h2 h3 h4 h5 h6 h7 v k xs hown ad m c news hn hc h1c b1 b2 v' w' hrun
  unfold Oper.wpIn
  refine ⟨?_, ?_⟩
  · simp [Oper.about, hop, resolve, Target.leads, Sem.run_pure]
  · rw [Oper.semAt_plain F _ _ (by rw [hop]; intro c hc'; cases hc')]
    simp [execOp, hop, resolve, invoke, builtin, hs, hx, hrun, Result.andThen]
    exact hK' _ _ (hK v' w' r1 r2 r4)
end Go.Proofs.Ytdofhlmffponoaa

/-
  slices.Clone, walked at each type of elements.
-/
namespace Go.Proofs.Ytdofhlmffponoaa
open Go.RowKit
attribute [local go_sem ↓] Go.wp_at_zero Go.wp_at_succ
/-- a slice of n things whose cells are these -/
inductive Src (W : World) : Value → Nat → List Value → Prop
  | nil (c : Nat) : Src W (.slice none 0 c) 0 []
  | non (a : Addr) (c : Nat) : Src W (.slice (some a) 0 c) 0 []
  | row (b o n c : Nat) (l : List Value) (h : ∀ j u, l[j]? = some u → W.cell? ⟨b, o + j, none⟩ = some u) : Src W (.slice (some ⟨b, o, none⟩) n c) n l
theorem own_ge {g n c : Nat} : ∀ k, (Value.slice (some ⟨g, 0, none⟩) n c).ownBlock = some k → g ≤ k := fun k e => by
  have e' : g = k := by simpa [Value.ownBlock] using e
  omega
/-- what Clone answers: the same in new memory -/
structure ClQ (w : World) (T : TypeId) (size n : Nat) (l : List Value) (e : Ending) (w' : World) : Prop where
  ex : ∃ v, e = .returned v ∧ w'.ownsRow w.heap.size T size v n l
  bl : Below w.heap.size w w'
theorem ClQ.slice {w w' : World} {T : TypeId} {size n : Nat} {l : List Value} {e : Ending} (h : ClQ w T size n l e w') : ∃ a c, e = .returned (.slice a n c) ∧ w'.ownsRow w.heap.size T size (.slice a n c) n l := by
  obtain ⟨v, rfl, ho⟩ := h.ex
  rcases ho.2 with ⟨rfl, h0⟩ | ⟨g, cap, cur, rfl, _⟩
  · subst h0; exact ⟨_, _, rfl, ho⟩
  · exact ⟨_, _, rfl, ho⟩
theorem infoS : (Try.prog.info? 9).map (fun i => (i.zero, i.size, i.bytes)) = some (some (.string ⟨#[]⟩), 1, 16) := by kernel_rfl
theorem infoS_ex : ∃ i, Try.prog.info? 9 = some i ∧ i.zero = some (.string ⟨#[]⟩) ∧ i.size = 1 ∧ i.bytes = 16 := by
  obtain ⟨i0, hi, h1, h2, h3⟩ := info_parts infoS
  exact ⟨i0, hi, h1, h2, h3⟩
set_option maxRecDepth 100000 in
set_option maxHeartbeats 1000000 in
theorem cloneS {w : World} {v : Value} {n : Nat} {l : List Value} (h : Src w v n l) (hl : l.length = n * 1) (h1 : ∀ u ∈ l, u.oneCell' = true) (hn : n * 16 ≤ 140737488355328) : Calls Try.prog 31 #[v] w (ClQ w 9 1 n l) := by
  obtain ⟨i0, hi, hz0, hz1, hz2⟩ := infoS_ex
  have q22 : ∀ (w : World) (a : Option Addr) (n c n' c' : Nat), (binOp .eql 25 (.slice a n c) (.slice none n' c')).run Try.prog w = .ok (.bool a.isNone) w := fun w a n c n' c' => Go.Lib.run_eql_slice_nil w _ _ a n c n' c' Try.underlying25
  cases h with
  | nil c =>
    go_enter Try.func31, Try.ntmps31
    go_wp2_with fail
    go_ret
    exact ⟨⟨_, rfl, World.ownsRow_nil _ _ _ _⟩, Below.refl _ _⟩
  | non a c =>
    have hr : (w.alloc (.cells #[] 9)).ownsRow w.heap.size 9 1 (.slice (some ⟨w.heap.size, 0, none⟩) 0 0) 0 [] := World.ownsRow_made w #[] 0 (Nat.le_refl _) (by simp [maxLen]) (by simp)
    go_enter Try.func31, Try.ntmps31
    go_wp2_with (at_builtin; refine wpList_append_own _ rfl _ _ 25 rfl w.heap.size 9 i0 (.string ⟨#[]⟩) 1 16 Try.underlying25 hi hz0 hz1 hz2 rfl (by decide) _ _ _ rfl hr a 0 c [] rfl rfl (by simp) (by simp) (by simp [maxLen]) (by simp) (by simp) ?_; intro v' w1 hown' hgrow _)
    go_ret
    exact ⟨⟨_, rfl, by simpa using hown'⟩, ((Below.refl _ w).alloc (Nat.le_refl _) _).grown hgrow (by simp) own_ge⟩
  | row b o n c l hc =>
    have hr : (w.alloc (.cells #[] 9)).ownsRow w.heap.size 9 1 (.slice (some ⟨w.heap.size, 0, none⟩) 0 0) 0 [] := World.ownsRow_made w #[] 0 (Nat.le_refl _) (by simp [maxLen]) (by simp)
    have hc2 : ∀ j u, l[j]? = some u → (w.alloc (.cells #[] 9)).cell? ((⟨b, o, none⟩ : Addr).add j) = some u := fun j u hj => by
      rw [Addr.add_lit]; exact kept_cell (below_alloc w _) (hc j u hj)
    go_enter Try.func31, Try.ntmps31
    go_wp2_with (at_builtin; refine wpList_append_own _ rfl _ _ 25 rfl w.heap.size 9 i0 (.string ⟨#[]⟩) 1 16 Try.underlying25 hi hz0 hz1 hz2 rfl (by decide) _ _ _ rfl hr ⟨b, o, none⟩ n c l rfl hl hc2 h1 (by simp [maxLen]; omega) (by omega) (by simp) ?_; intro v' w1 hown' hgrow _)
    go_ret
    exact ⟨⟨_, rfl, by simpa using hown'⟩, ((Below.refl _ w).alloc (Nat.le_refl _) _).grown hgrow (by simp) own_ge⟩
theorem infoB : (Try.prog.info? 4).map (fun i => (i.zero, i.size, i.bytes)) = some (some (.bool false), 1, 1) := by kernel_rfl
theorem infoB_ex : ∃ i, Try.prog.info? 4 = some i ∧ i.zero = some (.bool false) ∧ i.size = 1 ∧ i.bytes = 1 := by
  obtain ⟨i0, hi, h1, h2, h3⟩ := info_parts infoB
  exact ⟨i0, hi, h1, h2, h3⟩
set_option maxRecDepth 100000 in
set_option maxHeartbeats 1000000 in
theorem cloneB {w : World} {v : Value} {n : Nat} {l : List Value} (h : Src w v n l) (hl : l.length = n * 1) (h1 : ∀ u ∈ l, u.oneCell' = true) (hn : n * 1 ≤ 140737488355328) : Calls Try.prog 32 #[v] w (ClQ w 4 1 n l) := by
  obtain ⟨i0, hi, hz0, hz1, hz2⟩ := infoB_ex
  have q22 : ∀ (w : World) (a : Option Addr) (n c n' c' : Nat), (binOp .eql 26 (.slice a n c) (.slice none n' c')).run Try.prog w = .ok (.bool a.isNone) w := fun w a n c n' c' => Go.Lib.run_eql_slice_nil w _ _ a n c n' c' Try.underlying26
  cases h with
  | nil c =>
    go_enter Try.func32, Try.ntmps32
    go_wp2_with fail
    go_ret
    exact ⟨⟨_, rfl, World.ownsRow_nil _ _ _ _⟩, Below.refl _ _⟩
  | non a c =>
    have hr : (w.alloc (.cells #[] 4)).ownsRow w.heap.size 4 1 (.slice (some ⟨w.heap.size, 0, none⟩) 0 0) 0 [] := World.ownsRow_made w #[] 0 (Nat.le_refl _) (by simp [maxLen]) (by simp)
    go_enter Try.func32, Try.ntmps32
    go_wp2_with (at_builtin; refine wpList_append_own _ rfl _ _ 26 rfl w.heap.size 4 i0 (.bool false) 1 1 Try.underlying26 hi hz0 hz1 hz2 rfl (by decide) _ _ _ rfl hr a 0 c [] rfl rfl (by simp) (by simp) (by simp [maxLen]) (by simp) (by simp) ?_; intro v' w1 hown' hgrow _)
    go_ret
    exact ⟨⟨_, rfl, by simpa using hown'⟩, ((Below.refl _ w).alloc (Nat.le_refl _) _).grown hgrow (by simp) own_ge⟩
  | row b o n c l hc =>
    have hr : (w.alloc (.cells #[] 4)).ownsRow w.heap.size 4 1 (.slice (some ⟨w.heap.size, 0, none⟩) 0 0) 0 [] := World.ownsRow_made w #[] 0 (Nat.le_refl _) (by simp [maxLen]) (by simp)
    have hc2 : ∀ j u, l[j]? = some u → (w.alloc (.cells #[] 4)).cell? ((⟨b, o, none⟩ : Addr).add j) = some u := fun j u hj => by
      rw [Addr.add_lit]; exact kept_cell (below_alloc w _) (hc j u hj)
    go_enter Try.func32, Try.ntmps32
    go_wp2_with (at_builtin; refine wpList_append_own _ rfl _ _ 26 rfl w.heap.size 4 i0 (.bool false) 1 1 Try.underlying26 hi hz0 hz1 hz2 rfl (by decide) _ _ _ rfl hr ⟨b, o, none⟩ n c l rfl hl hc2 h1 (by simp [maxLen]; omega) (by omega) (by simp) ?_; intro v' w1 hown' hgrow _)
    go_ret
    exact ⟨⟨_, rfl, by simpa using hown'⟩, ((Below.refl _ w).alloc (Nat.le_refl _) _).grown hgrow (by simp) own_ge⟩
theorem infoT : (Try.prog.info? 29).map (fun i => (i.zero, i.size, i.bytes)) = some (some (.agg #[.int .i64 0, .string ⟨#[]⟩, .int .i64 0, .bool false, .slice none 0 0, .slice none 0 0, .slice none 0 0]), 7, 112) := by kernel_rfl
theorem infoT_ex : ∃ i, Try.prog.info? 29 = some i ∧ i.zero = some (.agg #[.int .i64 0, .string ⟨#[]⟩, .int .i64 0, .bool false, .slice none 0 0, .slice none 0 0, .slice none 0 0]) ∧ i.size = 7 ∧ i.bytes = 112 := by
  obtain ⟨i0, hi, h1, h2, h3⟩ := info_parts infoT
  exact ⟨i0, hi, h1, h2, h3⟩
set_option maxRecDepth 100000 in
set_option maxHeartbeats 1000000 in
theorem cloneT {w : World} {v : Value} {n : Nat} {l : List Value} (h : Src w v n l) (hl : l.length = n * 7) (h1 : ∀ u ∈ l, u.oneCell' = true) (hn : n * 112 ≤ 140737488355328) : Calls Try.prog 33 #[v] w (ClQ w 29 7 n l) := by
  obtain ⟨i0, hi, hz0, hz1, hz2⟩ := infoT_ex
  have q22 : ∀ (w : World) (a : Option Addr) (n c n' c' : Nat), (binOp .eql 27 (.slice a n c) (.slice none n' c')).run Try.prog w = .ok (.bool a.isNone) w := fun w a n c n' c' => Go.Lib.run_eql_slice_nil w _ _ a n c n' c' Try.underlying27
  cases h with
  | nil c =>
    go_enter Try.func33, Try.ntmps33
    go_wp2_with fail
    go_ret
    exact ⟨⟨_, rfl, World.ownsRow_nil _ _ _ _⟩, Below.refl _ _⟩
  | non a c =>
    have hr : (w.alloc (.cells #[] 29)).ownsRow w.heap.size 29 7 (.slice (some ⟨w.heap.size, 0, none⟩) 0 0) 0 [] := World.ownsRow_made w #[] 0 (Nat.le_refl _) (by simp [maxLen]) (by simp)
    go_enter Try.func33, Try.ntmps33
    go_wp2_with (at_builtin; refine wpList_append_own _ rfl _ _ 27 rfl w.heap.size 29 i0 (.agg #[.int .i64 0, .string ⟨#[]⟩, .int .i64 0, .bool false, .slice none 0 0, .slice none 0 0, .slice none 0 0]) 7 112 Try.underlying27 hi hz0 hz1 hz2 rfl (by decide) _ _ _ rfl hr a 0 c [] rfl rfl (by simp) (by simp) (by simp [maxLen]) (by simp) (by simp) ?_; intro v' w1 hown' hgrow _)
    go_ret
    exact ⟨⟨_, rfl, by simpa using hown'⟩, ((Below.refl _ w).alloc (Nat.le_refl _) _).grown hgrow (by simp) own_ge⟩
  | row b o n c l hc =>
    have hr : (w.alloc (.cells #[] 29)).ownsRow w.heap.size 29 7 (.slice (some ⟨w.heap.size, 0, none⟩) 0 0) 0 [] := World.ownsRow_made w #[] 0 (Nat.le_refl _) (by simp [maxLen]) (by simp)
    have hc2 : ∀ j u, l[j]? = some u → (w.alloc (.cells #[] 29)).cell? ((⟨b, o, none⟩ : Addr).add j) = some u := fun j u hj => by
      rw [Addr.add_lit]; exact kept_cell (below_alloc w _) (hc j u hj)
    go_enter Try.func33, Try.ntmps33
    go_wp2_with (at_builtin; refine wpList_append_own _ rfl _ _ 27 rfl w.heap.size 29 i0 (.agg #[.int .i64 0, .string ⟨#[]⟩, .int .i64 0, .bool false, .slice none 0 0, .slice none 0 0, .slice none 0 0]) 7 112 Try.underlying27 hi hz0 hz1 hz2 rfl (by decide) _ _ _ rfl hr ⟨b, o, none⟩ n c l rfl hl hc2 h1 (by simp [maxLen]; omega) (by omega) (by simp) ?_; intro v' w1 hown' hgrow _)
    go_ret
    exact ⟨⟨_, rfl, by simpa using hown'⟩, ((Below.refl _ w).alloc (Nat.le_refl _) _).grown hgrow (by simp) own_ge⟩
theorem infoP : (Try.prog.info? 80).map (fun i => (i.zero, i.size, i.bytes)) = some (some (.pointer none), 1, 8) := by kernel_rfl
theorem infoP_ex : ∃ i, Try.prog.info? 80 = some i ∧ i.zero = some (.pointer none) ∧ i.size = 1 ∧ i.bytes = 8 := by
  obtain ⟨i0, hi, h1, h2, h3⟩ := info_parts infoP
  exact ⟨i0, hi, h1, h2, h3⟩
set_option maxRecDepth 100000 in
set_option maxHeartbeats 1000000 in
theorem cloneP {w : World} {v : Value} {n : Nat} {l : List Value} (h : Src w v n l) (hl : l.length = n * 1) (h1 : ∀ u ∈ l, u.oneCell' = true) (hn : n * 8 ≤ 140737488355328) : Calls Try.prog 50 #[v] w (ClQ w 80 1 n l) := by
  obtain ⟨i0, hi, hz0, hz1, hz2⟩ := infoP_ex
  have q22 : ∀ (w : World) (a : Option Addr) (n c n' c' : Nat), (binOp .eql 81 (.slice a n c) (.slice none n' c')).run Try.prog w = .ok (.bool a.isNone) w := fun w a n c n' c' => Go.Lib.run_eql_slice_nil w _ _ a n c n' c' Try.underlying81
  cases h with
  | nil c =>
    go_enter Try.func50, Try.ntmps50
    go_wp2_with fail
    go_ret
    exact ⟨⟨_, rfl, World.ownsRow_nil _ _ _ _⟩, Below.refl _ _⟩
  | non a c =>
    have hr : (w.alloc (.cells #[] 80)).ownsRow w.heap.size 80 1 (.slice (some ⟨w.heap.size, 0, none⟩) 0 0) 0 [] := World.ownsRow_made w #[] 0 (Nat.le_refl _) (by simp [maxLen]) (by simp)
    go_enter Try.func50, Try.ntmps50
    go_wp2_with (at_builtin; refine wpList_append_own _ rfl _ _ 81 rfl w.heap.size 80 i0 (.pointer none) 1 8 Try.underlying81 hi hz0 hz1 hz2 rfl (by decide) _ _ _ rfl hr a 0 c [] rfl rfl (by simp) (by simp) (by simp [maxLen]) (by simp) (by simp) ?_; intro v' w1 hown' hgrow _)
    go_ret
    exact ⟨⟨_, rfl, by simpa using hown'⟩, ((Below.refl _ w).alloc (Nat.le_refl _) _).grown hgrow (by simp) own_ge⟩
  | row b o n c l hc =>
    have hr : (w.alloc (.cells #[] 80)).ownsRow w.heap.size 80 1 (.slice (some ⟨w.heap.size, 0, none⟩) 0 0) 0 [] := World.ownsRow_made w #[] 0 (Nat.le_refl _) (by simp [maxLen]) (by simp)
    have hc2 : ∀ j u, l[j]? = some u → (w.alloc (.cells #[] 80)).cell? ((⟨b, o, none⟩ : Addr).add j) = some u := fun j u hj => by
      rw [Addr.add_lit]; exact kept_cell (below_alloc w _) (hc j u hj)
    go_enter Try.func50, Try.ntmps50
    go_wp2_with (at_builtin; refine wpList_append_own _ rfl _ _ 81 rfl w.heap.size 80 i0 (.pointer none) 1 8 Try.underlying81 hi hz0 hz1 hz2 rfl (by decide) _ _ _ rfl hr ⟨b, o, none⟩ n c l rfl hl hc2 h1 (by simp [maxLen]; omega) (by omega) (by simp) ?_; intro v' w1 hown' hgrow _)
    go_ret
    exact ⟨⟨_, rfl, by simpa using hown'⟩, ((Below.refl _ w).alloc (Nat.le_refl _) _).grown hgrow (by simp) own_ge⟩
end Go.Proofs.Ytdofhlmffponoaa

/-
  types.walk over pointers to types: slices.Reverse of one, slices.Backward, walk.
-/
namespace Go.Proofs.Ytdofhlmffponoaa
open Go.RowKit
attribute [local go_sem] Oper.semAt_some
set_option maxRecDepth 100000 in
set_option maxHeartbeats 2000000 in
theorem revP (a : Option Addr) (c : Nat) (w : World) : Calls Try.prog 51 #[.slice a 1 c] w fun e w' => (∃ v, e = .returned v) ∧ w' = w := by
  refine (callsIn_wide (n := 3)).1 ?_
  refine callsIn_of_wp Try.func51 rfl trivial ?_ rfl
  simp only [Try.ntmps51, List.size_toArray, List.length_cons, List.length_nil, Nat.reduceAdd, Nat.reduceSub, Array.replicate_succ, Array.replicate_zero, List.push_toArray, List.append_toArray, List.nil_append, List.cons_append]
  gi_wp2
  refine wpIn_loop_rounds 1 ?_
  rw [roundsIn_succ]
  gi_wp2
  go_end0
  exact ⟨⟨_, rfl⟩, rfl⟩
/-- a pointer that is not nil -/
abbrev pv (x : Addr) : Value := .pointer (some x)
/-- what the loop's rounds keep: two blocks -/
structure Kb (Bs b : Nat) (W W' : World) : Prop where
  s : W'.heap[Bs]? = W.heap[Bs]?
  r : W'.heap[b]? = W.heap[b]?
theorem Kb.trans {Bs b : Nat} {A B C : World} (h : Kb Bs b A B) (k : Kb Bs b B C) : Kb Bs b A C := ⟨k.s.trans h.s, k.r.trans h.r⟩
theorem Kb.refl (Bs b : Nat) (A : World) : Kb Bs b A A := ⟨rfl, rfl⟩
set_option maxRecDepth 100000 in
set_option maxHeartbeats 2000000 in
/-- slices.Backward's closure at a slice that is not empty -/
theorem bwdP1 (m l Bs b off cap : Nat) (xs : List Addr) (hreach : xs.length ≤ 1000000000) (J Jx : List (Nat × Addr) → World → Prop)
    (hY : ∀ pre x W, J pre W → pre.length < xs.length → YieldAt Fence.wide (m - 1) Try.prog l #[.int .i64 (x.1 : Nat), pv x.2] W fun e W' =>
      (e = .returned (.bool true) ∧ J (pre ++ [x]) W' ∧ Kb Bs b W W') ∨ (e = .returned (.bool false) ∧ Jx (pre ++ [x]) W'))
    (W : World) (hBs : W.cell? ⟨Bs, 0, none⟩ = some (.slice (some ⟨b, off, none⟩) xs.length cap)) (hc : ∀ j x, xs[j]? = some x → W.cell? ⟨b, off + j, none⟩ = some (pv x)) (h0 : J [] W) :
    CallsIn Fence.wide m Try.prog 71 #[.func (.yield l) #[] #[], .pointer (some ⟨Bs, 0, none⟩)] W fun e W' => (∃ v, e = .returned v) ∧
      ((∃ ys, ys.map Prod.snd = xs.reverse ∧ J ys W') ∨ (∃ pre, True ∧ Jx pre W')) := by
  refine callsIn_of_wp Try.func71 rfl trivial ?_ rfl
  simp only [Try.ntmps71, List.size_toArray, List.length_cons, List.length_nil, Nat.reduceAdd, Nat.reduceSub, Array.replicate_succ, Array.replicate_zero, List.push_toArray, List.append_toArray, List.nil_append, List.cons_append]
  have hwp : wrap64 ((xs.length : Int) - 1) = (xs.length : Int) - 1 := by unfold wrap64; omega
  gi_wp2
  gi_loopw [3] (fun i wr => ∃ (k : Nat) (pre : List (Nat × Addr)), k ≤ xs.length ∧ i = .int .i64 ((xs.length : Int) - 1 - (k : Int)) ∧ pre.length = k ∧ pre.map Prod.snd = xs.reverse.take k ∧ J pre wr ∧ Kb Bs b W wr)
    (fun i _ => (intOf i + 1).toNat)
  case atStart => exact ⟨0, [], Nat.zero_le _, by simp, rfl, by simp, h0, Kb.refl _ _ _⟩
  case round =>
    obtain ⟨k, pre, hk, rfl, hpl, hpm, hJs, hnx⟩ := hrel
    have hBs' : wr.cell? ⟨Bs, 0, none⟩ = some (.slice (some ⟨b, off, none⟩) xs.length cap) := (World.cell?_of_block hnx.s).trans hBs
    clear hwp
    by_cases hlt : k < xs.length
    · obtain ⟨i, hi⟩ : ∃ i, xs.length = i + k + 1 := ⟨xs.length - 1 - k, by omega⟩
      have hix : (xs.length : Int) - 1 - (k : Int) = (i : Int) := by omega
      obtain ⟨x, hx⟩ : ∃ x, xs[i]? = some x := ⟨xs[i], List.getElem?_eq_getElem (by omega)⟩
      have hcx : wr.cell? ⟨b, off + i, none⟩ = some (pv x) := (World.cell?_of_block hnx.r).trans (hc i x hx)
      obtain ⟨fn, tmps, assign, body, hy, hR⟩ := hY pre (i, x) wr hJs (by omega)
      have h1 : (i : Int) < (xs.length : Int) := by omega
      have h2 : 0 ≤ (i : Int) := by omega
      have h3 : i < xs.length := by omega
      have hw1 : wrap64 ((i : Int) - 1) = (i : Int) - 1 := by unfold wrap64; omega
      have HPM : Hid (pre.map Prod.snd = xs.reverse.take k) := hpm
      have HPL : Hid (pre.length = k) := hpl
      have HNX : Hid (Kb Bs b W wr) := hnx
      have HX : Hid (xs[i]? = some x) := hx
      have HI : Hid (xs.length = i + k + 1) := hi
      have HC : Hid (∀ j x, xs[j]? = some x → W.cell? ⟨b, off + j, none⟩ = some (pv x)) := hc
      have HB0 : Hid (W.cell? ⟨Bs, 0, none⟩ = some (.slice (some ⟨b, off, none⟩) xs.length cap)) := hBs
      rw [hix]
      clear hpm hpl hnx hx hc hBs hi
      gi_wp2
      refine ⟨fun h => by simp [Fence.wide] at h, ?_⟩
      refine hR.mono ?_
      rintro e W3 (⟨rfl, hJ3, hk3⟩ | ⟨rfl, hJx3⟩)
      · gi_wp2
        go_roundw
        case rel =>
          refine ⟨k + 1, pre ++ [(i, x)], by omega, ?_, by simp [HPL.out], ?_, hJ3, HNX.out.trans hk3⟩
          · have := HI.out
            first | omega | (congr 1; omega) | (simp; omega)
          · rw [List.map_append, HPM.out, List.take_add_one]
            congr 1
            have := HI.out
            rw [List.getElem?_reverse (by omega), show xs.length - 1 - k = i by omega, HX.out]
            simp
        case measure => simp [intOf]
      · gi_wp2
        refine bodyPost_ret (results_none rfl _ _ _) rfl ?_
        exact ⟨⟨_, rfl⟩, .inr ⟨_, trivial, hJx3⟩⟩
    · obtain rfl : k = xs.length := by omega
      have hix : (xs.length : Int) - 1 - (xs.length : Int) = -1 := by omega
      rw [hix]
      have HPM : Hid (pre.map Prod.snd = xs.reverse.take xs.length) := hpm
      clear hpm hpl
      gi_wp2
      go_end0
      exact ⟨⟨_, rfl⟩, .inl ⟨pre, by rw [HPM.out, List.take_of_length_le (by simp)], hJs⟩⟩
set_option maxRecDepth 100000 in
set_option maxHeartbeats 2000000 in
theorem bwdP0 (m l Bs : Nat) (a : Option Addr) (cap : Nat) (J : List (Nat × Addr) → World → Prop) (W : World) (hBs : W.cell? ⟨Bs, 0, none⟩ = some (.slice a 0 cap)) (h0 : J [] W) :
    CallsIn Fence.wide m Try.prog 71 #[.func (.yield l) #[] #[], .pointer (some ⟨Bs, 0, none⟩)] W fun e W' => (∃ v, e = .returned v) ∧ J [] W' := by
  refine callsIn_of_wp Try.func71 rfl trivial ?_ rfl
  simp only [Try.ntmps71, List.size_toArray, List.length_cons, List.length_nil, Nat.reduceAdd, Nat.reduceSub, Array.replicate_succ, Array.replicate_zero, List.push_toArray, List.append_toArray, List.nil_append, List.cons_append]
  gi_wp2
  refine wpIn_loop_rounds 1 ?_
  rw [roundsIn_succ]
  gi_wp2
  go_end0
  exact ⟨⟨_, rfl⟩, h0⟩
theorem mkf : ∀ (fn : Fn) (first cap : Array Value) (w : World), (Instr.makeFunc fn first cap).run Try.prog w = .ok (.func fn first cap) w := fun _ _ _ _ => rfl
set_option maxHeartbeats 1000000 in
/-- slices.Backward: the slice is boxed -/
theorem bwdP (a : Option Addr) (len cap : Nat) (w : World) :
    Calls Try.prog 52 #[.slice a len cap] w fun e w' => e = .returned (.func (.func 71) #[] #[.pointer (some ⟨w.heap.size, 0, none⟩)]) ∧ w' = w.alloc (.cells #[.slice a len cap] 81) := by
  have hmf := mkf
  go_enter Try.func52, Try.ntmps52
  go_wp2
  go_ret
  exact ⟨rfl, rfl⟩
/-- a slice of pointers to types -/
abbrev PtV := RowV pv
/-- what Backward tells -/
theorem bwdP_stops (m Bs b : Nat) (sv : Value) (xs : List Addr) (hreach : xs.length ≤ 1000000000) (w : World) (hBs : Bs < w.heap.size) (hc : w.cell? ⟨Bs, 0, none⟩ = some sv) (hI : PtV (fun c => c = b) w sv xs) :
    SeqStopsK Fence.wide m Try.prog 71 #[.pointer (some ⟨Bs, 0, none⟩)] (fun x : Nat × Addr => #[Value.int .i64 (x.1 : Nat), pv x.2]) (Kb Bs b) (fun ys => ys.map Prod.snd = xs.reverse) (fun _ => True) xs.length w := fun l J Jx W hW _ _ hY h0 => by
  have hc' := (hW.cell (p := ⟨Bs, 0, none⟩) hBs).trans hc
  rcases hI with ⟨a, c, rfl, rfl⟩ | ⟨b', o, c, rfl, hlen, hb1, rfl, hcs⟩
  · exact (bwdP0 m l Bs a c J W hc' h0).mono fun e W' ⟨he, hj⟩ => ⟨he, .inl ⟨_, rfl, hj⟩⟩
  · exact bwdP1 m l Bs b' o c xs hreach J Jx hY W hc' (fun j x hx => (hW.cell (p := ⟨b', o + j, none⟩) hb1).trans (hcs j x hx)) h0
end Go.Proofs.Ytdofhlmffponoaa

