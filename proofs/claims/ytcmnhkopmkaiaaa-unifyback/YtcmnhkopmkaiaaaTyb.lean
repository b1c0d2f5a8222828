/-
  Types in plain Lean, and in memory.
-/
import Derived.Test.YtcmnhkopmkaiaaaRows
import Derived.WalkKit
import Derived.WalkSpells
import Derived.WalkLawsBesides
import Derived.Below
import Derived.Deep.AppendLies
import Derived.Laws.OwnMore
import Derived.Deep.OwnRows
import Derived.Deep.LoopGhost
import Derived.Deep.DrawnRows
import Derived.Deep.QuietTactic
import Derived.BigQuiet
import Derived.Deep.RegionHeld3
import Derived.Deep.RegionWith
import Derived.Laws.IdiomStrings
import Derived.Lib.Bytealg
import Derived.Lib.OwnBridge
import Derived.Lib.IndexMore
import Derived.RowKit
import Derived.Laws.Cover1
import Derived.Laws.AppendOwnNone
namespace Go.Proofs.Ytcmnhkopmkaiaaa
open Go.RowKit
theorem nat_beq {a b : Nat} (h : a = b) : ((a : Int) == (b : Int)) = true := by subst h; simp
theorem nat_bne {a b : Nat} (h : a ≠ b) : ((a : Int) == (b : Int)) = false := by
  rw [Bool.eq_false_iff]; intro h2; exact h (by have := eq_of_beq h2; omega)
theorem int_beq {a b : Int} (h : a = b) : (a == b) = true := by subst h; simp
theorem int_bne {a b : Int} (h : a ≠ b) : (a == b) = false := by simpa using h
/-- all blocks but those of X lie as they lay -/
structure Kx (X : Nat → Prop) (A B : World) : Prop where
  os : B.os = A.os
  tape : B.tape = A.tape
  output : B.output = A.output
  size : A.heap.size ≤ B.heap.size
  keep : ∀ b o, A.heap[b]? = some o → ¬ X b → B.heap[b]? = some o
theorem Kx.refl (X : Nat → Prop) (A : World) : Kx X A A := ⟨rfl, rfl, rfl, Nat.le_refl _, fun _ _ h _ => h⟩
theorem Kx.trans {X : Nat → Prop} {A B C : World} (h : Kx X A B) (k : Kx X B C) : Kx X A C :=
  ⟨k.os.trans h.os, k.tape.trans h.tape, k.output.trans h.output, Nat.le_trans h.size k.size, fun b o h1 h2 => k.keep b o (h.keep b o h1 h2) h2⟩
theorem Kx.andThen {X Y Z : Nat → Prop} {A B C : World} (h : Kx X A B) (k : Kx Y B C) (hx : ∀ b, b < A.heap.size → X b → Z b) (hy : ∀ b, b < A.heap.size → Y b → Z b) : Kx Z A C :=
  ⟨k.os.trans h.os, k.tape.trans h.tape, k.output.trans h.output, Nat.le_trans h.size k.size, fun b o h1 h2 => by
    have hb := (Array.getElem?_eq_some_iff.1 h1).1
    exact k.keep b o (h.keep b o h1 (fun hb' => h2 (hx b hb hb'))) (fun hb' => h2 (hy b hb hb'))⟩
theorem Kx.drew {X : Nat → Prop} {A B : World} (h : Kx X A B) : Kx X A B.drew := ⟨h.os, h.tape, h.output, h.size, h.keep⟩
theorem Kx.cell {X : Nat → Prop} {A B : World} (h : Kx X A B) {a : Addr} {v : Value} (hc : A.cell? a = some v) (hx : ¬ X a.block) : B.cell? a = some v := by
  unfold World.cell? at hc ⊢
  cases ho : A.heap[a.block]? with
  | none => rw [ho] at hc; cases hc
  | some o => rw [h.keep _ _ ho hx]; rw [ho] at hc; exact hc
theorem Kx.of_whole {X : Nat → Prop} {A B : World} (h : Below A.heap.size A B) : Kx X A B :=
  ⟨h.os, h.tape, h.output, h.size, fun b _ h1 _ => (h.block b (Array.getElem?_eq_some_iff.1 h1).1).trans h1⟩
theorem Kx.below {X : Nat → Prop} {A B : World} {n : Nat} (h : Kx X A B) (hn : n ≤ A.heap.size) (hx : ∀ b, b < n → ¬ X b) : Below n A B :=
  ⟨h.os, h.tape, h.output, h.size, fun b hb => by rw [h.keep b A.heap[b] (by simp [show b < A.heap.size by omega]) (hx b hb)]; simp [show b < A.heap.size by omega]⟩
theorem kept_cell {W W' : World} (h : Below W.heap.size W W') {a : Addr} {v : Value} (hc : W.cell? a = some v) : W'.cell? a = some v :=
  (h.cell (World.block_lt_of_cell? _ _ hc)).trans hc
theorem blk_kept {W W' : World} (h : Below W.heap.size W W') {b : Nat} {o : Obj} (hb : W.heap[b]? = some o) : W'.heap[b]? = some o :=
  (h.block b (Array.getElem?_eq_some_iff.1 hb).1).trans hb
theorem below_alloc (w : World) (o : Obj) : Below w.heap.size w (w.alloc o) := (Below.refl _ w).alloc (Nat.le_refl _) _
theorem below_drew1 (w : World) : Below w.heap.size w w.drew := ⟨rfl, rfl, rfl, Nat.le_refl _, fun _ _ => rfl⟩
theorem below_dn (w : World) (n : Nat) : Below w.heap.size w (w.drewN n) := ⟨rfl, rfl, rfl, Nat.le_refl _, fun _ _ => rfl⟩
theorem bthen {A B C : World} (h : Below A.heap.size A B) (k : Below B.heap.size B C) : Below A.heap.size A C := h.trans (k.mono h.size)
theorem heap_new (w : World) (o : Obj) : (w.alloc o).heap[w.heap.size]? = some o := by show (w.heap.push _)[w.heap.size]? = _; simp
theorem cell_of {w : World} {k : Nat} {cs : Array Value} {T : TypeId} {fz : Nat × Nat} (h : w.heap[k]? = some (.cells cs T fz)) (i : Nat) : w.cell? ⟨k, i, none⟩ = cs[i]? := by simp [World.cell?, h]
theorem grownBy_kx {W W' : World} {row : Option Nat} (h : W.grownBy W' row) : Kx (fun b => row = some b) W W' :=
  ⟨h.os, h.tape, h.output, h.size, fun b _ h1 h2 => (h.block b (Array.getElem?_eq_some_iff.1 h1).1 (fun e => h2 e.symm)).trans h1⟩
/-- a type -/
inductive Ty where
  | mk (kind : Int) (name : ByteArray) (n : Int) (flag : Bool) (names : List ByteArray) (marks : List Bool) (kids : List Ty)
namespace Ty
def kind : Ty → Int | mk k _ _ _ _ _ _ => k
def name : Ty → ByteArray | mk _ x _ _ _ _ _ => x
def n : Ty → Int | mk _ _ x _ _ _ _ => x
def flag : Ty → Bool | mk _ _ _ x _ _ _ => x
def names : Ty → List ByteArray | mk _ _ _ _ x _ _ => x
def marks : Ty → List Bool | mk _ _ _ _ _ x _ => x
def kids : Ty → List Ty | mk _ _ _ _ _ _ x => x
end Ty
theorem Ty.ind {P : Ty → Prop} (h : ∀ k nm n f ns ms ks, (∀ x ∈ ks, P x) → P (.mk k nm n f ns ms ks)) : ∀ t, P t := fun t =>
  Ty.rec (motive_1 := P) (motive_2 := fun l => ∀ x ∈ l, P x) (fun k nm n f ns ms ks ih => h k nm n f ns ms ks ih) (fun _ hx => by cases hx)
    (fun x r hx hr y hy => by rcases List.mem_cons.1 hy with rfl | hy; exact hx; exact hr y hy) t
/-- what is asked of a block -/
abbrev BQ := Nat → Prop
/-- a slice of plain values: one cell each -/
def RowV {α : Type} (f : α → Value) (B : BQ) (W : World) (v : Value) (l : List α) : Prop :=
  (∃ a c, v = .slice a 0 c ∧ l = []) ∨ ∃ b o c, v = .slice (some ⟨b, o, none⟩) l.length c ∧ (l.length : Int) ≤ 9223372036854775807 ∧ b < W.heap.size ∧ B b ∧ ∀ i x, l[i]? = some x → W.cell? ⟨b, o + i, none⟩ = some (f x)
abbrev StrV := RowV Value.string
abbrev BooV := RowV Value.bool
theorem RowV.to {α : Type} {f : α → Value} {B B' : BQ} {X : Nat → Prop} {W W' : World} {v : Value} {l : List α} (h : RowV f B W v l) (hk : Kx X W W') (hB : ∀ b, b < W.heap.size → B b → B' b) (hX : ∀ b, b < W.heap.size → B b → ¬ X b) : RowV f B' W' v l := by
  rcases h with h | ⟨b, o, c, e, hl, hb, h1, h2⟩
  · exact .inl h
  · exact .inr ⟨b, o, c, e, hl, Nat.lt_of_lt_of_le hb hk.size, hB b hb h1, fun i x hx => hk.cell (h2 i x hx) (hX b hb h1)⟩
theorem RowV.slice {α : Type} {f : α → Value} {B : BQ} {W : World} {v : Value} {l : List α} (h : RowV f B W v l) : ∃ a c, v = .slice a l.length c ∧ (l.length : Int) ≤ 9223372036854775807 := by
  rcases h with ⟨a, c, rfl, rfl⟩ | ⟨b, o, c, rfl, hl, _⟩
  · exact ⟨a, c, rfl, by simp⟩
  · exact ⟨_, c, rfl, hl⟩
theorem RowV.get {α : Type} {f : α → Value} {B : BQ} {W : World} {a : Option Addr} {n c : Nat} {l : List α} (h : RowV f B W (.slice a n c) l) {i : Nat} (hi : i < l.length) : ∃ b o, a = some ⟨b, o, none⟩ ∧ W.cell? ⟨b, o + i, none⟩ = some (f l[i]) := by
  rcases h with ⟨_, _, _, rfl⟩ | ⟨b, o, c', e, hl, _, h1, h2⟩
  · cases hi
  · obtain ⟨rfl, _, _⟩ : a = some ⟨b, o, none⟩ ∧ n = l.length ∧ c = c' := by simpa using e
    exact ⟨b, o, rfl, h2 i _ (List.getElem?_eq_getElem hi)⟩
mutual
/-- the type lies at block b from cell o on; all its slices in blocks of B -/
def Ty.lies (B : BQ) (W : World) : Ty → Nat → Nat → Prop
  | .mk k nm n f ns ms ks, b, o => W.cell? ⟨b, o, none⟩ = some (.int .i64 k) ∧ W.cell? ⟨b, o + 1, none⟩ = some (.string nm) ∧ W.cell? ⟨b, o + 2, none⟩ = some (.int .i64 n) ∧ W.cell? ⟨b, o + 3, none⟩ = some (.bool f) ∧
      (∃ v, W.cell? ⟨b, o + 4, none⟩ = some v ∧ StrV B W v ns) ∧ (∃ v, W.cell? ⟨b, o + 5, none⟩ = some v ∧ BooV B W v ms) ∧
      ∃ v, W.cell? ⟨b, o + 6, none⟩ = some v ∧ ((∃ a c, v = .slice a 0 c ∧ ks = []) ∨ ∃ b' o' c, v = .slice (some ⟨b', o', none⟩) ks.length c ∧ (ks.length : Int) ≤ 9223372036854775807 ∧ b' < W.heap.size ∧ B b' ∧ liesT B W ks b' o')
def liesT (B : BQ) (W : World) : List Ty → Nat → Nat → Prop
  | [], _, _ => True
  | x :: r, b, o => x.lies B W b o ∧ liesT B W r b (o + 7)
end
/-- a slice of types reads as these -/
def SlT (B : BQ) (W : World) (v : Value) (ks : List Ty) : Prop :=
  (∃ a c, v = .slice a 0 c ∧ ks = []) ∨ ∃ b o c, v = .slice (some ⟨b, o, none⟩) ks.length c ∧ (ks.length : Int) ≤ 9223372036854775807 ∧ b < W.heap.size ∧ B b ∧ liesT B W ks b o
/-- the parts of a type that stand in slices -/
structure Prt (B : BQ) (W : World) (t : Ty) (vn vm vk : Value) : Prop where
  ns : StrV B W vn t.names
  ms : BooV B W vm t.marks
  ks : SlT B W vk t.kids
/-- a type as a value -/
def agT (t : Ty) (vn vm vk : Value) : Value := .agg #[.int .i64 t.kind, .string t.name, .int .i64 t.n, .bool t.flag, vn, vm, vk]
theorem lies_iff {B : BQ} {W : World} {t : Ty} {b o : Nat} : t.lies B W b o ↔ W.cell? ⟨b, o, none⟩ = some (.int .i64 t.kind) ∧ W.cell? ⟨b, o + 1, none⟩ = some (.string t.name) ∧ W.cell? ⟨b, o + 2, none⟩ = some (.int .i64 t.n) ∧ W.cell? ⟨b, o + 3, none⟩ = some (.bool t.flag) ∧
    ∃ vn vm vk, W.cell? ⟨b, o + 4, none⟩ = some vn ∧ W.cell? ⟨b, o + 5, none⟩ = some vm ∧ W.cell? ⟨b, o + 6, none⟩ = some vk ∧ Prt B W t vn vm vk := by
  cases t
  simp only [Ty.lies, Ty.kind, Ty.name, Ty.n, Ty.flag]
  constructor
  · rintro ⟨h0, h1, h2, h3, ⟨v4, h4, g4⟩, ⟨v5, h5, g5⟩, v6, h6, g6⟩
    exact ⟨h0, h1, h2, h3, v4, v5, v6, h4, h5, h6, g4, g5, g6⟩
  · rintro ⟨h0, h1, h2, h3, v4, v5, v6, h4, h5, h6, g⟩
    exact ⟨h0, h1, h2, h3, ⟨v4, h4, g.ns⟩, ⟨v5, h5, g.ms⟩, v6, h6, g.ks⟩
theorem liesT_nil {B : BQ} {W : World} {b o : Nat} : liesT B W [] b o := by simp [liesT]
theorem liesT_cons {B : BQ} {W : World} {x : Ty} {r : List Ty} {b o : Nat} : liesT B W (x :: r) b o ↔ x.lies B W b o ∧ liesT B W r b (o + 7) := by simp [liesT]
theorem liesT_get {B : BQ} {W : World} {l : List Ty} {b o : Nat} (h : liesT B W l b o) (i : Nat) (hi : i < l.length) : (l[i]).lies B W b (o + i * 7) := by
  induction l generalizing o i with
  | nil => cases hi
  | cons x r ih =>
    obtain ⟨h1, h2⟩ := liesT_cons.1 h
    cases i with
    | zero => simpa using h1
    | succ i => have := ih h2 i (by simpa using hi); simp only [List.getElem_cons_succ]; rwa [show o + (i + 1) * 7 = o + 7 + i * 7 by omega]
theorem liesT_of {B : BQ} {W : World} {l : List Ty} {b o : Nat} (h : ∀ i (hi : i < l.length), (l[i]).lies B W b (o + i * 7)) : liesT B W l b o := by
  induction l generalizing o with
  | nil => exact liesT_nil
  | cons x r ih =>
    have h0 := h 0 (by simp)
    rw [Nat.zero_mul, Nat.add_zero] at h0
    refine liesT_cons.2 ⟨h0, ih fun i hi => ?_⟩
    have := h (i + 1) (by simpa using hi)
    simp only [List.getElem_cons_succ] at this
    rwa [show o + (i + 1) * 7 = o + 7 + i * 7 by omega] at this
/-- what is kept reads on as it read -/
theorem lies_to {B B' : BQ} {X : Nat → Prop} {W W' : World} (hk : Kx X W W') (hB : ∀ b, b < W.heap.size → B b → B' b) (hX : ∀ b, b < W.heap.size → B b → ¬ X b) : ∀ t : Ty, ∀ b o, ¬ X b → t.lies B W b o → t.lies B' W' b o :=
  Ty.ind fun k nm n f ns ms ks ih b o hb h => by
    obtain ⟨h0, h1, h2, h3, v4, v5, v6, h4, h5, h6, g⟩ := lies_iff.1 h
    refine lies_iff.2 ⟨hk.cell h0 hb, hk.cell h1 hb, hk.cell h2 hb, hk.cell h3 hb, v4, v5, v6, hk.cell h4 hb, hk.cell h5 hb, hk.cell h6 hb, g.ns.to hk hB hX, g.ms.to hk hB hX, ?_⟩
    rcases g.ks with g | ⟨b', o', c, e, hl, hb1, hb', hL⟩
    · exact .inl g
    · exact .inr ⟨b', o', c, e, hl, Nat.lt_of_lt_of_le hb1 hk.size, hB _ hb1 hb', liesT_of fun i hi => ih _ (List.getElem_mem _) b' _ (hX _ hb1 hb') (liesT_get hL i hi)⟩
theorem SlT.to {B B' : BQ} {X : Nat → Prop} {W W' : World} {v : Value} {l : List Ty} (h : SlT B W v l) (hk : Kx X W W') (hB : ∀ b, b < W.heap.size → B b → B' b) (hX : ∀ b, b < W.heap.size → B b → ¬ X b) : SlT B' W' v l := by
  rcases h with g | ⟨b', o', c, e, hl, hb1, hb', hL⟩
  · exact .inl g
  · exact .inr ⟨b', o', c, e, hl, Nat.lt_of_lt_of_le hb1 hk.size, hB _ hb1 hb', liesT_of fun i hi => lies_to hk hB hX _ b' _ (hX _ hb1 hb') (liesT_get hL i hi)⟩
theorem Prt.to {B B' : BQ} {X : Nat → Prop} {W W' : World} {t : Ty} {vn vm vk : Value} (h : Prt B W t vn vm vk) (hk : Kx X W W') (hB : ∀ b, b < W.heap.size → B b → B' b) (hX : ∀ b, b < W.heap.size → B b → ¬ X b) : Prt B' W' t vn vm vk :=
  ⟨h.ns.to hk hB hX, h.ms.to hk hB hX, h.ks.to hk hB hX⟩
theorem Prt.kept {B : BQ} {W W' : World} {t : Ty} {vn vm vk : Value} (h : Prt B W t vn vm vk) (hk : Below W.heap.size W W') : Prt B W' t vn vm vk :=
  h.to (X := fun _ => False) (Kx.of_whole hk) (fun _ _ h => h) (fun _ _ _ h => h)
theorem SlT.kept {B : BQ} {W W' : World} {v : Value} {l : List Ty} (h : SlT B W v l) (hk : Below W.heap.size W W') : SlT B W' v l :=
  h.to (X := fun _ => False) (Kx.of_whole hk) (fun _ _ h => h) (fun _ _ _ h => h)
theorem RowV.kept {α : Type} {f : α → Value} {B : BQ} {W W' : World} {v : Value} {l : List α} (h : RowV f B W v l) (hk : Below W.heap.size W W') : RowV f B W' v l :=
  h.to (X := fun _ => False) (Kx.of_whole hk) (fun _ _ h => h) (fun _ _ _ h => h)
theorem SlT.with {B B' : BQ} {W : World} {v : Value} {l : List Ty} (h : SlT B W v l) (hB : ∀ b, b < W.heap.size → B b → B' b) : SlT B' W v l := h.to (X := fun _ => False) (Kx.refl _ _) hB (fun _ _ _ h => h)
theorem Prt.with {B B' : BQ} {W : World} {t : Ty} {vn vm vk : Value} (h : Prt B W t vn vm vk) (hB : ∀ b, b < W.heap.size → B b → B' b) : Prt B' W t vn vm vk := h.to (X := fun _ => False) (Kx.refl _ _) hB (fun _ _ _ h => h)
/-- the slice's parts -/
theorem SlT.open {B : BQ} {W : World} {v : Value} {l : List Ty} (h : SlT B W v l) :
    ∃ a c, v = .slice a l.length c ∧ (l.length : Int) ≤ 9223372036854775807 ∧ ∀ i (hi : i < l.length), ∃ b o, a = some ⟨b, o, none⟩ ∧ b < W.heap.size ∧ B b ∧ (l[i]).lies B W b (o + i * 7) := by
  rcases h with ⟨a, c, rfl, rfl⟩ | ⟨b, o, c, rfl, hl, hb1, hb, hL⟩
  · exact ⟨a, c, rfl, by simp, fun i hi => by cases hi⟩
  · exact ⟨_, c, rfl, hl, fun i hi => ⟨b, o, rfl, hb1, hb, liesT_get hL i hi⟩⟩
theorem SlT.slice {B : BQ} {W : World} {v : Value} {l : List Ty} (h : SlT B W v l) : ∃ a c, v = .slice a l.length c ∧ (l.length : Int) ≤ 9223372036854775807 := by
  obtain ⟨a, c, h, hl, _⟩ := h.open
  exact ⟨a, c, h, hl⟩
/-- the three slices in form -/
theorem Prt.form {B : BQ} {W : World} {t : Ty} {vn vm vk : Value} (h : Prt B W t vn vm vk) : ∃ an cn am cm ak ck, vn = .slice an t.names.length cn ∧ vm = .slice am t.marks.length cm ∧ vk = .slice ak t.kids.length ck := by
  obtain ⟨an, cn, e1, _⟩ := h.ns.slice
  obtain ⟨am, cm, e2, _⟩ := h.ms.slice
  obtain ⟨ak, ck, e3, _⟩ := h.ks.slice
  exact ⟨an, cn, am, cm, ak, ck, e1, e2, e3⟩
theorem bx7 {w : World} {B : Nat} {a b c d e f g : Value} {T : TypeId} (h : w.heap[B]? = some (.cells #[a, b, c, d, e, f, g] T (0, 0))) : w.cell? ⟨B, 0, none⟩ = some a ∧ w.cell? ⟨B, 1, none⟩ = some b ∧ w.cell? ⟨B, 2, none⟩ = some c ∧ w.cell? ⟨B, 3, none⟩ = some d ∧ w.cell? ⟨B, 4, none⟩ = some e ∧ w.cell? ⟨B, 5, none⟩ = some f ∧ w.cell? ⟨B, 6, none⟩ = some g := by
  simp [World.cell?, h]
end Go.Proofs.Ytcmnhkopmkaiaaa

