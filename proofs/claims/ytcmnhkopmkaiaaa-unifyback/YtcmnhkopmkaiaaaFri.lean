/-
  types.fresh: what stands between two steps, in plain words.
-/
import Derived.Test.YtcmnhkopmkaiaaaFrs
namespace Go.Proofs.Ytcmnhkopmkaiaaa
open Go.RowKit
mutual
/-- how many types -/
def Ty.cnt : Ty → Nat
  | .mk _ _ _ _ _ _ ks => cntL ks + 1
def cntL : List Ty → Nat
  | [] => 0
  | x :: r => x.cnt + cntL r
end
theorem Ty.cnt_eq (t : Ty) : t.cnt = cntL t.kids + 1 := by cases t; simp [Ty.cnt, Ty.kids]
theorem cntL_cons (x : Ty) (r : List Ty) : cntL (x :: r) = x.cnt + cntL r := by simp [cntL]
theorem cntL_append (a b : List Ty) : cntL (a ++ b) = cntL a + cntL b := by
  induction a with
  | nil => simp [cntL]
  | cons x r ih => simp [cntL, ih]; omega
theorem cntL_len (l : List Ty) : l.length ≤ cntL l := by
  induction l with
  | nil => simp
  | cons x r ih => have := x.cnt_eq; simp [cntL]; omega
theorem tszL_cnt (ks : List Ty) (ih : ∀ x ∈ ks, ∀ m, 0 ≤ m → x.tsz m ≤ m → (x.cnt : Int) ≤ x.tsz m) : ∀ m s, 1 ≤ s → tszL ks m s ≤ m → s + (cntL ks : Int) ≤ tszL ks m s := by
  induction ks with
  | nil => intro m s h1 h3; simp [tszL, cntL]
  | cons x r ih2 =>
    intro m s h1 h3
    simp only [tszL] at h3 ⊢
    by_cases hs : s ≤ m
    · rw [if_pos hs] at h3 ⊢
      have hx := tsz_le x (m - s) (by omega)
      have h4 := ih2 (fun y hy => ih y (by simp [hy])) m (s + x.tsz (m - s)) (by omega) h3
      have h5 := ih x (by simp) (m - s) (by omega) (by omega)
      rw [cntL_cons]; omega
    · rw [if_neg hs] at h3; omega
theorem tsz_cnt : ∀ t : Ty, ∀ m, 0 ≤ m → t.tsz m ≤ m → (t.cnt : Int) ≤ t.tsz m :=
  Ty.ind fun k nm n f ns ms ks ih m h0 h2 => by
    simp only [Ty.tsz] at h2 ⊢
    have := tszL_cnt ks ih m 1 (by omega) h2
    simp [Ty.cnt]; omega
/-- names and marks that can be copied -/
inductive Fit : Ty → Prop
  | mk (t : Ty) : t.names.length * 16 ≤ 140737488355328 → t.marks.length * 1 ≤ 140737488355328 → (∀ x ∈ t.kids, Fit x) → Fit t
theorem Fit.n {t : Ty} (h : Fit t) : t.names.length * 16 ≤ 140737488355328 := by cases h; assumption
theorem Fit.m {t : Ty} (h : Fit t) : t.marks.length * 1 ≤ 140737488355328 := by cases h; assumption
theorem Fit.k {t : Ty} (h : Fit t) : ∀ x ∈ t.kids, Fit x := by cases h; assumption
/-- a type that is still to be made anew: where it stands, and what it is -/
structure Pnd where
  b : Nat
  o : Nat
  t : Ty
def Pnd.a (p : Pnd) : Addr := ⟨p.b, p.o, none⟩
/-- the cells that its step will write -/
def Pnd.hit (p : Pnd) (a : Addr) : Prop := a.block = p.b ∧ a.spot = none ∧ (a.off = p.o + 4 ∨ a.off = p.o + 5 ∨ a.off = p.o + 6)
def Pnd.far (p q : Pnd) : Prop := p.b ≠ q.b ∨ p.o + 7 ≤ q.o ∨ q.o + 7 ≤ p.o
theorem Pnd.far.symm {p q : Pnd} (h : p.far q) : q.far p := by unfold Pnd.far at *; omega
theorem Pnd.far.not_hit {p q : Pnd} (h : p.far q) {i : Nat} (hi : i < 7) : ¬ q.hit ⟨p.b, p.o + i, none⟩ := fun ⟨h1, _, h3⟩ => by
  simp only at h1 h3
  unfold Pnd.far at h
  omega
theorem Pnd.not_hit {p : Pnd} {i : Nat} (hi : i < 4) : ¬ p.hit ⟨p.b, p.o + i, none⟩ := fun ⟨_, _, h3⟩ => by simp only at h3; omega
/-- what lies in blocks of X, but for what will be written, lies there still -/
def Ag (X : Nat → Prop) (ps : List Pnd) (W W' : World) : Prop := ∀ a v, X a.block → W.cell? a = some v → (∀ p ∈ ps, ¬ p.hit a) → W'.cell? a = some v
/-- if those that are to come will lie well, C will hold -/
def Wd (B : BQ) (C : World → Prop) (X : Nat → Prop) (ps : List Pnd) (W : World) : Prop :=
  ∀ W', Ag X ps W W' → W.heap.size ≤ W'.heap.size → (∀ p ∈ ps, p.t.lies B W' p.b p.o) → C W'
theorem Wd.stable {B : BQ} {C : World → Prop} {X : Nat → Prop} {ps : List Pnd} {W W' : World} (hw : Wd B C X ps W) (hk : Kx (fun b => ¬ X b) W W') : Wd B C X ps W' := by
  intro W2 hag hs hl
  refine hw W2 (fun a v ha hv hn => hag a v ha ?_ hn) (Nat.le_trans hk.size hs) hl
  exact hk.cell hv (fun h => h ha)
/-- a plain block -/
def NB (W : World) (b : Nat) : Prop := ∃ cs T, W.heap[b]? = some (.cells cs T (0, 0))
theorem NB.frozen {W : World} {b : Nat} (h : NB W b) (o : Nat) : W.frozen? ⟨b, o, none⟩ = false := by
  obtain ⟨cs, T, h⟩ := h
  simp [World.frozen?, h]
theorem NB.lt {W : World} {b : Nat} (h : NB W b) : b < W.heap.size := by obtain ⟨cs, T, h⟩ := h; exact (Array.getElem?_eq_some_iff.1 h).1
theorem NB.set {W : World} {b : Nat} (h : NB W b) (a : Addr) (v : Value) : NB (W.setCell a v) b := by
  obtain ⟨cs, T, h⟩ := h
  by_cases e : b = a.block
  · subst e
    obtain ⟨hlt, hk⟩ := Array.getElem?_eq_some_iff.1 h
    unfold NB World.setCell
    refine ⟨if a.spot.isSome = true then cs else cs.setIfInBounds a.off v, T, ?_⟩
    show (W.heap.modify a.block _)[a.block]? = _
    rw [Array.getElem?_eq_getElem (by rw [Array.size_modify]; exact hlt), Array.getElem_modify_self, hk]
  · exact ⟨cs, T, (Below.heap_setCell _ _ _ b e).trans h⟩
theorem NB.kept {W W' : World} {b : Nat} (h : NB W b) (hk : Below W.heap.size W W') : NB W' b := by
  obtain ⟨cs, T, h⟩ := h
  exact ⟨cs, T, blk_kept hk h⟩
theorem NB.kx {X : Nat → Prop} {W W' : World} {b : Nat} (h : NB W b) (hk : Kx X W W') (hb : ¬ X b) : NB W' b := by
  obtain ⟨cs, T, h⟩ := h
  exact ⟨cs, T, hk.keep _ _ h hb⟩
mutual
/-- the type lies at block b from cell o on, as a tree: its slices lie in blocks of lo to hi, no two in one -/
def Ty.tr (W : World) : Ty → Nat → Nat → Nat → Nat → Prop
  | .mk k nm n f ns ms ks, b, o, lo, hi => W.cell? ⟨b, o, none⟩ = some (.int .i64 k) ∧ W.cell? ⟨b, o + 1, none⟩ = some (.string nm) ∧ W.cell? ⟨b, o + 2, none⟩ = some (.int .i64 n) ∧ W.cell? ⟨b, o + 3, none⟩ = some (.bool f) ∧
      ∃ vn vm vk, W.cell? ⟨b, o + 4, none⟩ = some vn ∧ W.cell? ⟨b, o + 5, none⟩ = some vm ∧ W.cell? ⟨b, o + 6, none⟩ = some vk ∧ ∃ m, lo ≤ m ∧ StrV (fun b => lo ≤ b ∧ b < m ∧ vk.ownBlock ≠ some b) W vn ns ∧ BooV (fun b => lo ≤ b ∧ b < m ∧ vk.ownBlock ≠ some b) W vm ms ∧ ((∃ a c, vk = .slice a 0 c ∧ ks = [] ∧ m ≤ hi) ∨ ∃ kb c, vk = .slice (some ⟨kb, 0, none⟩) ks.length c ∧ (ks.length : Int) ≤ 9223372036854775807 ∧ lo ≤ kb ∧ kb < m ∧ NB W kb ∧ trL W ks kb 0 m hi)
def trL (W : World) : List Ty → Nat → Nat → Nat → Nat → Prop
  | [], _, _, lo, hi => lo ≤ hi
  | x :: r, b, o, lo, hi => ∃ m, x.tr W b o lo m ∧ trL W r b (o + 7) m hi
end
/-- the parts of a type that stand in slices, as a tree -/
def PrT (W : World) (t : Ty) (vn vm vk : Value) (lo hi : Nat) : Prop := ∃ m, lo ≤ m ∧ StrV (fun b => lo ≤ b ∧ b < m ∧ vk.ownBlock ≠ some b) W vn t.names ∧ BooV (fun b => lo ≤ b ∧ b < m ∧ vk.ownBlock ≠ some b) W vm t.marks ∧ ((∃ a c, vk = .slice a 0 c ∧ t.kids = [] ∧ m ≤ hi) ∨ ∃ kb c, vk = .slice (some ⟨kb, 0, none⟩) t.kids.length c ∧ (t.kids.length : Int) ≤ 9223372036854775807 ∧ lo ≤ kb ∧ kb < m ∧ NB W kb ∧ trL W t.kids kb 0 m hi)
theorem tr_iff {W : World} {t : Ty} {b o lo hi : Nat} : t.tr W b o lo hi ↔ (W.cell? ⟨b, o, none⟩ = some (.int .i64 t.kind) ∧ W.cell? ⟨b, o + 1, none⟩ = some (.string t.name) ∧ W.cell? ⟨b, o + 2, none⟩ = some (.int .i64 t.n) ∧ W.cell? ⟨b, o + 3, none⟩ = some (.bool t.flag)) ∧ ∃ vn vm vk, (W.cell? ⟨b, o + 4, none⟩ = some vn ∧ W.cell? ⟨b, o + 5, none⟩ = some vm ∧ W.cell? ⟨b, o + 6, none⟩ = some vk) ∧ PrT W t vn vm vk lo hi := by
  cases t
  simp only [Ty.tr, PrT, Ty.kind, Ty.name, Ty.n, Ty.flag, Ty.names, Ty.marks, Ty.kids]
  constructor
  · rintro ⟨h0, h1, h2, h3, vn, vm, vk, h4, h5, h6, h⟩
    exact ⟨⟨h0, h1, h2, h3⟩, vn, vm, vk, ⟨h4, h5, h6⟩, h⟩
  · rintro ⟨⟨h0, h1, h2, h3⟩, vn, vm, vk, ⟨h4, h5, h6⟩, h⟩
    exact ⟨h0, h1, h2, h3, vn, vm, vk, h4, h5, h6, h⟩
theorem trL_nil {W : World} {b o lo hi : Nat} : trL W [] b o lo hi ↔ lo ≤ hi := by simp [trL]
theorem trL_cons {W : World} {x : Ty} {r : List Ty} {b o lo hi : Nat} : trL W (x :: r) b o lo hi ↔ ∃ m, x.tr W b o lo m ∧ trL W r b (o + 7) m hi := by simp [trL]
theorem tr_le {W : World} : ∀ t : Ty, ∀ b o lo hi, t.tr W b o lo hi → lo ≤ hi :=
  Ty.ind fun k nm n f ns ms ks ih b o lo hi h => by
    obtain ⟨_, vn, vm, vk, _, m, h1, _, _, h2⟩ := tr_iff.1 h
    rcases h2 with ⟨_, _, _, _, h2⟩ | ⟨kb, c, _, _, _, _, _, hL⟩
    · omega
    · have : ∀ l : List Ty, (∀ x ∈ l, ∀ b o lo hi, x.tr W b o lo hi → lo ≤ hi) → ∀ b o lo hi, trL W l b o lo hi → lo ≤ hi := by
        intro l
        induction l with
        | nil => intro _ b o lo hi h; exact trL_nil.1 h
        | cons x r ih2 =>
          intro ih b o lo hi h
          obtain ⟨m, h1, h2⟩ := trL_cons.1 h
          exact Nat.le_trans (ih x (by simp) _ _ _ _ h1) (ih2 (fun y hy => ih y (by simp [hy])) _ _ _ _ h2)
      exact Nat.le_trans h1 (this ks ih _ _ _ _ hL)
theorem trL_le {W : World} : ∀ (l : List Ty) (b o lo hi : Nat), trL W l b o lo hi → lo ≤ hi
  | [], _, _, _, _, h => trL_nil.1 h
  | x :: r, b, o, lo, hi, h => by
    obtain ⟨m, h1, h2⟩ := trL_cons.1 h
    exact Nat.le_trans (tr_le x _ _ _ _ h1) (trL_le r _ _ _ _ h2)
theorem trL_hi {W : World} : ∀ (l : List Ty) (b o lo hi hi' : Nat), hi ≤ hi' → trL W l b o lo hi → trL W l b o lo hi'
  | [], _, _, _, _, _, hh, h => trL_nil.2 (Nat.le_trans (trL_nil.1 h) hh)
  | x :: r, b, o, lo, hi, hi', hh, h => by
    obtain ⟨m, h1, h2⟩ := trL_cons.1 h
    exact trL_cons.2 ⟨m, h1, trL_hi r _ _ _ _ _ hh h2⟩
theorem PrT.wide {W : World} {t : Ty} {vn vm vk : Value} {lo hi lo' hi' : Nat} (h : PrT W t vn vm vk lo hi) (h1 : lo' ≤ lo) (h2 : hi ≤ hi') : PrT W t vn vm vk lo' hi' := by
  obtain ⟨m, hm, a, b, c⟩ := h
  refine ⟨m, by omega, a.to (X := fun _ => False) (Kx.refl _ _) (fun b _ h => ⟨by omega, h.2⟩) (fun _ _ _ h => h), b.to (X := fun _ => False) (Kx.refl _ _) (fun b _ h => ⟨by omega, h.2⟩) (fun _ _ _ h => h), ?_⟩
  rcases c with ⟨a, c, e, k, h⟩ | ⟨kb, c, e, l, k1, k2, k3, k4⟩
  · exact .inl ⟨a, c, e, k, by omega⟩
  · exact .inr ⟨kb, c, e, l, by omega, k2, k3, trL_hi _ _ _ _ _ _ h2 k4⟩
theorem tr_wide {W : World} {t : Ty} {b o lo hi lo' hi' : Nat} (h : t.tr W b o lo hi) (h1 : lo' ≤ lo) (h2 : hi ≤ hi') : t.tr W b o lo' hi' := by
  obtain ⟨hc, vn, vm, vk, hv, hp⟩ := tr_iff.1 h
  exact tr_iff.2 ⟨hc, vn, vm, vk, hv, hp.wide h1 h2⟩
theorem PrT.of_kids {X : Nat → Prop} {W W' : World} (hk : Kx X W W') {t : Ty} {vn vm vk : Value} {lo hi : Nat} (hX : ∀ b, lo ≤ b → b < hi → ¬ X b) (hL : ∀ kb m, lo ≤ kb → kb < hi → lo ≤ m → trL W t.kids kb 0 m hi → trL W' t.kids kb 0 m hi) (h : PrT W t vn vm vk lo hi) : PrT W' t vn vm vk lo hi := by
  obtain ⟨m, hm, a, b, c⟩ := h
  have hmh : m ≤ hi := by
    rcases c with ⟨_, _, _, _, h⟩ | ⟨_, _, _, _, _, _, _, h⟩
    · exact h
    · exact trL_le _ _ _ _ _ h
  refine ⟨m, hm, a.to hk (fun _ _ h => h) (fun b _ h => hX b h.1 (Nat.lt_of_lt_of_le h.2.1 hmh)), b.to hk (fun _ _ h => h) (fun b _ h => hX b h.1 (Nat.lt_of_lt_of_le h.2.1 hmh)), ?_⟩
  rcases c with ⟨a, c, e, k, h⟩ | ⟨kb, c, e, l, k1, k2, k3, k4⟩
  · exact .inl ⟨a, c, e, k, h⟩
  · exact .inr ⟨kb, c, e, l, k1, k2, k3.kx hk (hX kb k1 (by omega)), hL kb m k1 (by omega) hm k4⟩
theorem trL_of {X : Nat → Prop} {W W' : World} : ∀ l : List Ty, (∀ x ∈ l, ∀ b o lo hi, ¬ X b → (∀ b, lo ≤ b → b < hi → ¬ X b) → x.tr W b o lo hi → x.tr W' b o lo hi) → ∀ b o lo hi, ¬ X b → (∀ b, lo ≤ b → b < hi → ¬ X b) → trL W l b o lo hi → trL W' l b o lo hi
  | [], _, _, _, _, _, _, _, h => trL_nil.2 (trL_nil.1 h)
  | x :: r, ih, b, o, lo, hi, hb, hX, h => by
    obtain ⟨m, h1, h2⟩ := trL_cons.1 h
    have l1 := tr_le _ _ _ _ _ h1
    have l2 := trL_le _ _ _ _ _ h2
    exact trL_cons.2 ⟨m, ih x (by simp) _ _ _ _ hb (fun b h3 h4 => hX b h3 (by omega)) h1, trL_of r (fun y hy => ih y (by simp [hy])) _ _ _ _ hb (fun b h3 h4 => hX b (by omega) h4) h2⟩
theorem tr_kx {X : Nat → Prop} {W W' : World} (hk : Kx X W W') : ∀ t : Ty, ∀ b o lo hi, ¬ X b → (∀ b, lo ≤ b → b < hi → ¬ X b) → t.tr W b o lo hi → t.tr W' b o lo hi :=
  Ty.ind fun k nm n f ns ms ks ih b o lo hi hb hX h => by
    obtain ⟨⟨h0, h1, h2, h3⟩, vn, vm, vk, ⟨h4, h5, h6⟩, hp⟩ := tr_iff.1 h
    exact tr_iff.2 ⟨⟨hk.cell h0 hb, hk.cell h1 hb, hk.cell h2 hb, hk.cell h3 hb⟩, vn, vm, vk, ⟨hk.cell h4 hb, hk.cell h5 hb, hk.cell h6 hb⟩, hp.of_kids hk hX (fun kb m h1 h9 h2 => trL_of _ ih _ _ _ _ (hX kb h1 h9) (fun b hb h4 => hX b (Nat.le_trans h2 hb) h4))⟩
theorem PrT.kx {X : Nat → Prop} {W W' : World} (hk : Kx X W W') {t : Ty} {vn vm vk : Value} {lo hi : Nat} (hX : ∀ b, lo ≤ b → b < hi → ¬ X b) (h : PrT W t vn vm vk lo hi) : PrT W' t vn vm vk lo hi :=
  h.of_kids hk hX (fun kb _ h1 h9 h2 => trL_of _ (fun x _ => tr_kx hk x) _ _ _ _ (hX kb h1 h9) (fun b hb h4 => hX b (Nat.le_trans h2 hb) h4))
/-- those that are to come lie as trees, one behind the other -/
def trP (W : World) : List Pnd → Nat → Nat → Prop
  | [], lo, hi => lo ≤ hi
  | p :: r, lo, hi => ∃ m, p.t.tr W p.b p.o lo m ∧ trP W r m hi
theorem trP_append {W : World} : ∀ {a b : List Pnd} {lo hi : Nat}, trP W (a ++ b) lo hi → ∃ m, trP W a lo m ∧ trP W b m hi
  | [], _, lo, _, h => ⟨lo, Nat.le_refl _, h⟩
  | p :: r, b, lo, hi, h => by
    obtain ⟨m, h1, h2⟩ := h
    obtain ⟨m2, h3, h4⟩ := trP_append (a := r) h2
    exact ⟨m2, ⟨m, h1, h3⟩, h4⟩
/-- if those that are to come will lie as trees, the root will -/
def TrW (N1 : Nat) (root : Ty) (T0 : Nat) (X : Nat → Prop) (ps : List Pnd) (W : World) : Prop :=
  ∀ W' lo hi, Ag X ps W W' → (∀ b, X b → NB W b → NB W' b) → W.heap.size ≤ W'.heap.size → W.heap.size ≤ lo → trP W' ps lo hi → root.tr W' T0 0 N1 hi
theorem TrW.stable {N1 : Nat} {root : Ty} {T0 : Nat} {X : Nat → Prop} {ps : List Pnd} {W W' : World} (hw : TrW N1 root T0 X ps W) (hk : Kx (fun b => ¬ X b) W W') : TrW N1 root T0 X ps W' := by
  intro W2 lo hi hag hnb hs hlo ht
  refine hw W2 lo hi (fun a v ha hv hn => hag a v ha ?_ hn) (fun b hb h => hnb b hb (h.kx hk (fun h => h hb))) (Nat.le_trans hk.size hs) (Nat.le_trans hk.size hlo) ht
  exact hk.cell hv (fun h => h ha)
/-- where one stands that is still to come: its cells are its own, what they name is old -/
structure PdI (N0 : Nat) (W : World) (p : Pnd) : Prop where
  n0 : N0 ≤ p.b
  nb : NB W p.b
  ex : ∃ vn vm vk, (W.cell? ⟨p.b, p.o, none⟩ = some (.int .i64 p.t.kind) ∧ W.cell? ⟨p.b, p.o + 1, none⟩ = some (.string p.t.name) ∧ W.cell? ⟨p.b, p.o + 2, none⟩ = some (.int .i64 p.t.n) ∧ W.cell? ⟨p.b, p.o + 3, none⟩ = some (.bool p.t.flag)) ∧
    (W.cell? ⟨p.b, p.o + 4, none⟩ = some vn ∧ W.cell? ⟨p.b, p.o + 5, none⟩ = some vm ∧ W.cell? ⟨p.b, p.o + 6, none⟩ = some vk) ∧ Prt (fun b => b < N0) W p.t vn vm vk
/-- a slice whose block is all its own -/
inductive OwnK (W : World) (n : Nat) : Value → Prop
  | nil (h : n = 0) : OwnK W n (.slice none 0 0)
  | row (kb cap : Nat) (cur : Array Value) (hc : n ≤ cap) (hm : cap ≤ maxLen) (hb : W.heap[kb]? = some (.cells cur 26 (0, 0))) (hs : cur.size = cap * 7) : OwnK W n (.slice (some ⟨kb, 0, none⟩) n cap)
theorem OwnK.of {W : World} {base n : Nat} {v : Value} {xs : List Value} (h : W.ownsRow base 26 7 v n xs) : OwnK W n v := by
  rcases h.2 with ⟨rfl, h0⟩ | ⟨g, cap, cur, rfl, _, h1, h2, h3, h4, _⟩
  · exact .nil h0
  · exact .row g cap cur h2 h3 h1 h4
theorem OwnK.kx {X : Nat → Prop} {W W' : World} {n : Nat} {v : Value} (h : OwnK W n v) (hk : Kx X W W') (hx : ∀ k, v.ownBlock = some k → ¬ X k) : OwnK W' n v := by
  cases h with
  | nil h => exact .nil h
  | row kb cap cur hc hm hb hs => exact .row kb cap cur hc hm (hk.keep _ _ hb (hx kb rfl)) hs
theorem OwnK.set {W : World} {n : Nat} {v : Value} (h : OwnK W n v) (a : Addr) (u : Value) : OwnK (W.setCell a u) n v := by
  cases h with
  | nil h => exact .nil h
  | row kb cap cur hc hm hb hs =>
    by_cases e : kb = a.block
    · subst e
      obtain ⟨hlt, hk⟩ := Array.getElem?_eq_some_iff.1 hb
      refine .row a.block cap (if a.spot.isSome = true then cur else cur.setIfInBounds a.off u) hc hm ?_ (by split <;> simp [hs])
      show (W.heap.modify a.block _)[a.block]? = _
      rw [Array.getElem?_eq_getElem (by rw [Array.size_modify]; exact hlt), Array.getElem_modify_self, hk]
    · exact .row kb cap cur hc hm ((Below.heap_setCell _ _ _ kb e).trans hb) hs
/-- the kids of a type lie in a row of their own, what they hold elsewhere -/
def KidsO (N : Nat) (ks : List Ty) (v : Value) (W : World) : Prop := ∀ g, v.ownBlock = some g → ∀ i (hi : i < ks.length), (ks[i]).lies (fun b => N ≤ b ∧ b ≠ g) W g (i * 7)
/-- the root is still to come, or its kids are all its own -/
def RtI (root : Ty) (T0 N1 : Nat) (X : Nat → Prop) (l : List Addr) (ps : List Pnd) (W : World) : Prop :=
  l = [⟨T0, 0, none⟩] ∨ ((∀ a ∈ l, a.block ≠ T0) ∧ ∃ v, W.cell? ⟨T0, 6, none⟩ = some v ∧ OwnK W root.kids.length v ∧ (∀ k, v.ownBlock = some k → X k) ∧ Wd (fun b => N1 ≤ b ∧ v.ownBlock ≠ some b) (fun W' => ∀ g, v.ownBlock = some g → ∀ i (hi : i < root.kids.length), (root.kids[i]).lies (fun b => N1 ≤ b ∧ v.ownBlock ≠ some b) W' g (i * 7)) X ps W)
/-- between two steps -/
structure FrI (w0 : World) (N0 : Nat) (root : Ty) (T0 : Nat) (g : Nat) (X : Nat → Prop) (l : List Addr) (W : World) : Prop where
  old : Kx (· = T0) w0 W
  n0 : N0 ≤ w0.heap.size
  all : ∀ b, b < w0.heap.size → X b
  lt : ∀ b, X b → b < W.heap.size
  t0 : T0 < w0.heap.size
  gb : g ≤ 1000000
  tx : X T0
  ex : ∃ ps : List Pnd, ps.map Pnd.a = l ∧ cntL (ps.map Pnd.t) = g ∧ (∀ p ∈ ps, PdI N0 W p ∧ X p.b ∧ Fit p.t ∧ ((p.b = T0 ∧ p.t = root) ∨ w0.heap.size ≤ p.b)) ∧ ps.Pairwise Pnd.far ∧ Wd (fun b => w0.heap.size ≤ b) (fun W' => root.lies (fun b => w0.heap.size ≤ b) W' T0 0) X ps W ∧ RtI root T0 w0.heap.size X l ps W ∧ TrW w0.heap.size root T0 X ps W
section
variable {w0 : World} {N0 : Nat} {root : Ty} {T0 g : Nat} {X : Nat → Prop} {l : List Addr} {W W' : World}
theorem PdI.to {p : Pnd} (h : PdI N0 W p) (hc : ∀ i, i < 7 → ∀ v, W.cell? ⟨p.b, p.o + i, none⟩ = some v → W'.cell? ⟨p.b, p.o + i, none⟩ = some v) (hn : NB W' p.b) {Y : Nat → Prop} (hk : Kx Y W W') (hY : ∀ b, b < N0 → ¬ Y b) : PdI N0 W' p := by
  obtain ⟨vn, vm, vk, ⟨h0, h1, h2, h3⟩, ⟨h4, h5, h6⟩, hp⟩ := h.ex
  have e0 := hc 0 (by omega) _ h0
  rw [Nat.add_zero] at e0
  refine ⟨h.n0, hn, vn, vm, vk, ⟨e0, hc 1 (by omega) _ h1, hc 2 (by omega) _ h2, hc 3 (by omega) _ h3⟩, ⟨hc 4 (by omega) _ h4, hc 5 (by omega) _ h5, hc 6 (by omega) _ h6⟩, ?_⟩
  exact hp.to hk (fun _ _ h => h) (fun b _ h => hY b h)
theorem FrI.stable (h : FrI w0 N0 root T0 g X l W) (hk : Kx (fun b => ¬ X b) W W') : FrI w0 N0 root T0 g X l W' := by
  obtain ⟨ps, e1, e2, hp, hd, hw, hrt, htw⟩ := h.ex
  have hn0 := h.n0
  refine ⟨h.old.andThen hk (fun _ _ h => h) (fun b hb hx => absurd (h.all b hb) hx), h.n0, h.all, fun b hb => Nat.lt_of_lt_of_le (h.lt b hb) hk.size, h.t0, h.gb, h.tx, ps, e1, e2, fun p hp' => ?_, hd, hw.stable hk, ?_, htw.stable hk⟩
  · obtain ⟨h1, h2, h3⟩ := hp p hp'
    exact ⟨h1.to (fun i _ v hv => hk.cell hv (fun h => h h2)) (h1.nb.kx hk (fun h => h h2)) hk (fun b hb hx => hx (h.all b (by omega))), h2, h3⟩
  · rcases hrt with h1 | ⟨h1, v, h2, h3, h4, h5⟩
    · exact .inl h1
    · exact .inr ⟨h1, v, hk.cell h2 (fun hx => hx h.tx), h3.kx hk (fun k hk' hx => hx (h4 k hk')), h4, h5.stable hk⟩
theorem FrI.len (h : FrI w0 N0 root T0 g X l W) : l.length ≤ 1000000 := by
  obtain ⟨ps, e1, e2, _⟩ := h.ex
  have := h.gb
  have h1 := cntL_len (ps.map Pnd.t)
  rw [e2, List.length_map] at h1
  rw [← e1, List.length_map]; omega
theorem FrI.own (h : FrI w0 N0 root T0 g X [] W) : ∃ v, W.cell? ⟨T0, 6, none⟩ = some v ∧ OwnK W root.kids.length v ∧ KidsO w0.heap.size root.kids v W := by
  obtain ⟨ps, e1, e2, hp, hd, hw, hrt, htw⟩ := h.ex
  obtain rfl : ps = [] := by simpa using e1
  rcases hrt with h1 | ⟨_, v, h2, h3, _, h5⟩
  · cases h1
  · refine ⟨v, h2, h3, fun g hg i hi => ?_⟩
    have := h5 W (fun a v _ h _ => h) (Nat.le_refl _) (fun p hp => by cases hp) g hg i hi
    exact lies_to (X := fun _ => False) (Kx.refl _ _) (fun b _ h => ⟨h.1, fun e => h.2 (e ▸ hg)⟩) (fun _ _ _ h => h) _ _ _ (fun h => h) this
theorem FrI.tree (h : FrI w0 N0 root T0 g X [] W) : root.tr W T0 0 w0.heap.size W.heap.size := by
  obtain ⟨ps, e1, e2, hp, hd, hw, hrt, htw⟩ := h.ex
  obtain rfl : ps = [] := by simpa using e1
  exact htw W _ _ (fun a v _ h _ => h) (fun _ _ h => h) (Nat.le_refl _) (Nat.le_refl _) (Nat.le_refl W.heap.size)
theorem FrI.done (h : FrI w0 N0 root T0 g X [] W) : root.lies (fun b => w0.heap.size ≤ b) W T0 0 := by
  obtain ⟨ps, e1, e2, hp, hd, hw, _⟩ := h.ex
  obtain rfl : ps = [] := by simpa using e1
  exact hw W (fun a v _ h _ => h) (Nat.le_refl _) (fun p hp => by cases hp)
/-- a row of one's own in cells that are kept -/
theorem rowV_own {α : Type} {f : α → Value} {base n : Nat} {T : TypeId} {v : Value} {l : List α} {w W2 : World} {B : BQ} (h : w.ownsRow base T 1 v n (l.map f)) (hn : n = l.length) (hm : n ≤ 9223372036854775807) (hB : ∀ k, v.ownBlock = some k → B k) (hs : w.heap.size ≤ W2.heap.size)
    (hc : ∀ a u, v.ownBlock = some a.block → a.spot = none → w.cell? a = some u → W2.cell? a = some u) : RowV f B W2 v l := by
  subst hn
  rcases h.2 with ⟨rfl, h0⟩ | ⟨g, cap, cur, rfl, _, hg, _⟩
  · exact .inl ⟨none, 0, rfl, List.length_eq_zero_iff.1 h0⟩
  · refine .inr ⟨g, 0, cap, rfl, by omega, Nat.lt_of_lt_of_le (Array.getElem?_eq_some_iff.1 hg).1 hs, hB g rfl, fun i x hx => ?_⟩
    have := h.cells (g := g) rfl i (f x) (by simp [hx])
    rw [Addr.add_lit] at this
    exact hc _ _ rfl rfl this
theorem maxI {n k : Nat} (h : n * (k + 1) ≤ 140737488355328) : n ≤ 9223372036854775807 := by
  have := Nat.le_mul_of_pos_right n (show 0 < k + 1 by omega)
  omega
/-- the cells of a type's three slices -/
theorem RowV.src {α : Type} {f : α → Value} {B : BQ} {W : World} {v : Value} {l : List α} (h : RowV f B W v l) : Src W v l.length (l.map f) := by
  rcases h with ⟨a, c, rfl, rfl⟩ | ⟨b, o, c, rfl, hl, hb, h1, h2⟩
  · cases a with
    | none => exact .nil c
    | some a => exact .non a c
  · refine .row b o l.length c (l.map f) (fun j u hj => ?_)
    rw [List.getElem?_map] at hj
    cases hx : l[j]? with
    | none => rw [hx] at hj; cases hj
    | some x => rw [hx] at hj; obtain rfl : f x = u := by simpa using hj
                exact h2 j x hx
theorem SlT.src {B : BQ} {W : World} {v : Value} {l : List Ty} (h : SlT B W v l) : ∃ vs : List V3, ∃ hl : vs.length = l.length, Src W v l.length (flatT l vs) ∧ ∀ i (hi : i < l.length), Prt B W l[i] (vs[i]'(hl ▸ hi)).n (vs[i]'(hl ▸ hi)).m (vs[i]'(hl ▸ hi)).k := by
  rcases h with ⟨a, c, rfl, rfl⟩ | ⟨b, o, c, rfl, hl, hb1, hb, hL⟩
  · refine ⟨[], rfl, ?_, fun i hi => by cases hi⟩
    cases a with
    | none => exact .nil c
    | some a => exact .non a c
  · obtain ⟨vs, hvl, hc, hpr⟩ := liesT_flat l b o hL
    exact ⟨vs, hvl, .row b o l.length c _ hc, hpr⟩
/-- the kids that are to come -/
def kidP (kb : Nat) : List Ty → Nat → List Pnd
  | [], _ => []
  | x :: r, o => ⟨kb, o, x⟩ :: kidP kb r (o + 7)
theorem kidP_mem {kb : Nat} {p : Pnd} : ∀ (ks : List Ty) (o : Nat), p ∈ kidP kb ks o → ∃ i, ∃ hi : i < ks.length, p = ⟨kb, o + i * 7, ks[i]⟩
  | [], _, h => by cases h
  | x :: r, o, h => by
    rcases List.mem_cons.1 h with rfl | h
    · exact ⟨0, by simp, by simp⟩
    · obtain ⟨i, hi, e⟩ := kidP_mem r (o + 7) h
      exact ⟨i + 1, by simpa using hi, by rw [e]; simp; omega⟩
theorem kidP_in {kb : Nat} : ∀ (ks : List Ty) (o i : Nat) (hi : i < ks.length), (⟨kb, o + i * 7, ks[i]⟩ : Pnd) ∈ kidP kb ks o
  | x :: r, o, 0, _ => by simp [kidP]
  | x :: r, o, i + 1, hi => by
    refine List.mem_cons.2 (.inr ?_)
    have := kidP_in (kb := kb) r (o + 7) i (by simpa using hi)
    rw [show o + (i + 1) * 7 = o + 7 + i * 7 by omega]
    simpa using this
theorem kidP_t (kb : Nat) : ∀ (ks : List Ty) (o : Nat), (kidP kb ks o).map Pnd.t = ks
  | [], _ => rfl
  | x :: r, o => by simp [kidP, kidP_t kb r]
theorem kidA_cons (b o n : Nat) : kidA b o (n + 1) = ⟨b, o, none⟩ :: kidA b (o + 7) n := by
  simp only [kidA, List.range_succ_eq_map, List.map_cons, List.map_map, Nat.zero_mul, Nat.add_zero]
  congr 1
  apply List.map_congr_left
  intro i _
  simp only [Function.comp]
  congr 1
  omega
theorem kidP_a (kb : Nat) : ∀ (ks : List Ty) (o : Nat), (kidP kb ks o).map Pnd.a = kidA kb o ks.length
  | [], _ => rfl
  | x :: r, o => by rw [List.length_cons, kidA_cons, ← kidP_a kb r]; rfl
theorem kidP_far (kb : Nat) : ∀ (ks : List Ty) (o : Nat), (kidP kb ks o).Pairwise Pnd.far
  | [], _ => List.Pairwise.nil
  | x :: r, o => by
    refine List.Pairwise.cons (fun q hq => ?_) (kidP_far kb r (o + 7))
    obtain ⟨i, hi, rfl⟩ := kidP_mem r (o + 7) hq
    refine .inr (.inl ?_)
    show o + 7 ≤ o + 7 + i * 7
    omega
theorem set_far {w : World} {b o o' : Nat} {x : Value} {a : Addr} (h : ¬ (a.block = b ∧ a.spot = none ∧ a.off = o')) (ho : o' = o) : (w.setCell ⟨b, o, none⟩ x).cell? a = w.cell? a := by
  apply World.cell?_setCell_other
  rintro rfl
  exact h ⟨rfl, rfl, ho.symm⟩
theorem set3_far {w : World} {p : Pnd} {x y z : Value} {a : Addr} (h : ¬ p.hit a) : (((w.setCell ⟨p.b, p.o + 4, none⟩ x).setCell ⟨p.b, p.o + 5, none⟩ y).setCell ⟨p.b, p.o + 6, none⟩ z).cell? a = w.cell? a := by
  rw [set_far (fun e => h ⟨e.1, e.2.1, .inr (.inr e.2.2)⟩) rfl, set_far (fun e => h ⟨e.1, e.2.1, .inr (.inl e.2.2)⟩) rfl, set_far (fun e => h ⟨e.1, e.2.1, .inl e.2.2⟩) rfl]
theorem set3_own {w : World} {b o : Nat} {x y z x0 y0 z0 : Value} (h4 : w.cell? ⟨b, o + 4, none⟩ = some x0) (h5 : w.cell? ⟨b, o + 5, none⟩ = some y0) (h6 : w.cell? ⟨b, o + 6, none⟩ = some z0) :
    (((w.setCell ⟨b, o + 4, none⟩ x).setCell ⟨b, o + 5, none⟩ y).setCell ⟨b, o + 6, none⟩ z).cell? ⟨b, o + 4, none⟩ = some x ∧ (((w.setCell ⟨b, o + 4, none⟩ x).setCell ⟨b, o + 5, none⟩ y).setCell ⟨b, o + 6, none⟩ z).cell? ⟨b, o + 5, none⟩ = some y ∧ (((w.setCell ⟨b, o + 4, none⟩ x).setCell ⟨b, o + 5, none⟩ y).setCell ⟨b, o + 6, none⟩ z).cell? ⟨b, o + 6, none⟩ = some z := by
  refine ⟨?_, ?_, set3_cell h6⟩
  · rw [set_far (o' := o + 6) (by simp) rfl, set_far (o' := o + 5) (by simp) rfl]
    exact World.cell?_setCell_same' _ _ _ (by rw [h4]; rfl)
  · rw [set_far (o' := o + 6) (by simp) rfl]
    refine World.cell?_setCell_same' _ _ _ ?_
    rw [set_far (o' := o + 4) (by simp) rfl, h5]; rfl
theorem kx_set3 {w : World} {b o : Nat} {x y z : Value} : Kx (· = b) w (((w.setCell ⟨b, o + 4, none⟩ x).setCell ⟨b, o + 5, none⟩ y).setCell ⟨b, o + 6, none⟩ z) := (kx_set.trans kx_set).trans kx_set
theorem one_str {l : List ByteArray} : ∀ u ∈ l.map Value.string, u.oneCell' = true := fun u hu => by obtain ⟨x, _, rfl⟩ := List.mem_map.1 hu; rfl
theorem one_boo {l : List Bool} : ∀ u ∈ l.map Value.bool, u.oneCell' = true := fun u hu => by obtain ⟨x, _, rfl⟩ := List.mem_map.1 hu; rfl
/-- one step -/
theorem FrI.call {x : Addr} {r : List Addr} (h : FrI w0 N0 root T0 g X (x :: r) W) : Calls Try.prog 32 #[pv x] W (StQ (FrI w0 N0 root T0) (fun _ _ => False) g X r W) := by
  obtain ⟨ps, e1, e2, hp, hd, hw, hrt, htw⟩ := h.ex
  cases ps with
  | nil => simp at e1
  | cons p qs =>
    obtain ⟨rfl, rfl⟩ : p.a = x ∧ qs.map Pnd.a = r := by simpa using e1
    obtain ⟨hpi, hpx, hpf, hpT⟩ := hp p (by simp)
    obtain ⟨hd1, hd2⟩ := List.pairwise_cons.1 hd
    obtain ⟨vn, vm, vk, ⟨h0, h1, h2, h3⟩, ⟨h4, h5, h6⟩, hpr⟩ := hpi.ex
    have sn := hpr.ns.src
    have sm := hpr.ms.src
    obtain ⟨vs, hvl, sk, hvp⟩ := hpr.ks.src
    have hg := h.gb
    have hcp := p.t.cnt_eq
    rw [List.map_cons, cntL_cons] at e2
    have hkl := cntL_len p.t.kids
    obtain ⟨an, cn, rfl⟩ := sn.form
    obtain ⟨am, cm, rfl⟩ := sm.form
    obtain ⟨ak, ck, rfl⟩ := sk.form
    have hst := fresh1_any h4 h5 h6 (hpi.nb.frozen _) (hpi.nb.frozen _) (hpi.nb.frozen _) sn sm sk (by simp) (by simp) (flatT_len _ vs hvl) one_str one_boo (flatT_one _ vs hvl fun i hi => (hvp i hi).one) hpf.n hpf.m (by omega)
    refine hst.mono ?_
    rintro e W5 ⟨a, c, un, um, uk, w3, kb, hcl, ⟨a3, c3, rfl, hkb⟩, rfl, hrow, hb5⟩
    have hpb := hpi.nb.lt
    have hz3 := hcl.bl.size
    have hz5 : w3.heap.size ≤ W5.heap.size := by have := hb5.size; rw [set3_size] at this; exact this
    have hn0 : N0 ≤ W.heap.size := by have := hpi.n0; omega
    have cellK : ∀ a u, ¬ p.hit a → w3.cell? a = some u → W5.cell? a = some u := fun a u ha hu =>
      (hb5.cell (World.block_lt_of_cell? _ _ hu)).trans ((set3_far ha).trans hu)
    have cellW : ∀ a u, ¬ p.hit a → W.cell? a = some u → W5.cell? a = some u := fun a u ha hu => cellK a u ha (kept_cell hcl.bl hu)
    have hown := set3_own (x := un) (y := um) (z := .slice a3 p.t.kids.length c3) (kept_cell hcl.bl h4) (kept_cell hcl.bl h5) (kept_cell hcl.bl h6)
    have hown5 : W5.cell? ⟨p.b, p.o + 4, none⟩ = some un ∧ W5.cell? ⟨p.b, p.o + 5, none⟩ = some um ∧ W5.cell? ⟨p.b, p.o + 6, none⟩ = some (.slice a3 p.t.kids.length c3) :=
      ⟨(hb5.cell (p := ⟨p.b, p.o + 4, none⟩) (by show p.b < _; omega)).trans hown.1, (hb5.cell (p := ⟨p.b, p.o + 5, none⟩) (by show p.b < _; omega)).trans hown.2.1, (hb5.cell (p := ⟨p.b, p.o + 6, none⟩) (by show p.b < _; omega)).trans hown.2.2⟩
    have hkx1 : Kx (· = p.b) W W5 := by
      have k2 := (Kx.of_whole (X := (· = p.b)) hcl.bl).trans (kx_set3 (w := w3) (b := p.b) (o := p.o) (x := un) (y := um) (z := .slice a3 p.t.kids.length c3))
      refine k2.trans (Kx.of_whole ?_)
      rw [set3_size]; exact hb5
    have hkx : Kx X W W5 := hkx1.andThen (Kx.refl (fun _ => False) _) (fun b _ e => e ▸ hpx) (fun _ _ h => h.elim)
    have nb5 : ∀ k, NB w3 k → NB W5 k := fun k n => by
      have n3 := ((n.set ⟨p.b, p.o + 4, none⟩ un).set ⟨p.b, p.o + 5, none⟩ um).set ⟨p.b, p.o + 6, none⟩ (.slice a3 p.t.kids.length c3)
      exact n3.kept (by rw [set3_size]; exact hb5)
    have hkb0 : ∀ i, i < p.t.kids.length → a3 = some ⟨kb, 0, none⟩ ∧ W.heap.size ≤ kb ∧ kb < w3.heap.size := fun i hi => by
      obtain rfl := hkb (by omega)
      have := hcl.k.lt kb rfl
      exact ⟨rfl, this.1, this.2⟩
    have kidLow : ∀ q ∈ kidP kb p.t.kids 0, ∃ i, ∃ hi : i < p.t.kids.length, q = ⟨kb, 0 + i * 7, p.t.kids[i]⟩ := fun q hq => kidP_mem _ _ hq
    have hqb : ∀ q ∈ qs, q.b < W.heap.size := fun q hq => (hp q (by simp [hq])).1.nb.lt
    have wstep : ∀ (B : BQ) (C : World → Prop), (∀ b, W.heap.size ≤ b → B b) → Wd B C X (p :: qs) W → Wd B C (fun b => X b ∨ (W.heap.size ≤ b ∧ b < W5.heap.size)) (kidP kb p.t.kids 0 ++ qs) W5 := by
      intro B C hB hw
      intro W6 hag hs hl
      have cell6 : ∀ a u, a.block < W.heap.size → X a.block → (∀ q ∈ p :: qs, ¬ q.hit a) → W.cell? a = some u → W6.cell? a = some u := fun a u hb hx hn hu => by
        refine hag a u (.inl hx) (cellW a u (hn p (by simp)) hu) (fun q hq => ?_)
        rcases List.mem_append.1 hq with hq | hq
        · obtain ⟨i, hi, rfl⟩ := kidLow q hq
          have := hkb0 i hi
          exact fun h => by have := h.1; simp only at this; omega
        · exact hn q (by simp [hq])
      have cellP : ∀ i u, i < 7 → W5.cell? ⟨p.b, p.o + i, none⟩ = some u → W6.cell? ⟨p.b, p.o + i, none⟩ = some u := fun i u hi hu => by
        refine hag _ u (.inl hpx) hu (fun q hq => ?_)
        rcases List.mem_append.1 hq with hq | hq
        · obtain ⟨k, hk, rfl⟩ := kidLow q hq
          have := hkb0 k hk
          exact fun h => by have := h.1; simp only at this; omega
        · exact (hd1 q hq).not_hit hi
      have cellN : ∀ v : Value, (∀ k, v.ownBlock = some k → W.heap.size ≤ k ∧ k < w3.heap.size ∧ (0 < p.t.kids.length → k ≠ kb)) → ∀ (a : Addr) u, v.ownBlock = some a.block → a.spot = none → w3.cell? a = some u → W6.cell? a = some u := fun v hv a u ha hsp hu => by
        obtain ⟨v1, v2, v3⟩ := hv _ ha
        refine hag a u (.inr ⟨v1, by omega⟩) (cellK a u (fun h => by have := h.1; omega) hu) (fun q hq => ?_)
        rcases List.mem_append.1 hq with hq | hq
        · obtain ⟨k, hk, rfl⟩ := kidLow q hq
          exact fun h => v3 (by omega) h.1
        · exact fun h => by have := h.1; have := hqb q hq; omega
      refine hw W6 (fun a v ha hv hn => cell6 a v (World.block_lt_of_cell? _ _ hv) ha hn hv) (Nat.le_trans hkx.size hs) (fun q hq => ?_)
      rcases List.mem_cons.1 hq with rfl | hq
      · have c0 := cellP 0 _ (by omega) (by simpa using cellW _ _ (by simpa using Pnd.not_hit (p := q) (i := 0) (by omega)) h0)
        rw [Nat.add_zero] at c0
        refine lies_iff.2 ⟨c0, cellP 1 _ (by omega) (cellW _ _ (Pnd.not_hit (by omega)) h1), cellP 2 _ (by omega) (cellW _ _ (Pnd.not_hit (by omega)) h2), cellP 3 _ (by omega) (cellW _ _ (Pnd.not_hit (by omega)) h3), un, um, .slice a3 q.t.kids.length c3, cellP 4 _ (by omega) hown5.1, cellP 5 _ (by omega) hown5.2.1, cellP 6 _ (by omega) hown5.2.2, ?_, ?_, ?_⟩
        · refine rowV_own hcl.n (by simp) (maxI (k := 15) hpf.n) (fun k hk => ?_) (Nat.le_trans hz5 hs) (cellN un (fun k hk => ?_))
          · have := hcl.n.lt k hk; exact hB k (by omega)
          · have := hcl.n.lt k hk
            exact ⟨this.1, this.2, fun h0 e => hcl.nk k hk (by rw [e]; obtain rfl := hkb h0; rfl)⟩
        · refine rowV_own hcl.m (by simp) (maxI (k := 0) hpf.m) (fun k hk => ?_) (Nat.le_trans hz5 hs) (cellN um (fun k hk => ?_))
          · have := hcl.m.lt k hk; exact hB k (by omega)
          · have := hcl.m.lt k hk
            exact ⟨this.1, this.2, fun h0 e => hcl.mk9 k hk (by rw [e]; obtain rfl := hkb h0; rfl)⟩
        · by_cases hk0 : q.t.kids = []
          · refine .inl ⟨a3, c3, by rw [hk0]; rfl, hk0⟩
          · have hpos : 0 < q.t.kids.length := List.length_pos_iff.2 hk0
            obtain ⟨rfl, hk1, hk2⟩ := hkb0 0 hpos
            refine .inr ⟨kb, 0, c3, rfl, by omega, by omega, hB kb (by omega), liesT_of fun i hi => ?_⟩
            exact hl ⟨kb, 0 + i * 7, q.t.kids[i]⟩ (List.mem_append.2 (.inl (kidP_in _ _ i hi)))
      · exact hl q (List.mem_append.2 (.inr hq))
    have kidT : ∀ (W6 : World) (l : List Ty) (o lo hi : Nat), trP W6 (kidP kb l o) lo hi → trL W6 l kb o lo hi := by
      intro W6 l
      induction l with
      | nil => intro o lo hi h; exact trL_nil.2 h
      | cons x r ih =>
        intro o lo hi h
        obtain ⟨m, h1, h2⟩ := h
        exact trL_cons.2 ⟨m, h1, ih _ _ _ h2⟩
    have tstep : TrW w0.heap.size root T0 X (p :: qs) W → TrW w0.heap.size root T0 (fun b => X b ∨ (W.heap.size ≤ b ∧ b < W5.heap.size)) (kidP kb p.t.kids 0 ++ qs) W5 := by
      intro hw W6 lo hi hag hnb hs hlo htr
      have cell6 : ∀ a u, a.block < W.heap.size → X a.block → (∀ q ∈ p :: qs, ¬ q.hit a) → W.cell? a = some u → W6.cell? a = some u := fun a u hb hx hn hu => by
        refine hag a u (.inl hx) (cellW a u (hn p (by simp)) hu) (fun q hq => ?_)
        rcases List.mem_append.1 hq with hq | hq
        · obtain ⟨i, hi, rfl⟩ := kidLow q hq
          have := hkb0 i hi
          exact fun h => by have := h.1; simp only at this; omega
        · exact hn q (by simp [hq])
      have cellP : ∀ i u, i < 7 → W5.cell? ⟨p.b, p.o + i, none⟩ = some u → W6.cell? ⟨p.b, p.o + i, none⟩ = some u := fun i u hi hu => by
        refine hag _ u (.inl hpx) hu (fun q hq => ?_)
        rcases List.mem_append.1 hq with hq | hq
        · obtain ⟨k, hk, rfl⟩ := kidLow q hq
          have := hkb0 k hk
          exact fun h => by have := h.1; simp only at this; omega
        · exact (hd1 q hq).not_hit hi
      have cellN : ∀ v : Value, (∀ k, v.ownBlock = some k → W.heap.size ≤ k ∧ k < w3.heap.size ∧ (0 < p.t.kids.length → k ≠ kb)) → ∀ (a : Addr) u, v.ownBlock = some a.block → a.spot = none → w3.cell? a = some u → W6.cell? a = some u := fun v hv a u ha hsp hu => by
        obtain ⟨v1, v2, v3⟩ := hv _ ha
        refine hag a u (.inr ⟨v1, by omega⟩) (cellK a u (fun h => by have := h.1; omega) hu) (fun q hq => ?_)
        rcases List.mem_append.1 hq with hq | hq
        · obtain ⟨k, hk, rfl⟩ := kidLow q hq
          exact fun h => v3 (by omega) h.1
        · exact fun h => by have := h.1; have := hqb q hq; omega
      obtain ⟨m, ht1, ht2⟩ := trP_append htr
      have ht3 := kidT _ _ _ _ _ ht1
      have ht4 := trL_le _ _ _ _ _ ht3
      refine hw W6 W.heap.size hi (fun a v ha hv hn => cell6 a v (World.block_lt_of_cell? _ _ hv) ha hn hv) (fun b hb hn => hnb b (.inl hb) (nb5 _ (hn.kept hcl.bl))) (Nat.le_trans hkx.size hs) (Nat.le_refl _) ⟨m, ?_, ht2⟩
      have c0 := cellP 0 _ (by omega) (by simpa using cellW _ _ (by simpa using Pnd.not_hit (p := p) (i := 0) (by omega)) h0)
      rw [Nat.add_zero] at c0
      refine tr_iff.2 ⟨⟨c0, cellP 1 _ (by omega) (cellW _ _ (Pnd.not_hit (by omega)) h1), cellP 2 _ (by omega) (cellW _ _ (Pnd.not_hit (by omega)) h2), cellP 3 _ (by omega) (cellW _ _ (Pnd.not_hit (by omega)) h3)⟩, un, um, .slice a3 p.t.kids.length c3, ⟨cellP 4 _ (by omega) hown5.1, cellP 5 _ (by omega) hown5.2.1, cellP 6 _ (by omega) hown5.2.2⟩, lo, by omega, ?_, ?_, ?_⟩
      · refine rowV_own hcl.n (by simp) (maxI (k := 15) hpf.n) (fun k hk => ?_) (Nat.le_trans hz5 hs) (cellN un (fun k hk => ?_))
        · have := hcl.n.lt k hk; exact ⟨by omega, by omega, hcl.nk k hk⟩
        · have := hcl.n.lt k hk
          exact ⟨this.1, this.2, fun h0 e => hcl.nk k hk (by rw [e]; obtain rfl := hkb h0; rfl)⟩
      · refine rowV_own hcl.m (by simp) (maxI (k := 0) hpf.m) (fun k hk => ?_) (Nat.le_trans hz5 hs) (cellN um (fun k hk => ?_))
        · have := hcl.m.lt k hk; exact ⟨by omega, by omega, hcl.mk9 k hk⟩
        · have := hcl.m.lt k hk
          exact ⟨this.1, this.2, fun h0 e => hcl.mk9 k hk (by rw [e]; obtain rfl := hkb h0; rfl)⟩
      · by_cases hk0 : p.t.kids = []
        · exact .inl ⟨a3, c3, by rw [hk0]; rfl, hk0, ht4⟩
        · have hpos : 0 < p.t.kids.length := List.length_pos_iff.2 hk0
          obtain ⟨rfl, hk1, hk2⟩ := hkb0 0 hpos
          obtain ⟨cur, hcur⟩ := ownsRow_cells hcl.k
          exact .inr ⟨kb, c3, rfl, by omega, hk1, by omega, hnb kb (.inr ⟨hk1, by omega⟩) (nb5 _ ⟨cur, _, hcur⟩), ht3⟩
    have hrt5 : RtI root T0 w0.heap.size (fun b => X b ∨ (W.heap.size ≤ b ∧ b < W5.heap.size)) (kidA kb 0 p.t.kids.length ++ qs.map Pnd.a) (kidP kb p.t.kids 0 ++ qs) W5 := by
      refine .inr ⟨fun a ha => ?_, ?_⟩
      · rcases List.mem_append.1 ha with ha | ha
        · rw [← kidP_a] at ha
          obtain ⟨q, hq, rfl⟩ := List.mem_map.1 ha
          obtain ⟨i, hi, rfl⟩ := kidLow q hq
          have := hkb0 i hi
          have := h.lt _ h.tx
          show kb ≠ T0
          omega
        · rcases hrt with h1 | ⟨h1, _⟩
          · have : qs.map Pnd.a = [] := by simpa using congrArg List.tail h1
            rw [this] at ha; cases ha
          · exact h1 a (by simp [ha])
      · rcases hrt with h1 | ⟨h1, v, h2, h3, h4, h5⟩
        · have hpa : p.a = ⟨T0, 0, none⟩ := by simpa using congrArg List.head? h1
          have hb0 : p.b = T0 := congrArg Addr.block hpa
          have ho0 : p.o = 0 := congrArg Addr.off hpa
          have hroot : p.t = root := by
            have h9 := h.t0
            rcases hpT with h | h
            · exact h.2
            · have := h9; omega
          have hq0 : qs = [] := by simpa using congrArg List.tail h1
          refine ⟨.slice a3 p.t.kids.length c3, ?_, ?_, fun k hk => ?_, ?_⟩
          · have := hown5.2.2
            rwa [hb0, ho0, Nat.zero_add] at this
          · rw [← hroot]
            have o1 := OwnK.of hcl.k
            have o2 := ((o1.set ⟨p.b, p.o + 4, none⟩ un).set ⟨p.b, p.o + 5, none⟩ um).set ⟨p.b, p.o + 6, none⟩ (.slice a3 p.t.kids.length c3)
            exact o2.kx (Kx.of_whole (X := fun _ => False) (by rw [set3_size]; exact hb5)) (fun _ _ h => h)
          · have := hcl.k.lt k hk
            exact .inr ⟨this.1, by omega⟩
          · subst hq0
            rw [List.append_nil]
            intro W6 hag hs hl g9 hg9 i hi
            subst hroot
            obtain ⟨rfl, _⟩ := hkb0 i hi
            obtain rfl : kb = g9 := by simpa [Value.ownBlock] using hg9
            have := hl ⟨kb, 0 + i * 7, p.t.kids[i]⟩ (kidP_in _ _ i hi)
            rwa [Nat.zero_add] at this
        · refine ⟨v, ?_, ?_, fun k hk => .inl (h4 k hk), wstep _ _ (fun b hb => ⟨by have := h.old.size; omega, fun e => by have := h.lt b (h4 b e); omega⟩) h5⟩
          · exact cellW _ _ (fun hh => h1 p.a (by simp) hh.1.symm) h2
          · have o1 := h3.kx (Kx.of_whole (X := fun _ => False) hcl.bl) (fun _ _ h => h)
            have o2 := ((o1.set ⟨p.b, p.o + 4, none⟩ un).set ⟨p.b, p.o + 5, none⟩ um).set ⟨p.b, p.o + 6, none⟩ (.slice a3 p.t.kids.length c3)
            exact o2.kx (Kx.of_whole (X := fun _ => False) (by rw [set3_size]; exact hb5)) (fun _ _ h => h)
    refine .inl ⟨a, p.t.kids.length, c, kidA kb 0 p.t.kids.length, g - 1, fun b => X b ∨ (W.heap.size ≤ b ∧ b < W5.heap.size), rfl, ?_, by omega, ⟨?_, ?_, ?_, ?_, h.t0, by omega, .inl h.tx, ?_⟩, hkx, fun b hb hx => hx.resolve_right (by omega)⟩
    · refine rowV_own (w := W5) hrow (by rw [kidA_len]) (by omega) (fun k hk => ?_) (Nat.le_refl _) (fun _ _ _ _ h => h)
      have := hrow.lt k hk
      exact .inr ⟨by omega, this.2⟩
    · exact h.old.andThen hkx1 (fun _ _ h => h) (fun b hb e => by rcases hpT with h | h; exact e.trans h.1; omega)
    · exact h.n0
    · exact fun b hb => .inl (h.all b hb)
    · rintro b (hb | hb)
      · have := h.lt b hb; have := hkx.size; omega
      · exact hb.2
    · refine ⟨kidP kb p.t.kids 0 ++ qs, by rw [List.map_append, kidP_a], by rw [List.map_append, kidP_t, cntL_append]; omega, ?_, ?_, ?_, ?_, tstep htw⟩
      · intro q hq
        rcases List.mem_append.1 hq with hq | hq
        · obtain ⟨i, hi, rfl⟩ := kidLow q hq
          obtain ⟨rfl, hk1, hk2⟩ := hkb0 i hi
          have hkp : kb ≠ p.b := by omega
          have hcs : ∀ j u, j < 7 → (cel p.t.kids[i] (vs[i]'(hvl ▸ hi)))[j]? = some u → W5.cell? ⟨kb, 0 + i * 7 + j, none⟩ = some u := fun j u hj hu => by
            have := hcl.k.cells (g := kb) rfl (i * 7 + j) u (by rw [flatT_get _ vs hvl i hi j hj]; exact hu)
            rw [Addr.add_lit] at this
            rw [Nat.add_assoc]
            exact cellK _ _ (fun h => hkp h.1) this
          refine ⟨⟨by show N0 ≤ kb; omega, ?_, (vs[i]'(hvl ▸ hi)).n, (vs[i]'(hvl ▸ hi)).m, (vs[i]'(hvl ▸ hi)).k, ⟨by simpa using hcs 0 _ (by omega) rfl, hcs 1 _ (by omega) rfl, hcs 2 _ (by omega) rfl, hcs 3 _ (by omega) rfl⟩, ⟨hcs 4 _ (by omega) rfl, hcs 5 _ (by omega) rfl, hcs 6 _ (by omega) rfl⟩, ?_⟩, .inr ⟨hk1, by show kb < _; omega⟩, hpf.k _ (List.getElem_mem _), .inr (by have := h.old.size; show _ ≤ kb; omega)⟩
          · obtain ⟨cur, hcur⟩ := ownsRow_cells hcl.k
            have n1 : NB w3 kb := ⟨cur, _, hcur⟩
            exact nb5 _ n1
          · exact (hvp i hi).to hkx1 (fun _ _ h => h) (fun b _ h e => by have := hpi.n0; omega)
        · obtain ⟨g1, g2, g3⟩ := hp q (by simp [hq])
          refine ⟨g1.to (fun i hi v hv => cellW _ _ ((hd1 q hq).symm.not_hit hi) hv) ?_ hkx1 (fun b hb e => by have := hpi.n0; omega), .inl g2, g3⟩
          have n1 := g1.nb.kept hcl.bl
          exact nb5 _ n1
      · refine List.pairwise_append.2 ⟨kidP_far _ _ _, hd2, fun k hk q hq => .inl ?_⟩
        obtain ⟨i, hi, rfl⟩ := kidLow k hk
        have := hkb0 i hi
        have := hqb q hq
        show kb ≠ q.b
        omega
      · exact wstep _ _ (fun b hb => by have := h.old.size; show _ ≤ b; omega) hw
      · exact hrt5
end
end Go.Proofs.Ytcmnhkopmkaiaaa

