/-
  The document's Name, Basic, Default and Make, walked.
-/
import Derived.Test.YtdofhlmffponoaaJdB
import Derived.Deep.RegionLaw
namespace Go.Proofs.Ytdofhlmffponoaa
open Go.RowKit
attribute [local go_sem ↓] Go.wp_at_zero Go.wp_at_succ
/-- a type is answered -/
structure TyQ (w : World) (K : BQ) (t : Ty) (e : Ending) (w' : World) : Prop where
  bl : Below w.heap.size w w'
  ex : ∃ vn vm vk, e = .returned (agT t vn vm vk) ∧ Prt K w' t vn vm vk
theorem results_cell {P : Program} {f : Func} {tmps : Array Value} {W : World} {a t : Nat} {ad : Addr} {v : Value} (hf : f.results = #[.cell a t]) (ha : tmps.getD a undef = .pointer (some ad)) (hl : (loadVar t ad).run P W = .ok v W) : (results f tmps).run P W = .ok v W := by
  unfold results
  rw [hf]
  have ha2 : tmps[a]?.getD undef = .pointer (some ad) := by rw [← ha]; simp
  simp [ha2, asAddr, hl]
set_option maxRecDepth 100000 in
theorem resT {w : World} {g : Nat} {a b c d x y z : Value} (hg : w.heap[g]? = some (.cells #[a, b, c, d, x, y, z] 29 (0, 0))) : (loadVar 29 ⟨g, 0, none⟩).run Try.prog w = .ok (.agg #[a, b, c, d, x, y, z]) w :=
  run_loadVar_row w g _ _ _ _ _ hg Try.underlying29 rfl rfl
theorem prt_nil {K : BQ} {W : World} (k : Int) (nm : ByteArray) (n : Int) (f : Bool) : Prt K W (.mk k nm n f [] [] []) (.slice none 0 0) (.slice none 0 0) (.slice none 0 0) :=
  ⟨.inl ⟨_, _, rfl, rfl⟩, .inl ⟨_, _, rfl, rfl⟩, .inl ⟨_, _, rfl, rfl⟩⟩
abbrev NIL : Value := .slice none 0 0
theorem bx7f {w : World} {B : Nat} {a b c d e f g : Value} {T : TypeId} (h : w.heap[B]? = some (.cells #[a, b, c, d, e, f, g] T (0, 0))) : w.frozen? ⟨B, 0, none⟩ = false ∧ w.frozen? ⟨B, 1, none⟩ = false ∧ w.frozen? ⟨B, 2, none⟩ = false ∧ w.frozen? ⟨B, 3, none⟩ = false ∧ w.frozen? ⟨B, 4, none⟩ = false ∧ w.frozen? ⟨B, 5, none⟩ = false ∧ w.frozen? ⟨B, 6, none⟩ = false := by
  simp [World.frozen?, h]
/-- what a constant's type becomes -/
def Ty.dfl (t : Ty) : Ty := if t.kind = 4 then .mk 1 ⟨#[]⟩ 0 false [] [] [] else if t.kind = 5 then .mk 2 ⟨#[]⟩ 0 false [] [] [] else if t.kind = 6 then .mk 3 ⟨#[]⟩ 0 false [] [] [] else t
theorem bx7_set {w : World} {g : Nat} {a b c d x y z a' b' c' d' x' y' z' : Value} {T : TypeId} (h : w.heap[g]? = some (.cells #[a, b, c, d, x, y, z] T (0, 0))) : (((((((w.setCell ⟨g, 0, none⟩ a').setCell ⟨g, 1, none⟩ b').setCell ⟨g, 2, none⟩ c').setCell ⟨g, 3, none⟩ d').setCell ⟨g, 4, none⟩ x').setCell ⟨g, 5, none⟩ y').setCell ⟨g, 6, none⟩ z').heap[g]? = some (.cells #[a', b', c', d', x', y', z'] T (0, 0)) := by
  simp [World.setCell, Array.getElem?_modify, h]
theorem kx_set {w : World} {B o : Nat} {v : Value} : Kx (· = B) w (w.setCell ⟨B, o, none⟩ v) :=
  ⟨rfl, rfl, rfl, by simp [World.setCell], fun b _ h hb => (Below.heap_setCell w ⟨B, o, none⟩ v b hb).trans h⟩
theorem kx_set7 {w : World} {g : Nat} {a b c d x y z : Value} : Kx (· = g) w (((((((w.setCell ⟨g, 0, none⟩ a).setCell ⟨g, 1, none⟩ b).setCell ⟨g, 2, none⟩ c).setCell ⟨g, 3, none⟩ d).setCell ⟨g, 4, none⟩ x).setCell ⟨g, 5, none⟩ y).setCell ⟨g, 6, none⟩ z) :=
  (((((kx_set.trans kx_set).trans kx_set).trans kx_set).trans kx_set).trans kx_set).trans kx_set
theorem below_kx1 {w W W' : World} {X : Nat} (h : Below w.heap.size w W) (k : Kx (· = X) W W') (hX : w.heap.size ≤ X) : Below w.heap.size w W' :=
  ⟨k.os.trans h.os, k.tape.trans h.tape, k.output.trans h.output, Nat.le_trans h.size k.size, fun b hb => by
    have h1 := h.block b hb
    rw [Array.getElem?_eq_getElem hb] at h1 ⊢
    exact k.keep b _ h1 (by omega)⟩
end Go.Proofs.Ytdofhlmffponoaa

/-
  The document's Subst, walked.
-/
namespace Go.Proofs.Ytdofhlmffponoaa
open Go.RowKit
attribute [local go_sem ↓] Go.wp_at_zero Go.wp_at_succ
mutual
/-- with its arguments -/
def Ty.sbs (args : List Ty) : Ty → Ty
  | .mk k nm n f ns ms ks => if k = 9 then (if 0 ≤ n ∧ n < (args.length : Int) then args[n.toNat]?.getD (.mk k nm n f ns ms ks) else .mk k nm n f ns ms ks) else .mk k nm n f ns ms (sbsL args ks)
def sbsL (args : List Ty) : List Ty → List Ty
  | [] => []
  | x :: r => x.sbs args :: sbsL args r
end
theorem sbsL_len (args : List Ty) (l : List Ty) : (sbsL args l).length = l.length := by
  induction l with
  | nil => rfl
  | cons x r ih => simp [sbsL, ih]
theorem sbsL_append (args : List Ty) (l l' : List Ty) : sbsL args (l ++ l') = sbsL args l ++ sbsL args l' := by
  induction l with
  | nil => rfl
  | cons x r ih => simp [sbsL, ih]
/-- no more kids than are looked at -/
inductive Sml : Ty → Prop
  | mk (t : Ty) : t.kids.length ≤ 1000 → (∀ x ∈ t.kids, Sml x) → Sml t
theorem tszL_sml (ks : List Ty) (ih : ∀ x ∈ ks, ∀ m, 0 ≤ m → m ≤ 120 → x.tsz m ≤ m → Sml x) : ∀ m s, 1 ≤ s → m ≤ 120 → tszL ks m s ≤ m → (∀ x ∈ ks, Sml x) ∧ s + ks.length ≤ m := by
  induction ks with
  | nil => intro m s h1 h2 h3; simp only [tszL] at h3; exact ⟨(fun x hx => by cases hx), by simpa using h3⟩
  | cons x r ih2 =>
    intro m s h1 h2 h3
    simp only [tszL] at h3
    by_cases hs : s ≤ m
    · rw [if_pos hs] at h3
      have hx := tsz_le x (m - s) (by omega)
      obtain ⟨h4, h5⟩ := ih2 (fun y hy => ih y (by simp [hy])) m (s + x.tsz (m - s)) (by omega) h2 h3
      refine ⟨fun y hy => ?_, by simp; omega⟩
      rcases List.mem_cons.1 hy with rfl | hy
      · exact ih y (by simp) (m - s) (by omega) (by omega) (by omega)
      · exact h4 y hy
    · rw [if_neg hs] at h3; omega
theorem tsz_sml : ∀ t : Ty, ∀ m, 0 ≤ m → m ≤ 120 → t.tsz m ≤ m → Sml t :=
  Ty.ind fun k nm n f ns ms ks ih m h0 h1 h2 => by
    simp only [Ty.tsz] at h2
    obtain ⟨h3, h4⟩ := tszL_sml ks ih m 1 (by omega) h1 h2
    exact .mk _ (by simp [Ty.kids]; omega) h3
theorem own_kept {base size n : Nat} {e : TypeId} {v : Value} {xs : List Value} {W W' : World} (h : W.ownsRow base e size v n xs) (hk : Below W.heap.size W W') : W'.ownsRow base e size v n xs := by
  refine ⟨h.1, ?_⟩
  rcases h.2 with h0 | ⟨g, cap, cur, rfl, h1, h2, h3⟩
  · exact .inl h0
  · exact .inr ⟨g, cap, cur, rfl, h1, (hk.block g (Array.getElem?_eq_some_iff.1 h2).1).trans h2, h3⟩
/-- where the loop of Subst stands -/
structure SbI (B : BQ) (w : World) (x1 x2 x3 : Obj) (acc : List Ty) (u : Value) (wr : World) : Prop where
  bl : Below w.heap.size w wr
  b1 : wr.heap[w.heap.size]? = some x1
  b2 : wr.heap[w.heap.size + 1]? = some x2
  b3 : wr.heap[w.heap.size + 2]? = some x3
  row : RowT (w.heap.size + 3) (fun b => (B b ∧ b < w.heap.size) ∨ w.heap.size + 3 ≤ b) wr u acc
theorem bx7_set6 {w : World} {X : Nat} {a b c d e f g v : Value} {T : TypeId} (h : w.heap[X]? = some (.cells #[a, b, c, d, e, f, g] T (0, 0))) : (w.setCell ⟨X, 6, none⟩ v).heap[X]? = some (.cells #[a, b, c, d, e, f, v] T (0, 0)) := by
  simp [World.setCell, Array.getElem?_modify, h]
/-- a type more in the row, and the row stored -/
theorem SbI.push {B : BQ} {w : World} {x1 x2 : Obj} {p0 p1 p2 p3 p4 p5 : Value} {acc : List Ty} {u : Value} {wr w1 w9 : World} {y : Ty} {vn vm vk : Value} {vs : List V3} {gg cap : Nat}
    (h1 : wr.heap[w.heap.size]? = some x1) (h2 : wr.heap[w.heap.size + 1]? = some x2) (h3 : wr.heap[w.heap.size + 2]? = some (.cells #[p0, p1, p2, p3, p4, p5, u] 29 (0, 0))) (hb : Below w.heap.size w wr)
    (hvl : vs.length = acc.length) (hlt : ∀ k, u.ownBlock = some k → w.heap.size + 3 ≤ k ∧ k < wr.heap.size)
    (hsv : ∀ i (hi : i < acc.length), Prt (fun b => ((B b ∧ b < w.heap.size) ∨ w.heap.size + 3 ≤ b) ∧ u.ownBlock ≠ some b) wr acc[i] (vs[i]'(hvl ▸ hi)).n (vs[i]'(hvl ▸ hi)).m (vs[i]'(hvl ▸ hi)).k)
    (hb1 : Below wr.heap.size wr w1) (hy : Prt (fun b => (B b ∧ b < w.heap.size) ∨ wr.heap.size ≤ b) w1 y vn vm vk)
    (hg : (w1.alloc (.cells (cel y ⟨vn, vm, vk⟩).toArray 29)).grownBy w9 u.ownBlock) (hat : u.ownBlock = some gg ∨ gg = w1.heap.size + 1)
    (hown : w9.ownsRow (w.heap.size + 3) 29 7 (.slice (some ⟨gg, 0, none⟩) (acc.length + 1) cap) (acc.length + 1) (flatT acc vs ++ cel y ⟨vn, vm, vk⟩)) :
    SbI B w x1 x2 (.cells #[p0, p1, p2, p3, p4, p5, .slice (some ⟨gg, 0, none⟩) (acc.length + 1) cap] 29 (0, 0)) (acc ++ [y]) (.slice (some ⟨gg, 0, none⟩) (acc.length + 1) cap) (w9.setCell ⟨w.heap.size + 2, 6, none⟩ (.slice (some ⟨gg, 0, none⟩) (acc.length + 1) cap)) := by
  have hz := hb.size
  have hz1 := hb1.size
  have hx3 : w.heap.size + 2 < wr.heap.size := (Array.getElem?_eq_some_iff.1 h3).1
  have hba : Below w1.heap.size w1 (w1.alloc (.cells (cel y ⟨vn, vm, vk⟩).toArray 29)) := below_alloc _ _
  have hb2 : Below wr.heap.size wr (w1.alloc (.cells (cel y ⟨vn, vm, vk⟩).toArray 29)) := bthen hb1 hba
  have hk9 := grownBy_kx hg
  have hks : Kx (· = w.heap.size + 2) w9 (w9.setCell ⟨w.heap.size + 2, 6, none⟩ (.slice (some ⟨gg, 0, none⟩) (acc.length + 1) cap)) := kx_set
  have go9 : ∀ b o, b < w.heap.size + 3 → wr.heap[b]? = some o → w9.heap[b]? = some o := fun b o h4 h5 => hk9.keep b o (blk_kept hb2 h5) (fun e => by have := (hlt b e).1; omega)
  have hrow : RowT (w.heap.size + 3) (fun b => (B b ∧ b < w.heap.size) ∨ w.heap.size + 3 ≤ b) w9 (.slice (some ⟨gg, 0, none⟩) (acc.length + 1) cap) (acc ++ [y]) := by
    have hj := RowT.join (base := w.heap.size + 3) (K := fun b => (B b ∧ b < w.heap.size) ∨ w.heap.size + 3 ≤ b) (W := w1.alloc (.cells (cel y ⟨vn, vm, vk⟩).toArray 29)) (W1 := w9) (v := u) (l := acc) (l2 := [y]) (vs := vs) (vs2 := [⟨vn, vm, vk⟩]) hvl (fun i hi => (hsv i hi).kept hb2) rfl (fun i hi => by
      have hi0 : i = 0 := by simp at hi; omega
      subst hi0
      exact (hy.kept hba).with (fun b _ hb => ⟨by rcases hb with hb | hb; exact .inl hb; exact .inr (by omega), fun e => by
        have := hlt b e
        rcases hb with hb | hb
        · omega
        · omega⟩)) (g := gg) (cap := cap) hg (by rcases hat with h | h; exact .inl h; exact .inr (by simp [h])) (by simpa [flatT] using hown)
    simpa using hj
  refine ⟨⟨?_, ?_, ?_, ?_, ?_⟩, ?_, ?_, ?_, ?_⟩
  · rw [hks.os, hk9.os, hb2.os, hb.os]
  · rw [hks.tape, hk9.tape, hb2.tape, hb.tape]
  · rw [hks.output, hk9.output, hb2.output, hb.output]
  · exact Nat.le_trans hz (Nat.le_trans hb2.size (Nat.le_trans hk9.size hks.size))
  · intro k hk
    have h5 := hb.block k hk
    have h6 : w.heap[k]? = some w.heap[k] := by simp [hk]
    rw [h6] at h5 ⊢
    exact hks.keep k _ (go9 k _ (by omega) h5) (by omega)
  · exact hks.keep _ _ (go9 _ _ (by omega) h1) (by omega)
  · exact hks.keep _ _ (go9 _ _ (by omega) h2) (by omega)
  · exact bx7_set6 (go9 _ _ (by omega) h3)
  · refine hrow.to hks (fun b hb e => ?_) (fun b _ hb e => ?_)
    · have := (hrow.lt b hb).1; omega
    · rcases hb with hb | hb <;> omega
end Go.Proofs.Ytdofhlmffponoaa

/-
  types.fresh: the step, walked.
-/
namespace Go.Proofs.Ytdofhlmffponoaa
open Go.RowKit
attribute [local go_sem ↓] Go.wp_at_zero Go.wp_at_succ
theorem Src.kept {w w' : World} {v : Value} {n : Nat} {l : List Value} (h : Src w v n l) (hb : Below w.heap.size w w') : Src w' v n l := by
  cases h with
  | nil c => exact .nil c
  | non a c => exact .non a c
  | row b o n c l h => exact .row b o n c l (fun j u hj => kept_cell hb (h j u hj))
theorem Src.form {w : World} {v : Value} {n : Nat} {l : List Value} (h : Src w v n l) : ∃ a c, v = .slice a n c := by cases h <;> exact ⟨_, _, rfl⟩
/-- three clones: of names, marks, kids -/
structure Cl3 (w : World) (vn vm vk : Value) (ln lm lk : Nat) (xn xm xk : List Value) (w3 : World) : Prop where
  bl : Below w.heap.size w w3
  n : w3.ownsRow w.heap.size 9 1 vn ln xn
  m : w3.ownsRow w.heap.size 4 1 vm lm xm
  k : w3.ownsRow w.heap.size 29 7 vk lk xk
  nm : ∀ j, vn.ownBlock = some j → vm.ownBlock ≠ some j
  nk : ∀ j, vn.ownBlock = some j → vk.ownBlock ≠ some j
  mk9 : ∀ j, vm.ownBlock = some j → vk.ownBlock ≠ some j
theorem set3_size (w : World) (b o : Nat) (x y z : Value) : (((w.setCell ⟨b, o + 4, none⟩ x).setCell ⟨b, o + 5, none⟩ y).setCell ⟨b, o + 6, none⟩ z).heap.size = w.heap.size := by simp
theorem set3_cell {w : World} {b o : Nat} {x y z z0 : Value} (h6 : w.cell? ⟨b, o + 6, none⟩ = some z0) :
    (((w.setCell ⟨b, o + 4, none⟩ x).setCell ⟨b, o + 5, none⟩ y).setCell ⟨b, o + 6, none⟩ z).cell? ⟨b, o + 6, none⟩ = some z := by
  have e1 : (w.setCell ⟨b, o + 4, none⟩ x).cell? ⟨b, o + 6, none⟩ = w.cell? ⟨b, o + 6, none⟩ := by apply World.cell?_setCell_other; simp
  have e2 : ((w.setCell ⟨b, o + 4, none⟩ x).setCell ⟨b, o + 5, none⟩ y).cell? ⟨b, o + 6, none⟩ = (w.setCell ⟨b, o + 4, none⟩ x).cell? ⟨b, o + 6, none⟩ := by apply World.cell?_setCell_other; simp
  exact World.cell?_setCell_same' _ _ _ (by rw [e2, e1, h6]; rfl)
/-- what the step answers -/
structure F1Q (w : World) (b o ln lm lk : Nat) (xn xm xk : List Value) (e : Ending) (w' : World) : Prop where
  ex : ∃ a c vn vm vk w3 kb, Cl3 w vn vm vk ln lm lk xn xm xk w3 ∧ (∃ a3 c3, vk = .slice a3 lk c3 ∧ (0 < lk → a3 = some ⟨kb, 0, none⟩)) ∧ e = .returned (.tuple #[.slice a lk c, .bool true]) ∧
      w'.ownsRow w3.heap.size 80 1 (.slice a lk c) lk ((kidA kb 0 lk).map pv) ∧ Below w3.heap.size (((w3.setCell ⟨b, o + 4, none⟩ vn).setCell ⟨b, o + 5, none⟩ vm).setCell ⟨b, o + 6, none⟩ vk) w'
theorem fresh1_end {w w1 w2 w3 w5 : World} {b o ln lm lk c1 c2 c3 c5 kb : Nat} {a1 a2 a3 a5 : Option Addr} {xn xm xk : List Value} (HB3 : Hid (Below w.heap.size w w3)) (HB12 : Hid (Below w1.heap.size w1 w2)) (HB23 : Hid (Below w2.heap.size w2 w3)) (hw : w.heap.size ≤ w1.heap.size)
    (HR1 : Hid (w1.ownsRow w.heap.size 9 1 (.slice a1 ln c1) ln xn)) (HR2 : Hid (w2.ownsRow w1.heap.size 4 1 (.slice a2 lm c2) lm xm)) (HR3 : Hid (w3.ownsRow w2.heap.size 29 7 (.slice a3 lk c3) lk xk)) (hkb : 0 < lk → a3 = some ⟨kb, 0, none⟩)
    (HR5 : Hid (w5.ownsRow (((w3.setCell ⟨b, o + 4, none⟩ (.slice a1 ln c1)).setCell ⟨b, o + 5, none⟩ (.slice a2 lm c2)).setCell ⟨b, o + 6, none⟩ (.slice a3 lk c3)).heap.size 80 1 (.slice a5 lk c5) lk ((kidA kb 0 lk).map pv)))
    (HB5 : Hid (Below (((w3.setCell ⟨b, o + 4, none⟩ (.slice a1 ln c1)).setCell ⟨b, o + 5, none⟩ (.slice a2 lm c2)).setCell ⟨b, o + 6, none⟩ (.slice a3 lk c3)).heap.size (((w3.setCell ⟨b, o + 4, none⟩ (.slice a1 ln c1)).setCell ⟨b, o + 5, none⟩ (.slice a2 lm c2)).setCell ⟨b, o + 6, none⟩ (.slice a3 lk c3)) w5)) :
    F1Q w b o ln lm lk xn xm xk (.returned (.tuple #[.slice a5 lk c5, .bool true])) w5 := by
  have h5 := HR5.out
  have hb5 := HB5.out
  rw [set3_size] at h5 hb5
  have z1 := HB12.out.size
  have z2 := HB23.out.size
  have l1 := HR1.out.lt
  have l2 := HR2.out.lt
  have l3 := HR3.out.lt
  refine ⟨a5, c5, .slice a1 ln c1, .slice a2 lm c2, .slice a3 lk c3, w3, kb, ⟨HB3.out, ?_, ?_, ownsRow_down HR3.out (by omega), ?_, ?_, ?_⟩, ⟨a3, c3, rfl, hkb⟩, rfl, h5, hb5⟩
  · exact own_kept HR1.out (bthen HB12.out HB23.out)
  · exact own_kept (ownsRow_down HR2.out hw) HB23.out
  · intro j h1 h2; have := l1 j h1; have := l2 j h2; omega
  · intro j h1 h2; have := l1 j h1; have := l3 j h2; omega
  · intro j h1 h2; have := l2 j h1; have := l3 j h2; omega
set_option maxRecDepth 100000 in
set_option maxHeartbeats 8000000 in
theorem fresh1_any {w : World} {b o ln lm lk cn cm ck : Nat} {an am ak : Option Addr} {xn xm xk : List Value} (h4 : w.cell? ⟨b, o + 4, none⟩ = some (.slice an ln cn)) (h5 : w.cell? ⟨b, o + 5, none⟩ = some (.slice am lm cm)) (h6 : w.cell? ⟨b, o + 6, none⟩ = some (.slice ak lk ck))
    (f4 : w.frozen? ⟨b, o + 4, none⟩ = false) (f5 : w.frozen? ⟨b, o + 5, none⟩ = false) (f6 : w.frozen? ⟨b, o + 6, none⟩ = false)
    (s4 : Src w (.slice an ln cn) ln xn) (s5 : Src w (.slice am lm cm) lm xm) (s6 : Src w (.slice ak lk ck) lk xk) (l4 : xn.length = ln * 1) (l5 : xm.length = lm * 1) (l6 : xk.length = lk * 7)
    (o4 : ∀ u ∈ xn, u.oneCell' = true) (o5 : ∀ u ∈ xm, u.oneCell' = true) (o6 : ∀ u ∈ xk, u.oneCell' = true) (b4 : ln * 16 ≤ 140737488355328) (b5 : lm * 1 ≤ 140737488355328) (b6 : lk ≤ 1000000) :
    Calls Try.prog 30 #[pv ⟨b, o, none⟩] w (F1Q w b o ln lm lk xn xm xk) := by
  have hb : b < w.heap.size := World.block_lt_of_cell? _ _ h4
  have hc1 := cloneS (s4.kept (below_drew1 w)) l4 o4 b4
  have HS5 : Hid (Src w (.slice am lm cm) lm xm) := s5
  have HS6 : Hid (Src w (.slice ak lk ck) lk xk) := s6
  clear s4 s5 s6
  go_enter Try.func30, Try.ntmps30
  go_wp2_with fail
  go_region_law
    (go_simp; go_wp2_with (first
      | (go_at_call 31; refine hc1.mono ?_; intro e w1 hq; obtain ⟨a1, c1, rfl, hr1⟩ := hq.slice; have hbw1 : Below w.heap.size w w1 := bthen (below_drew1 w) hq.bl; have HR1 : Hid (w1.ownsRow w.heap.size 9 1 (.slice a1 ln c1) ln xn) := hr1; have HB1 : Hid (Below w.heap.size w w1) := hbw1; have k5 : w1.cell? ⟨b, o + 5, none⟩ = some (.slice am lm cm) := kept_cell hbw1 h5; have k6 : w1.cell? ⟨b, o + 6, none⟩ = some (.slice ak lk ck) := kept_cell hbw1 h6; have hc2 := cloneB (HS5.out.kept hbw1) l5 o5 b5; clear hq hr1 hc1 hbw1)
      | (go_at_call 32; refine hc2.mono ?_; intro e w2 hq; obtain ⟨a2, c2, rfl, hr2⟩ := hq.slice; have hbw2 : Below w.heap.size w w2 := HB1.out.trans (hq.bl.mono HB1.out.size); have HB12 : Hid (Below w1.heap.size w1 w2) := hq.bl; have HR2 : Hid (w2.ownsRow w1.heap.size 4 1 (.slice a2 lm c2) lm xm) := hr2; have HB2 : Hid (Below w.heap.size w w2) := hbw2; have m6 : w2.cell? ⟨b, o + 6, none⟩ = some (.slice ak lk ck) := kept_cell hbw2 h6; have hc3 := cloneT (HS6.out.kept hbw2) l6 o6 (by omega); clear hq hr2 hc2 hbw2)
      | (go_at_call 33; refine hc3.mono ?_; intro e w3 hq; obtain ⟨a3, c3, rfl, hr3⟩ := hq.slice; have hbw3 : Below w.heap.size w w3 := HB2.out.trans (hq.bl.mono HB2.out.size); have HB23 : Hid (Below w2.heap.size w2 w3) := hq.bl; have HR3 : Hid (w3.ownsRow w2.heap.size 29 7 (.slice a3 lk c3) lk xk) := hr3; have HB3 : Hid (Below w.heap.size w w3) := hbw3; have n4 : w3.cell? ⟨b, o + 4, none⟩ = some (.slice an ln cn) := kept_cell hbw3 h4; have n5 : w3.cell? ⟨b, o + 5, none⟩ = some (.slice am lm cm) := kept_cell hbw3 h5; have n6 : w3.cell? ⟨b, o + 6, none⟩ = some (.slice ak lk ck) := kept_cell hbw3 h6; have g4 : w3.frozen? ⟨b, o + 4, none⟩ = false := (hbw3.frozen (p := ⟨b, o + 4, none⟩) hb).trans f4; have g5 : w3.frozen? ⟨b, o + 5, none⟩ = false := (hbw3.frozen (p := ⟨b, o + 5, none⟩) hb).trans f5; have g6 : w3.frozen? ⟨b, o + 6, none⟩ = false := (hbw3.frozen (p := ⟨b, o + 6, none⟩) hb).trans f6; clear hq hr3 hc3 hbw3)
      ))
  all_goals
    obtain ⟨kb, hkb⟩ : ∃ kb, 0 < lk → a3 = some ⟨kb, 0, none⟩ := by
      rcases HR3.out.2 with ⟨_, h0⟩ | ⟨g, cap, cur, h0, _⟩
      · exact ⟨0, fun h => by omega⟩
      · exact ⟨g, fun _ => by cases h0; rfl⟩
    have hk6 : (((w3.setCell ⟨b, o + 4, none⟩ (.slice a1 ln c1)).setCell ⟨b, o + 5, none⟩ (.slice a2 lm c2)).setCell ⟨b, o + 6, none⟩ (.slice a3 lk c3)).cell? ⟨b, o + 6, none⟩ = some (.slice a3 lk c3) := set3_cell n6
    have hkd := kids_any (kb := kb) (ko := 0) hk6 hkb b6
    clear hk6 h4 h5 h6 f4 f5 f6 n4 n5 n6 g4 g5 g6 k5 k6 m6
    go_wp2_with (go_at_call 34; refine hkd.mono ?_; intro e w5 hq; obtain ⟨a5, c5, rfl, hr5⟩ := hq.ex; rw [kidA_len] at hr5; rw [kidA_len]; have HR5 : Hid _ := hr5; have HB5 : Hid _ := hq.bl; clear hq hr5 hkd)
    go_ret2
    exact fresh1_end HB3 HB12 HB23 HB1.out.size HR1 HR2 HR3 hkb HR5 HB5
end Go.Proofs.Ytdofhlmffponoaa

/-
  types.fresh: what stands between two steps, in plain words.
-/
namespace Go.Proofs.Ytdofhlmffponoaa
open Go.RowKit
mutual
/-- how many types -/
def Ty.cnt : Ty → Nat
  | .mk _ _ _ _ _ _ ks => cntL ks + 1
def cntL : List Ty → Nat
  | [] => 0
  | x :: r => x.cnt + cntL r
end
theorem Ty.cnt_eq (t : Ty) : t.cnt = cntL t.kids + 1 := by cases t; simp [Ty.cnt, Ty.kids]
theorem cntL_cons (x : Ty) (r : List Ty) : cntL (x :: r) = x.cnt + cntL r := by simp [cntL]
theorem cntL_append (a b : List Ty) : cntL (a ++ b) = cntL a + cntL b := by
  induction a with
  | nil => simp [cntL]
  | cons x r ih => simp [cntL, ih]; omega
theorem cntL_len (l : List Ty) : l.length ≤ cntL l := by
  induction l with
  | nil => simp
  | cons x r ih => have := x.cnt_eq; simp [cntL]; omega
theorem tszL_cnt (ks : List Ty) (ih : ∀ x ∈ ks, ∀ m, 0 ≤ m → x.tsz m ≤ m → (x.cnt : Int) ≤ x.tsz m) : ∀ m s, 1 ≤ s → tszL ks m s ≤ m → s + (cntL ks : Int) ≤ tszL ks m s := by
  induction ks with
  | nil => intro m s h1 h3; simp [tszL, cntL]
  | cons x r ih2 =>
    intro m s h1 h3
    simp only [tszL] at h3 ⊢
    by_cases hs : s ≤ m
    · rw [if_pos hs] at h3 ⊢
      have hx := tsz_le x (m - s) (by omega)
      have h4 := ih2 (fun y hy => ih y (by simp [hy])) m (s + x.tsz (m - s)) (by omega) h3
      have h5 := ih x (by simp) (m - s) (by omega) (by omega)
      rw [cntL_cons]; omega
    · rw [if_neg hs] at h3; omega
theorem tsz_cnt : ∀ t : Ty, ∀ m, 0 ≤ m → t.tsz m ≤ m → (t.cnt : Int) ≤ t.tsz m :=
  Ty.ind fun k nm n f ns ms ks ih m h0 h2 => by
    simp only [Ty.tsz] at h2 ⊢
    have := tszL_cnt ks ih m 1 (by omega) h2
    simp [Ty.cnt]; omega
/-- names and marks that can be copied -/
inductive Fit : Ty → Prop
  | mk (t : Ty) : t.names.length * 16 ≤ 140737488355328 → t.marks.length * 1 ≤ 140737488355328 → (∀ x ∈ t.kids, Fit x) → Fit t
theorem Fit.n {t : Ty} (h : Fit t) : t.names.length * 16 ≤ 140737488355328 := by cases h; assumption
theorem Fit.m {t : Ty} (h : Fit t) : t.marks.length * 1 ≤ 140737488355328 := by cases h; assumption
theorem Fit.k {t : Ty} (h : Fit t) : ∀ x ∈ t.kids, Fit x := by cases h; assumption
/-- a type that is still to be made anew: where it stands, and what it is -/
structure Pnd where
  b : Nat
  o : Nat
  t : Ty
def Pnd.a (p : Pnd) : Addr := ⟨p.b, p.o, none⟩
/-- the cells that its step will write -/
def Pnd.hit (p : Pnd) (a : Addr) : Prop := a.block = p.b ∧ a.spot = none ∧ (a.off = p.o + 4 ∨ a.off = p.o + 5 ∨ a.off = p.o + 6)
def Pnd.far (p q : Pnd) : Prop := p.b ≠ q.b ∨ p.o + 7 ≤ q.o ∨ q.o + 7 ≤ p.o
theorem Pnd.far.symm {p q : Pnd} (h : p.far q) : q.far p := by unfold Pnd.far at *; omega
theorem Pnd.far.not_hit {p q : Pnd} (h : p.far q) {i : Nat} (hi : i < 7) : ¬ q.hit ⟨p.b, p.o + i, none⟩ := fun ⟨h1, _, h3⟩ => by
  simp only at h1 h3
  unfold Pnd.far at h
  omega
theorem Pnd.not_hit {p : Pnd} {i : Nat} (hi : i < 4) : ¬ p.hit ⟨p.b, p.o + i, none⟩ := fun ⟨_, _, h3⟩ => by simp only at h3; omega
/-- what lies in blocks of X, but for what will be written, lies there still -/
def Ag (X : Nat → Prop) (ps : List Pnd) (W W' : World) : Prop := ∀ a v, X a.block → W.cell? a = some v → (∀ p ∈ ps, ¬ p.hit a) → W'.cell? a = some v
/-- if those that are to come will lie well, C will hold -/
def Wd (B : BQ) (C : World → Prop) (X : Nat → Prop) (ps : List Pnd) (W : World) : Prop :=
  ∀ W', Ag X ps W W' → W.heap.size ≤ W'.heap.size → (∀ p ∈ ps, p.t.lies B W' p.b p.o) → C W'
theorem Wd.stable {B : BQ} {C : World → Prop} {X : Nat → Prop} {ps : List Pnd} {W W' : World} (hw : Wd B C X ps W) (hk : Kx (fun b => ¬ X b) W W') : Wd B C X ps W' := by
  intro W2 hag hs hl
  refine hw W2 (fun a v ha hv hn => hag a v ha ?_ hn) (Nat.le_trans hk.size hs) hl
  exact hk.cell hv (fun h => h ha)
/-- a plain block -/
def NB (W : World) (b : Nat) : Prop := ∃ cs T, W.heap[b]? = some (.cells cs T (0, 0))
theorem NB.frozen {W : World} {b : Nat} (h : NB W b) (o : Nat) : W.frozen? ⟨b, o, none⟩ = false := by
  obtain ⟨cs, T, h⟩ := h
  simp [World.frozen?, h]
theorem NB.lt {W : World} {b : Nat} (h : NB W b) : b < W.heap.size := by obtain ⟨cs, T, h⟩ := h; exact (Array.getElem?_eq_some_iff.1 h).1
theorem NB.set {W : World} {b : Nat} (h : NB W b) (a : Addr) (v : Value) : NB (W.setCell a v) b := by
  obtain ⟨cs, T, h⟩ := h
  by_cases e : b = a.block
  · subst e
    obtain ⟨hlt, hk⟩ := Array.getElem?_eq_some_iff.1 h
    unfold NB World.setCell
    refine ⟨if a.spot.isSome = true then cs else cs.setIfInBounds a.off v, T, ?_⟩
    show (W.heap.modify a.block _)[a.block]? = _
    rw [Array.getElem?_eq_getElem (by rw [Array.size_modify]; exact hlt), Array.getElem_modify_self, hk]
  · exact ⟨cs, T, (Below.heap_setCell _ _ _ b e).trans h⟩
theorem NB.kept {W W' : World} {b : Nat} (h : NB W b) (hk : Below W.heap.size W W') : NB W' b := by
  obtain ⟨cs, T, h⟩ := h
  exact ⟨cs, T, blk_kept hk h⟩
theorem NB.kx {X : Nat → Prop} {W W' : World} {b : Nat} (h : NB W b) (hk : Kx X W W') (hb : ¬ X b) : NB W' b := by
  obtain ⟨cs, T, h⟩ := h
  exact ⟨cs, T, hk.keep _ _ h hb⟩
/-- where one stands that is still to come: its cells are its own, what they name is old -/
structure PdI (N0 : Nat) (W : World) (p : Pnd) : Prop where
  n0 : N0 ≤ p.b
  nb : NB W p.b
  ex : ∃ vn vm vk, (W.cell? ⟨p.b, p.o, none⟩ = some (.int .i64 p.t.kind) ∧ W.cell? ⟨p.b, p.o + 1, none⟩ = some (.string p.t.name) ∧ W.cell? ⟨p.b, p.o + 2, none⟩ = some (.int .i64 p.t.n) ∧ W.cell? ⟨p.b, p.o + 3, none⟩ = some (.bool p.t.flag)) ∧
    (W.cell? ⟨p.b, p.o + 4, none⟩ = some vn ∧ W.cell? ⟨p.b, p.o + 5, none⟩ = some vm ∧ W.cell? ⟨p.b, p.o + 6, none⟩ = some vk) ∧ Prt (fun b => b < N0) W p.t vn vm vk
/-- a slice whose block is all its own -/
inductive OwnK (W : World) (n : Nat) : Value → Prop
  | nil (h : n = 0) : OwnK W n (.slice none 0 0)
  | row (kb cap : Nat) (cur : Array Value) (hc : n ≤ cap) (hm : cap ≤ maxLen) (hb : W.heap[kb]? = some (.cells cur 29 (0, 0))) (hs : cur.size = cap * 7) : OwnK W n (.slice (some ⟨kb, 0, none⟩) n cap)
theorem OwnK.of {W : World} {base n : Nat} {v : Value} {xs : List Value} (h : W.ownsRow base 29 7 v n xs) : OwnK W n v := by
  rcases h.2 with ⟨rfl, h0⟩ | ⟨g, cap, cur, rfl, _, h1, h2, h3, h4, _⟩
  · exact .nil h0
  · exact .row g cap cur h2 h3 h1 h4
theorem OwnK.kx {X : Nat → Prop} {W W' : World} {n : Nat} {v : Value} (h : OwnK W n v) (hk : Kx X W W') (hx : ∀ k, v.ownBlock = some k → ¬ X k) : OwnK W' n v := by
  cases h with
  | nil h => exact .nil h
  | row kb cap cur hc hm hb hs => exact .row kb cap cur hc hm (hk.keep _ _ hb (hx kb rfl)) hs
theorem OwnK.set {W : World} {n : Nat} {v : Value} (h : OwnK W n v) (a : Addr) (u : Value) : OwnK (W.setCell a u) n v := by
  cases h with
  | nil h => exact .nil h
  | row kb cap cur hc hm hb hs =>
    by_cases e : kb = a.block
    · subst e
      obtain ⟨hlt, hk⟩ := Array.getElem?_eq_some_iff.1 hb
      refine .row a.block cap (if a.spot.isSome = true then cur else cur.setIfInBounds a.off u) hc hm ?_ (by split <;> simp [hs])
      show (W.heap.modify a.block _)[a.block]? = _
      rw [Array.getElem?_eq_getElem (by rw [Array.size_modify]; exact hlt), Array.getElem_modify_self, hk]
    · exact .row kb cap cur hc hm ((Below.heap_setCell _ _ _ kb e).trans hb) hs
/-- the kids of a type lie in a row of their own, what they hold elsewhere -/
def KidsO (N : Nat) (ks : List Ty) (v : Value) (W : World) : Prop := ∀ g, v.ownBlock = some g → ∀ i (hi : i < ks.length), (ks[i]).lies (fun b => N ≤ b ∧ b ≠ g) W g (i * 7)
/-- the root is still to come, or its kids are all its own -/
def RtI (root : Ty) (T0 N1 : Nat) (X : Nat → Prop) (l : List Addr) (ps : List Pnd) (W : World) : Prop :=
  l = [⟨T0, 0, none⟩] ∨ ((∀ a ∈ l, a.block ≠ T0) ∧ ∃ v, W.cell? ⟨T0, 6, none⟩ = some v ∧ OwnK W root.kids.length v ∧ (∀ k, v.ownBlock = some k → X k) ∧ Wd (fun b => N1 ≤ b ∧ v.ownBlock ≠ some b) (fun W' => ∀ g, v.ownBlock = some g → ∀ i (hi : i < root.kids.length), (root.kids[i]).lies (fun b => N1 ≤ b ∧ v.ownBlock ≠ some b) W' g (i * 7)) X ps W)
/-- between two steps -/
structure FrI (w0 : World) (N0 : Nat) (root : Ty) (T0 : Nat) (g : Nat) (X : Nat → Prop) (l : List Addr) (W : World) : Prop where
  old : Kx (· = T0) w0 W
  n0 : N0 ≤ w0.heap.size
  all : ∀ b, b < w0.heap.size → X b
  lt : ∀ b, X b → b < W.heap.size
  t0 : T0 < w0.heap.size
  gb : g ≤ 1000000
  tx : X T0
  ex : ∃ ps : List Pnd, ps.map Pnd.a = l ∧ cntL (ps.map Pnd.t) = g ∧ (∀ p ∈ ps, PdI N0 W p ∧ X p.b ∧ Fit p.t ∧ ((p.b = T0 ∧ p.t = root) ∨ w0.heap.size ≤ p.b)) ∧ ps.Pairwise Pnd.far ∧ Wd (fun b => w0.heap.size ≤ b) (fun W' => root.lies (fun b => w0.heap.size ≤ b) W' T0 0) X ps W ∧ RtI root T0 w0.heap.size X l ps W
section
variable {w0 : World} {N0 : Nat} {root : Ty} {T0 g : Nat} {X : Nat → Prop} {l : List Addr} {W W' : World}
theorem PdI.to {p : Pnd} (h : PdI N0 W p) (hc : ∀ i, i < 7 → ∀ v, W.cell? ⟨p.b, p.o + i, none⟩ = some v → W'.cell? ⟨p.b, p.o + i, none⟩ = some v) (hn : NB W' p.b) {Y : Nat → Prop} (hk : Kx Y W W') (hY : ∀ b, b < N0 → ¬ Y b) : PdI N0 W' p := by
  obtain ⟨vn, vm, vk, ⟨h0, h1, h2, h3⟩, ⟨h4, h5, h6⟩, hp⟩ := h.ex
  have e0 := hc 0 (by omega) _ h0
  rw [Nat.add_zero] at e0
  refine ⟨h.n0, hn, vn, vm, vk, ⟨e0, hc 1 (by omega) _ h1, hc 2 (by omega) _ h2, hc 3 (by omega) _ h3⟩, ⟨hc 4 (by omega) _ h4, hc 5 (by omega) _ h5, hc 6 (by omega) _ h6⟩, ?_⟩
  exact hp.to hk (fun _ _ h => h) (fun b _ h => hY b h)
theorem FrI.stable (h : FrI w0 N0 root T0 g X l W) (hk : Kx (fun b => ¬ X b) W W') : FrI w0 N0 root T0 g X l W' := by
  obtain ⟨ps, e1, e2, hp, hd, hw, hrt⟩ := h.ex
  have hn0 := h.n0
  refine ⟨h.old.andThen hk (fun _ _ h => h) (fun b hb hx => absurd (h.all b hb) hx), h.n0, h.all, fun b hb => Nat.lt_of_lt_of_le (h.lt b hb) hk.size, h.t0, h.gb, h.tx, ps, e1, e2, fun p hp' => ?_, hd, hw.stable hk, ?_⟩
  · obtain ⟨h1, h2, h3⟩ := hp p hp'
    exact ⟨h1.to (fun i _ v hv => hk.cell hv (fun h => h h2)) (h1.nb.kx hk (fun h => h h2)) hk (fun b hb hx => hx (h.all b (by omega))), h2, h3⟩
  · rcases hrt with h1 | ⟨h1, v, h2, h3, h4, h5⟩
    · exact .inl h1
    · exact .inr ⟨h1, v, hk.cell h2 (fun hx => hx h.tx), h3.kx hk (fun k hk' hx => hx (h4 k hk')), h4, h5.stable hk⟩
theorem FrI.len (h : FrI w0 N0 root T0 g X l W) : l.length ≤ 1000000 := by
  obtain ⟨ps, e1, e2, _⟩ := h.ex
  have := h.gb
  have h1 := cntL_len (ps.map Pnd.t)
  rw [e2, List.length_map] at h1
  rw [← e1, List.length_map]; omega
theorem FrI.own (h : FrI w0 N0 root T0 g X [] W) : ∃ v, W.cell? ⟨T0, 6, none⟩ = some v ∧ OwnK W root.kids.length v ∧ KidsO w0.heap.size root.kids v W := by
  obtain ⟨ps, e1, e2, hp, hd, hw, hrt⟩ := h.ex
  obtain rfl : ps = [] := by simpa using e1
  rcases hrt with h1 | ⟨_, v, h2, h3, _, h5⟩
  · cases h1
  · refine ⟨v, h2, h3, fun g hg i hi => ?_⟩
    have := h5 W (fun a v _ h _ => h) (Nat.le_refl _) (fun p hp => by cases hp) g hg i hi
    exact lies_to (X := fun _ => False) (Kx.refl _ _) (fun b _ h => ⟨h.1, fun e => h.2 (e ▸ hg)⟩) (fun _ _ _ h => h) _ _ _ (fun h => h) this
theorem FrI.done (h : FrI w0 N0 root T0 g X [] W) : root.lies (fun b => w0.heap.size ≤ b) W T0 0 := by
  obtain ⟨ps, e1, e2, hp, hd, hw, _⟩ := h.ex
  obtain rfl : ps = [] := by simpa using e1
  exact hw W (fun a v _ h _ => h) (Nat.le_refl _) (fun p hp => by cases hp)
/-- a row of one's own in cells that are kept -/
theorem rowV_own {α : Type} {f : α → Value} {base n : Nat} {T : TypeId} {v : Value} {l : List α} {w W2 : World} {B : BQ} (h : w.ownsRow base T 1 v n (l.map f)) (hn : n = l.length) (hm : n ≤ 9223372036854775807) (hB : ∀ k, v.ownBlock = some k → B k) (hs : w.heap.size ≤ W2.heap.size)
    (hc : ∀ a u, v.ownBlock = some a.block → a.spot = none → w.cell? a = some u → W2.cell? a = some u) : RowV f B W2 v l := by
  subst hn
  rcases h.2 with ⟨rfl, h0⟩ | ⟨g, cap, cur, rfl, _, hg, _⟩
  · exact .inl ⟨none, 0, rfl, List.length_eq_zero_iff.1 h0⟩
  · refine .inr ⟨g, 0, cap, rfl, by omega, Nat.lt_of_lt_of_le (Array.getElem?_eq_some_iff.1 hg).1 hs, hB g rfl, fun i x hx => ?_⟩
    have := h.cells (g := g) rfl i (f x) (by simp [hx])
    rw [Addr.add_lit] at this
    exact hc _ _ rfl rfl this
theorem maxI {n k : Nat} (h : n * (k + 1) ≤ 140737488355328) : n ≤ 9223372036854775807 := by
  have := Nat.le_mul_of_pos_right n (show 0 < k + 1 by omega)
  omega
/-- the cells of a type's three slices -/
theorem RowV.src {α : Type} {f : α → Value} {B : BQ} {W : World} {v : Value} {l : List α} (h : RowV f B W v l) : Src W v l.length (l.map f) := by
  rcases h with ⟨a, c, rfl, rfl⟩ | ⟨b, o, c, rfl, hl, hb, h1, h2⟩
  · cases a with
    | none => exact .nil c
    | some a => exact .non a c
  · refine .row b o l.length c (l.map f) (fun j u hj => ?_)
    rw [List.getElem?_map] at hj
    cases hx : l[j]? with
    | none => rw [hx] at hj; cases hj
    | some x => rw [hx] at hj; obtain rfl : f x = u := by simpa using hj
                exact h2 j x hx
theorem SlT.src {B : BQ} {W : World} {v : Value} {l : List Ty} (h : SlT B W v l) : ∃ vs : List V3, ∃ hl : vs.length = l.length, Src W v l.length (flatT l vs) ∧ ∀ i (hi : i < l.length), Prt B W l[i] (vs[i]'(hl ▸ hi)).n (vs[i]'(hl ▸ hi)).m (vs[i]'(hl ▸ hi)).k := by
  rcases h with ⟨a, c, rfl, rfl⟩ | ⟨b, o, c, rfl, hl, hb1, hb, hL⟩
  · refine ⟨[], rfl, ?_, fun i hi => by cases hi⟩
    cases a with
    | none => exact .nil c
    | some a => exact .non a c
  · obtain ⟨vs, hvl, hc, hpr⟩ := liesT_flat l b o hL
    exact ⟨vs, hvl, .row b o l.length c _ hc, hpr⟩
/-- the kids that are to come -/
def kidP (kb : Nat) : List Ty → Nat → List Pnd
  | [], _ => []
  | x :: r, o => ⟨kb, o, x⟩ :: kidP kb r (o + 7)
theorem kidP_mem {kb : Nat} {p : Pnd} : ∀ (ks : List Ty) (o : Nat), p ∈ kidP kb ks o → ∃ i, ∃ hi : i < ks.length, p = ⟨kb, o + i * 7, ks[i]⟩
  | [], _, h => by cases h
  | x :: r, o, h => by
    rcases List.mem_cons.1 h with rfl | h
    · exact ⟨0, by simp, by simp⟩
    · obtain ⟨i, hi, e⟩ := kidP_mem r (o + 7) h
      exact ⟨i + 1, by simpa using hi, by rw [e]; simp; omega⟩
theorem kidP_in {kb : Nat} : ∀ (ks : List Ty) (o i : Nat) (hi : i < ks.length), (⟨kb, o + i * 7, ks[i]⟩ : Pnd) ∈ kidP kb ks o
  | x :: r, o, 0, _ => by simp [kidP]
  | x :: r, o, i + 1, hi => by
    refine List.mem_cons.2 (.inr ?_)
    have := kidP_in (kb := kb) r (o + 7) i (by simpa using hi)
    rw [show o + (i + 1) * 7 = o + 7 + i * 7 by omega]
    simpa using this
theorem kidP_t (kb : Nat) : ∀ (ks : List Ty) (o : Nat), (kidP kb ks o).map Pnd.t = ks
  | [], _ => rfl
  | x :: r, o => by simp [kidP, kidP_t kb r]
theorem kidA_cons (b o n : Nat) : kidA b o (n + 1) = ⟨b, o, none⟩ :: kidA b (o + 7) n := by
  simp only [kidA, List.range_succ_eq_map, List.map_cons, List.map_map, Nat.zero_mul, Nat.add_zero]
  congr 1
  apply List.map_congr_left
  intro i _
  simp only [Function.comp]
  congr 1
  omega
theorem kidP_a (kb : Nat) : ∀ (ks : List Ty) (o : Nat), (kidP kb ks o).map Pnd.a = kidA kb o ks.length
  | [], _ => rfl
  | x :: r, o => by rw [List.length_cons, kidA_cons, ← kidP_a kb r]; rfl
theorem kidP_far (kb : Nat) : ∀ (ks : List Ty) (o : Nat), (kidP kb ks o).Pairwise Pnd.far
  | [], _ => List.Pairwise.nil
  | x :: r, o => by
    refine List.Pairwise.cons (fun q hq => ?_) (kidP_far kb r (o + 7))
    obtain ⟨i, hi, rfl⟩ := kidP_mem r (o + 7) hq
    refine .inr (.inl ?_)
    show o + 7 ≤ o + 7 + i * 7
    omega
theorem set_far {w : World} {b o o' : Nat} {x : Value} {a : Addr} (h : ¬ (a.block = b ∧ a.spot = none ∧ a.off = o')) (ho : o' = o) : (w.setCell ⟨b, o, none⟩ x).cell? a = w.cell? a := by
  apply World.cell?_setCell_other
  rintro rfl
  exact h ⟨rfl, rfl, ho.symm⟩
theorem set3_far {w : World} {p : Pnd} {x y z : Value} {a : Addr} (h : ¬ p.hit a) : (((w.setCell ⟨p.b, p.o + 4, none⟩ x).setCell ⟨p.b, p.o + 5, none⟩ y).setCell ⟨p.b, p.o + 6, none⟩ z).cell? a = w.cell? a := by
  rw [set_far (fun e => h ⟨e.1, e.2.1, .inr (.inr e.2.2)⟩) rfl, set_far (fun e => h ⟨e.1, e.2.1, .inr (.inl e.2.2)⟩) rfl, set_far (fun e => h ⟨e.1, e.2.1, .inl e.2.2⟩) rfl]
theorem set3_own {w : World} {b o : Nat} {x y z x0 y0 z0 : Value} (h4 : w.cell? ⟨b, o + 4, none⟩ = some x0) (h5 : w.cell? ⟨b, o + 5, none⟩ = some y0) (h6 : w.cell? ⟨b, o + 6, none⟩ = some z0) :
    (((w.setCell ⟨b, o + 4, none⟩ x).setCell ⟨b, o + 5, none⟩ y).setCell ⟨b, o + 6, none⟩ z).cell? ⟨b, o + 4, none⟩ = some x ∧ (((w.setCell ⟨b, o + 4, none⟩ x).setCell ⟨b, o + 5, none⟩ y).setCell ⟨b, o + 6, none⟩ z).cell? ⟨b, o + 5, none⟩ = some y ∧ (((w.setCell ⟨b, o + 4, none⟩ x).setCell ⟨b, o + 5, none⟩ y).setCell ⟨b, o + 6, none⟩ z).cell? ⟨b, o + 6, none⟩ = some z := by
  refine ⟨?_, ?_, set3_cell h6⟩
  · rw [set_far (o' := o + 6) (by simp) rfl, set_far (o' := o + 5) (by simp) rfl]
    exact World.cell?_setCell_same' _ _ _ (by rw [h4]; rfl)
  · rw [set_far (o' := o + 6) (by simp) rfl]
    refine World.cell?_setCell_same' _ _ _ ?_
    rw [set_far (o' := o + 4) (by simp) rfl, h5]; rfl
theorem kx_set3 {w : World} {b o : Nat} {x y z : Value} : Kx (· = b) w (((w.setCell ⟨b, o + 4, none⟩ x).setCell ⟨b, o + 5, none⟩ y).setCell ⟨b, o + 6, none⟩ z) := (kx_set.trans kx_set).trans kx_set
theorem one_str {l : List ByteArray} : ∀ u ∈ l.map Value.string, u.oneCell' = true := fun u hu => by obtain ⟨x, _, rfl⟩ := List.mem_map.1 hu; rfl
theorem one_boo {l : List Bool} : ∀ u ∈ l.map Value.bool, u.oneCell' = true := fun u hu => by obtain ⟨x, _, rfl⟩ := List.mem_map.1 hu; rfl
/-- one step -/
theorem FrI.call {x : Addr} {r : List Addr} (h : FrI w0 N0 root T0 g X (x :: r) W) : Calls Try.prog 30 #[pv x] W (StQ (FrI w0 N0 root T0) (fun _ _ => False) g X r W) := by
  obtain ⟨ps, e1, e2, hp, hd, hw, hrt⟩ := h.ex
  cases ps with
  | nil => simp at e1
  | cons p qs =>
    obtain ⟨rfl, rfl⟩ : p.a = x ∧ qs.map Pnd.a = r := by simpa using e1
    obtain ⟨hpi, hpx, hpf, hpT⟩ := hp p (by simp)
    obtain ⟨hd1, hd2⟩ := List.pairwise_cons.1 hd
    obtain ⟨vn, vm, vk, ⟨h0, h1, h2, h3⟩, ⟨h4, h5, h6⟩, hpr⟩ := hpi.ex
    have sn := hpr.ns.src
    have sm := hpr.ms.src
    obtain ⟨vs, hvl, sk, hvp⟩ := hpr.ks.src
    have hg := h.gb
    have hcp := p.t.cnt_eq
    rw [List.map_cons, cntL_cons] at e2
    have hkl := cntL_len p.t.kids
    obtain ⟨an, cn, rfl⟩ := sn.form
    obtain ⟨am, cm, rfl⟩ := sm.form
    obtain ⟨ak, ck, rfl⟩ := sk.form
    have hst := fresh1_any h4 h5 h6 (hpi.nb.frozen _) (hpi.nb.frozen _) (hpi.nb.frozen _) sn sm sk (by simp) (by simp) (flatT_len _ vs hvl) one_str one_boo (flatT_one _ vs hvl fun i hi => (hvp i hi).one) hpf.n hpf.m (by omega)
    refine hst.mono ?_
    rintro e W5 ⟨a, c, un, um, uk, w3, kb, hcl, ⟨a3, c3, rfl, hkb⟩, rfl, hrow, hb5⟩
    have hpb := hpi.nb.lt
    have hz3 := hcl.bl.size
    have hz5 : w3.heap.size ≤ W5.heap.size := by have := hb5.size; rw [set3_size] at this; exact this
    have hn0 : N0 ≤ W.heap.size := by have := hpi.n0; omega
    have cellK : ∀ a u, ¬ p.hit a → w3.cell? a = some u → W5.cell? a = some u := fun a u ha hu =>
      (hb5.cell (World.block_lt_of_cell? _ _ hu)).trans ((set3_far ha).trans hu)
    have cellW : ∀ a u, ¬ p.hit a → W.cell? a = some u → W5.cell? a = some u := fun a u ha hu => cellK a u ha (kept_cell hcl.bl hu)
    have hown := set3_own (x := un) (y := um) (z := .slice a3 p.t.kids.length c3) (kept_cell hcl.bl h4) (kept_cell hcl.bl h5) (kept_cell hcl.bl h6)
    have hown5 : W5.cell? ⟨p.b, p.o + 4, none⟩ = some un ∧ W5.cell? ⟨p.b, p.o + 5, none⟩ = some um ∧ W5.cell? ⟨p.b, p.o + 6, none⟩ = some (.slice a3 p.t.kids.length c3) :=
      ⟨(hb5.cell (p := ⟨p.b, p.o + 4, none⟩) (by show p.b < _; omega)).trans hown.1, (hb5.cell (p := ⟨p.b, p.o + 5, none⟩) (by show p.b < _; omega)).trans hown.2.1, (hb5.cell (p := ⟨p.b, p.o + 6, none⟩) (by show p.b < _; omega)).trans hown.2.2⟩
    have hkx1 : Kx (· = p.b) W W5 := by
      have k2 := (Kx.of_whole (X := (· = p.b)) hcl.bl).trans (kx_set3 (w := w3) (b := p.b) (o := p.o) (x := un) (y := um) (z := .slice a3 p.t.kids.length c3))
      refine k2.trans (Kx.of_whole ?_)
      rw [set3_size]; exact hb5
    have hkx : Kx X W W5 := hkx1.andThen (Kx.refl (fun _ => False) _) (fun b _ e => e ▸ hpx) (fun _ _ h => h.elim)
    have nb5 : ∀ k, NB w3 k → NB W5 k := fun k n => by
      have n3 := ((n.set ⟨p.b, p.o + 4, none⟩ un).set ⟨p.b, p.o + 5, none⟩ um).set ⟨p.b, p.o + 6, none⟩ (.slice a3 p.t.kids.length c3)
      exact n3.kept (by rw [set3_size]; exact hb5)
    have hkb0 : ∀ i, i < p.t.kids.length → a3 = some ⟨kb, 0, none⟩ ∧ W.heap.size ≤ kb ∧ kb < w3.heap.size := fun i hi => by
      obtain rfl := hkb (by omega)
      have := hcl.k.lt kb rfl
      exact ⟨rfl, this.1, this.2⟩
    have kidLow : ∀ q ∈ kidP kb p.t.kids 0, ∃ i, ∃ hi : i < p.t.kids.length, q = ⟨kb, 0 + i * 7, p.t.kids[i]⟩ := fun q hq => kidP_mem _ _ hq
    have hqb : ∀ q ∈ qs, q.b < W.heap.size := fun q hq => (hp q (by simp [hq])).1.nb.lt
    have wstep : ∀ (B : BQ) (C : World → Prop), (∀ b, W.heap.size ≤ b → B b) → Wd B C X (p :: qs) W → Wd B C (fun b => X b ∨ (W.heap.size ≤ b ∧ b < W5.heap.size)) (kidP kb p.t.kids 0 ++ qs) W5 := by
      intro B C hB hw
      intro W6 hag hs hl
      have cell6 : ∀ a u, a.block < W.heap.size → X a.block → (∀ q ∈ p :: qs, ¬ q.hit a) → W.cell? a = some u → W6.cell? a = some u := fun a u hb hx hn hu => by
        refine hag a u (.inl hx) (cellW a u (hn p (by simp)) hu) (fun q hq => ?_)
        rcases List.mem_append.1 hq with hq | hq
        · obtain ⟨i, hi, rfl⟩ := kidLow q hq
          have := hkb0 i hi
          exact fun h => by have := h.1; simp only at this; omega
        · exact hn q (by simp [hq])
      have cellP : ∀ i u, i < 7 → W5.cell? ⟨p.b, p.o + i, none⟩ = some u → W6.cell? ⟨p.b, p.o + i, none⟩ = some u := fun i u hi hu => by
        refine hag _ u (.inl hpx) hu (fun q hq => ?_)
        rcases List.mem_append.1 hq with hq | hq
        · obtain ⟨k, hk, rfl⟩ := kidLow q hq
          have := hkb0 k hk
          exact fun h => by have := h.1; simp only at this; omega
        · exact (hd1 q hq).not_hit hi
      have cellN : ∀ v : Value, (∀ k, v.ownBlock = some k → W.heap.size ≤ k ∧ k < w3.heap.size ∧ (0 < p.t.kids.length → k ≠ kb)) → ∀ (a : Addr) u, v.ownBlock = some a.block → a.spot = none → w3.cell? a = some u → W6.cell? a = some u := fun v hv a u ha hsp hu => by
        obtain ⟨v1, v2, v3⟩ := hv _ ha
        refine hag a u (.inr ⟨v1, by omega⟩) (cellK a u (fun h => by have := h.1; omega) hu) (fun q hq => ?_)
        rcases List.mem_append.1 hq with hq | hq
        · obtain ⟨k, hk, rfl⟩ := kidLow q hq
          exact fun h => v3 (by omega) h.1
        · exact fun h => by have := h.1; have := hqb q hq; omega
      refine hw W6 (fun a v ha hv hn => cell6 a v (World.block_lt_of_cell? _ _ hv) ha hn hv) (Nat.le_trans hkx.size hs) (fun q hq => ?_)
      rcases List.mem_cons.1 hq with rfl | hq
      · have c0 := cellP 0 _ (by omega) (by simpa using cellW _ _ (by simpa using Pnd.not_hit (p := q) (i := 0) (by omega)) h0)
        rw [Nat.add_zero] at c0
        refine lies_iff.2 ⟨c0, cellP 1 _ (by omega) (cellW _ _ (Pnd.not_hit (by omega)) h1), cellP 2 _ (by omega) (cellW _ _ (Pnd.not_hit (by omega)) h2), cellP 3 _ (by omega) (cellW _ _ (Pnd.not_hit (by omega)) h3), un, um, .slice a3 q.t.kids.length c3, cellP 4 _ (by omega) hown5.1, cellP 5 _ (by omega) hown5.2.1, cellP 6 _ (by omega) hown5.2.2, ?_, ?_, ?_⟩
        · refine rowV_own hcl.n (by simp) (maxI (k := 15) hpf.n) (fun k hk => ?_) (Nat.le_trans hz5 hs) (cellN un (fun k hk => ?_))
          · have := hcl.n.lt k hk; exact hB k (by omega)
          · have := hcl.n.lt k hk
            exact ⟨this.1, this.2, fun h0 e => hcl.nk k hk (by rw [e]; obtain rfl := hkb h0; rfl)⟩
        · refine rowV_own hcl.m (by simp) (maxI (k := 0) hpf.m) (fun k hk => ?_) (Nat.le_trans hz5 hs) (cellN um (fun k hk => ?_))
          · have := hcl.m.lt k hk; exact hB k (by omega)
          · have := hcl.m.lt k hk
            exact ⟨this.1, this.2, fun h0 e => hcl.mk9 k hk (by rw [e]; obtain rfl := hkb h0; rfl)⟩
        · by_cases hk0 : q.t.kids = []
          · refine .inl ⟨a3, c3, by rw [hk0]; rfl, hk0⟩
          · have hpos : 0 < q.t.kids.length := List.length_pos_iff.2 hk0
            obtain ⟨rfl, hk1, hk2⟩ := hkb0 0 hpos
            refine .inr ⟨kb, 0, c3, rfl, by omega, by omega, hB kb (by omega), liesT_of fun i hi => ?_⟩
            exact hl ⟨kb, 0 + i * 7, q.t.kids[i]⟩ (List.mem_append.2 (.inl (kidP_in _ _ i hi)))
      · exact hl q (List.mem_append.2 (.inr hq))
    have hrt5 : RtI root T0 w0.heap.size (fun b => X b ∨ (W.heap.size ≤ b ∧ b < W5.heap.size)) (kidA kb 0 p.t.kids.length ++ qs.map Pnd.a) (kidP kb p.t.kids 0 ++ qs) W5 := by
      refine .inr ⟨fun a ha => ?_, ?_⟩
      · rcases List.mem_append.1 ha with ha | ha
        · rw [← kidP_a] at ha
          obtain ⟨q, hq, rfl⟩ := List.mem_map.1 ha
          obtain ⟨i, hi, rfl⟩ := kidLow q hq
          have := hkb0 i hi
          have := h.lt _ h.tx
          show kb ≠ T0
          omega
        · rcases hrt with h1 | ⟨h1, _⟩
          · have : qs.map Pnd.a = [] := by simpa using congrArg List.tail h1
            rw [this] at ha; cases ha
          · exact h1 a (by simp [ha])
      · rcases hrt with h1 | ⟨h1, v, h2, h3, h4, h5⟩
        · have hpa : p.a = ⟨T0, 0, none⟩ := by simpa using congrArg List.head? h1
          have hb0 : p.b = T0 := congrArg Addr.block hpa
          have ho0 : p.o = 0 := congrArg Addr.off hpa
          have hroot : p.t = root := by
            have h9 := h.t0
            rcases hpT with h | h
            · exact h.2
            · have := h9; omega
          have hq0 : qs = [] := by simpa using congrArg List.tail h1
          refine ⟨.slice a3 p.t.kids.length c3, ?_, ?_, fun k hk => ?_, ?_⟩
          · have := hown5.2.2
            rwa [hb0, ho0, Nat.zero_add] at this
          · rw [← hroot]
            have o1 := OwnK.of hcl.k
            have o2 := ((o1.set ⟨p.b, p.o + 4, none⟩ un).set ⟨p.b, p.o + 5, none⟩ um).set ⟨p.b, p.o + 6, none⟩ (.slice a3 p.t.kids.length c3)
            exact o2.kx (Kx.of_whole (X := fun _ => False) (by rw [set3_size]; exact hb5)) (fun _ _ h => h)
          · have := hcl.k.lt k hk
            exact .inr ⟨this.1, by omega⟩
          · subst hq0
            rw [List.append_nil]
            intro W6 hag hs hl g9 hg9 i hi
            subst hroot
            obtain ⟨rfl, _⟩ := hkb0 i hi
            obtain rfl : kb = g9 := by simpa [Value.ownBlock] using hg9
            have := hl ⟨kb, 0 + i * 7, p.t.kids[i]⟩ (kidP_in _ _ i hi)
            rwa [Nat.zero_add] at this
        · refine ⟨v, ?_, ?_, fun k hk => .inl (h4 k hk), wstep _ _ (fun b hb => ⟨by have := h.old.size; omega, fun e => by have := h.lt b (h4 b e); omega⟩) h5⟩
          · exact cellW _ _ (fun hh => h1 p.a (by simp) hh.1.symm) h2
          · have o1 := h3.kx (Kx.of_whole (X := fun _ => False) hcl.bl) (fun _ _ h => h)
            have o2 := ((o1.set ⟨p.b, p.o + 4, none⟩ un).set ⟨p.b, p.o + 5, none⟩ um).set ⟨p.b, p.o + 6, none⟩ (.slice a3 p.t.kids.length c3)
            exact o2.kx (Kx.of_whole (X := fun _ => False) (by rw [set3_size]; exact hb5)) (fun _ _ h => h)
    refine .inl ⟨a, p.t.kids.length, c, kidA kb 0 p.t.kids.length, g - 1, fun b => X b ∨ (W.heap.size ≤ b ∧ b < W5.heap.size), rfl, ?_, by omega, ⟨?_, ?_, ?_, ?_, h.t0, by omega, .inl h.tx, ?_⟩, hkx, fun b hb hx => hx.resolve_right (by omega)⟩
    · refine rowV_own (w := W5) hrow (by rw [kidA_len]) (by omega) (fun k hk => ?_) (Nat.le_refl _) (fun _ _ _ _ h => h)
      have := hrow.lt k hk
      exact .inr ⟨by omega, this.2⟩
    · exact h.old.andThen hkx1 (fun _ _ h => h) (fun b hb e => by rcases hpT with h | h; exact e.trans h.1; omega)
    · exact h.n0
    · exact fun b hb => .inl (h.all b hb)
    · rintro b (hb | hb)
      · have := h.lt b hb; have := hkx.size; omega
      · exact hb.2
    · refine ⟨kidP kb p.t.kids 0 ++ qs, by rw [List.map_append, kidP_a], by rw [List.map_append, kidP_t, cntL_append]; omega, ?_, ?_, ?_, ?_⟩
      · intro q hq
        rcases List.mem_append.1 hq with hq | hq
        · obtain ⟨i, hi, rfl⟩ := kidLow q hq
          obtain ⟨rfl, hk1, hk2⟩ := hkb0 i hi
          have hkp : kb ≠ p.b := by omega
          have hcs : ∀ j u, j < 7 → (cel p.t.kids[i] (vs[i]'(hvl ▸ hi)))[j]? = some u → W5.cell? ⟨kb, 0 + i * 7 + j, none⟩ = some u := fun j u hj hu => by
            have := hcl.k.cells (g := kb) rfl (i * 7 + j) u (by rw [flatT_get _ vs hvl i hi j hj]; exact hu)
            rw [Addr.add_lit] at this
            rw [Nat.add_assoc]
            exact cellK _ _ (fun h => hkp h.1) this
          refine ⟨⟨by show N0 ≤ kb; omega, ?_, (vs[i]'(hvl ▸ hi)).n, (vs[i]'(hvl ▸ hi)).m, (vs[i]'(hvl ▸ hi)).k, ⟨by simpa using hcs 0 _ (by omega) rfl, hcs 1 _ (by omega) rfl, hcs 2 _ (by omega) rfl, hcs 3 _ (by omega) rfl⟩, ⟨hcs 4 _ (by omega) rfl, hcs 5 _ (by omega) rfl, hcs 6 _ (by omega) rfl⟩, ?_⟩, .inr ⟨hk1, by show kb < _; omega⟩, hpf.k _ (List.getElem_mem _), .inr (by have := h.old.size; show _ ≤ kb; omega)⟩
          · obtain ⟨cur, hcur⟩ := ownsRow_cells hcl.k
            have n1 : NB w3 kb := ⟨cur, _, hcur⟩
            exact nb5 _ n1
          · exact (hvp i hi).to hkx1 (fun _ _ h => h) (fun b _ h e => by have := hpi.n0; omega)
        · obtain ⟨g1, g2, g3⟩ := hp q (by simp [hq])
          refine ⟨g1.to (fun i hi v hv => cellW _ _ ((hd1 q hq).symm.not_hit hi) hv) ?_ hkx1 (fun b hb e => by have := hpi.n0; omega), .inl g2, g3⟩
          have n1 := g1.nb.kept hcl.bl
          exact nb5 _ n1
      · refine List.pairwise_append.2 ⟨kidP_far _ _ _, hd2, fun k hk q hq => .inl ?_⟩
        obtain ⟨i, hi, rfl⟩ := kidLow k hk
        have := hkb0 i hi
        have := hqb q hq
        show kb ≠ q.b
        omega
      · exact wstep _ _ (fun b hb => by have := h.old.size; show _ ≤ b; omega) hw
      · exact hrt5
end
end Go.Proofs.Ytdofhlmffponoaa

/-
  types.fresh, walked: a type in new memory.
-/
namespace Go.Proofs.Ytdofhlmffponoaa
open Go.RowKit
attribute [local go_sem ↓] Go.wp_at_zero Go.wp_at_succ
theorem enter1 : ∀ args w, (callFunc 30 args).run Try.prog w = .ok (.enter 30 args) w := enters_of Try.func30 (by kernel_rfl) rfl
/-- the walk of fresh -/
theorem freshW {w0 : World} {N0 T0 fb fc : Nat} {t : Ty} (hf : w0.cell? ⟨fb, 0, none⟩ = some (pv ⟨T0, 0, none⟩)) (h0 : FrI w0 N0 t T0 t.cnt (fun b => b < w0.heap.size) [⟨T0, 0, none⟩] w0) :
    Calls Try.prog 29 #[.func (.func 30) #[] #[], .slice (some ⟨fb, 0, none⟩) 1 fc] w0 fun e w' => e = .returned (.bool true) ∧ Kx (· = T0) w0 w' ∧ t.lies (fun b => w0.heap.size ≤ b) w' T0 0 ∧ ∃ v, w'.cell? ⟨T0, 6, none⟩ = some v ∧ OwnK w' t.kids.length v ∧ KidsO w0.heap.size t.kids v w' := by
  refine (walkP (I := FrI w0 N0 t T0) (Bad := fun _ _ => False) 30 #[] enter1 (fun _ _ _ _ _ h hk => h.stable hk) (fun _ _ _ h _ => h) (fun _ _ _ _ h => h.lt) (fun _ _ _ _ h => h.len) (fun g X x r W h => by simpa using h.call) t.cnt ⟨T0, 0, none⟩ fb 0 fc w0 hf h0).mono ?_
  rintro e w' (⟨rfl, g, X, h⟩ | ⟨_, X, h⟩)
  · exact ⟨rfl, h.old, h.done, h.own⟩
  · exact h.elim
/-- a type is answered, whose kids are all its own -/
structure TyO (w : World) (t : Ty) (e : Ending) (w' : World) : Prop where
  bl : Below w.heap.size w w'
  ex : ∃ vn vm vk, e = .returned (agT t vn vm vk) ∧ Prt (fun b => w.heap.size ≤ b) w' t vn vm vk ∧ OwnK w' t.kids.length vk ∧ KidsO w.heap.size t.kids vk w'
theorem TyO.q {w w' : World} {t : Ty} {e : Ending} (h : TyO w t e w') : TyQ w (fun b => w.heap.size ≤ b) t e w' := by
  obtain ⟨vn, vm, vk, h1, h2, _, _⟩ := h.ex
  exact ⟨h.bl, vn, vm, vk, h1, h2⟩
theorem OwnK.set7 {W : World} {n g : Nat} {v a b c d x y z : Value} (h : OwnK W n v) : OwnK (((((((W.setCell ⟨g, 0, none⟩ a).setCell ⟨g, 1, none⟩ b).setCell ⟨g, 2, none⟩ c).setCell ⟨g, 3, none⟩ d).setCell ⟨g, 4, none⟩ x).setCell ⟨g, 5, none⟩ y).setCell ⟨g, 6, none⟩ z) n v :=
  ((((((h.set _ _).set _ _).set _ _).set _ _).set _ _).set _ _).set _ _
theorem KidsO.kx {N N' R : Nat} {ks : List Ty} {v : Value} {W W' : World} (h : KidsO N ks v W) (hp : SlT (fun b => N ≤ b) W v ks) (hk : Kx (· = R) W W') (hR : R < N) (hN : N' ≤ N) : KidsO N' ks v W' := by
  intro g hg i hi
  have hgN : N ≤ g := by
    rcases hp with ⟨a, c, rfl, rfl⟩ | ⟨b, o, c, rfl, _, _, hb, _⟩
    · cases hi
    · obtain rfl : b = g := by simpa [Value.ownBlock] using hg
      exact hb
  exact lies_to hk (fun b _ hb => ⟨by omega, hb.2⟩) (fun b _ hb e => by omega) _ _ _ (by omega) (h g hg i hi)
set_option maxRecDepth 100000 in
set_option maxHeartbeats 4000000 in
theorem fresh_own {B : BQ} {w : World} {t : Ty} {vn vm vk : Value} (h : Prt B w t vn vm vk) (hf : Fit t) (hc : t.cnt ≤ 1000000) : Calls Try.prog 13 #[agT t vn vm vk] w (TyO w t) := by
  have hp : Prt (fun b => b < w.heap.size) w t vn vm vk := h.with (fun b hb _ => hb)
  obtain ⟨an, cn, am, cm, ak, ck, rfl, rfl, rfl⟩ := h.form
  have hb3 : Below w.heap.size w (((w.alloc (.cells #[.int .i64 t.kind, .string t.name, .int .i64 t.n, .bool t.flag, .slice an t.names.length cn, .slice am t.marks.length cm, .slice ak t.kids.length ck] 29)).alloc (.cells #[.int .i64 0, .string ⟨#[]⟩, .int .i64 0, .bool false, .slice none 0 0, .slice none 0 0, .slice none 0 0] 29)).alloc (.cells #[pv ⟨w.heap.size, 0, none⟩] 80)) := bthen (bthen (below_alloc _ _) (below_alloc _ _)) (below_alloc _ _)
  have hT : (((w.alloc (.cells #[.int .i64 t.kind, .string t.name, .int .i64 t.n, .bool t.flag, .slice an t.names.length cn, .slice am t.marks.length cm, .slice ak t.kids.length ck] 29)).alloc (.cells #[.int .i64 0, .string ⟨#[]⟩, .int .i64 0, .bool false, .slice none 0 0, .slice none 0 0, .slice none 0 0] 29)).alloc (.cells #[pv ⟨w.heap.size, 0, none⟩] 80)).heap[w.heap.size]? = some (.cells #[.int .i64 t.kind, .string t.name, .int .i64 t.n, .bool t.flag, .slice an t.names.length cn, .slice am t.marks.length cm, .slice ak t.kids.length ck] 29 (0, 0)) := blk_kept (bthen (below_alloc _ _) (below_alloc _ _)) (heap_new w _)
  have hR : (((w.alloc (.cells #[.int .i64 t.kind, .string t.name, .int .i64 t.n, .bool t.flag, .slice an t.names.length cn, .slice am t.marks.length cm, .slice ak t.kids.length ck] 29)).alloc (.cells #[.int .i64 0, .string ⟨#[]⟩, .int .i64 0, .bool false, .slice none 0 0, .slice none 0 0, .slice none 0 0] 29)).alloc (.cells #[pv ⟨w.heap.size, 0, none⟩] 80)).heap[w.heap.size + 1]? = some (.cells #[.int .i64 0, .string ⟨#[]⟩, .int .i64 0, .bool false, .slice none 0 0, .slice none 0 0, .slice none 0 0] 29 (0, 0)) := by
    have := blk_kept (below_alloc _ (.cells #[pv ⟨w.heap.size, 0, none⟩] 80)) (heap_new (w.alloc (.cells #[.int .i64 t.kind, .string t.name, .int .i64 t.n, .bool t.flag, .slice an t.names.length cn, .slice am t.marks.length cm, .slice ak t.kids.length ck] 29)) (.cells #[.int .i64 0, .string ⟨#[]⟩, .int .i64 0, .bool false, .slice none 0 0, .slice none 0 0, .slice none 0 0] 29))
    rwa [World.size_alloc] at this
  have hP : (((w.alloc (.cells #[.int .i64 t.kind, .string t.name, .int .i64 t.n, .bool t.flag, .slice an t.names.length cn, .slice am t.marks.length cm, .slice ak t.kids.length ck] 29)).alloc (.cells #[.int .i64 0, .string ⟨#[]⟩, .int .i64 0, .bool false, .slice none 0 0, .slice none 0 0, .slice none 0 0] 29)).alloc (.cells #[pv ⟨w.heap.size, 0, none⟩] 80)).heap[w.heap.size + 2]? = some (.cells #[pv ⟨w.heap.size, 0, none⟩] 80 (0, 0)) := by
    have := heap_new ((w.alloc (.cells #[.int .i64 t.kind, .string t.name, .int .i64 t.n, .bool t.flag, .slice an t.names.length cn, .slice am t.marks.length cm, .slice ak t.kids.length ck] 29)).alloc (.cells #[.int .i64 0, .string ⟨#[]⟩, .int .i64 0, .bool false, .slice none 0 0, .slice none 0 0, .slice none 0 0] 29)) (.cells #[pv ⟨w.heap.size, 0, none⟩] 80)
    rwa [World.size_alloc, World.size_alloc] at this
  have hz : (((w.alloc (.cells #[.int .i64 t.kind, .string t.name, .int .i64 t.n, .bool t.flag, .slice an t.names.length cn, .slice am t.marks.length cm, .slice ak t.kids.length ck] 29)).alloc (.cells #[.int .i64 0, .string ⟨#[]⟩, .int .i64 0, .bool false, .slice none 0 0, .slice none 0 0, .slice none 0 0] 29)).alloc (.cells #[pv ⟨w.heap.size, 0, none⟩] 80)).heap.size = w.heap.size + 3 := by simp
  obtain ⟨c0, c1, c2, c3, c4, c5, c6⟩ := bx7 hT
  have h0 : FrI (((w.alloc (.cells #[.int .i64 t.kind, .string t.name, .int .i64 t.n, .bool t.flag, .slice an t.names.length cn, .slice am t.marks.length cm, .slice ak t.kids.length ck] 29)).alloc (.cells #[.int .i64 0, .string ⟨#[]⟩, .int .i64 0, .bool false, .slice none 0 0, .slice none 0 0, .slice none 0 0] 29)).alloc (.cells #[pv ⟨w.heap.size, 0, none⟩] 80)) w.heap.size t w.heap.size t.cnt (fun b => b < (((w.alloc (.cells #[.int .i64 t.kind, .string t.name, .int .i64 t.n, .bool t.flag, .slice an t.names.length cn, .slice am t.marks.length cm, .slice ak t.kids.length ck] 29)).alloc (.cells #[.int .i64 0, .string ⟨#[]⟩, .int .i64 0, .bool false, .slice none 0 0, .slice none 0 0, .slice none 0 0] 29)).alloc (.cells #[pv ⟨w.heap.size, 0, none⟩] 80)).heap.size) [⟨w.heap.size, 0, none⟩] (((w.alloc (.cells #[.int .i64 t.kind, .string t.name, .int .i64 t.n, .bool t.flag, .slice an t.names.length cn, .slice am t.marks.length cm, .slice ak t.kids.length ck] 29)).alloc (.cells #[.int .i64 0, .string ⟨#[]⟩, .int .i64 0, .bool false, .slice none 0 0, .slice none 0 0, .slice none 0 0] 29)).alloc (.cells #[pv ⟨w.heap.size, 0, none⟩] 80)) := by
    refine ⟨Kx.refl _ _, by omega, fun _ h => h, fun _ h => h, by omega, hc, by show w.heap.size < _; omega, [⟨w.heap.size, 0, t⟩], rfl, by simp [cntL], fun p hp' => ?_, List.pairwise_singleton _ _, fun W' hag hs hl => hl ⟨w.heap.size, 0, t⟩ (by simp), .inl rfl⟩
    obtain rfl := List.mem_singleton.1 hp'
    refine ⟨⟨Nat.le_refl _, ⟨_, _, hT⟩, _, _, _, ⟨c0, by simpa using c1, by simpa using c2, by simpa using c3⟩, ⟨by simpa using c4, by simpa using c5, by simpa using c6⟩, hp.kept hb3⟩, by show w.heap.size < _; omega, hf, .inl ⟨rfl, rfl⟩⟩
  have hwk := freshW (fc := 1) (by simpa using cell_of hP 0) h0
  have HB3 : Hid (Below w.heap.size w (((w.alloc (.cells #[.int .i64 t.kind, .string t.name, .int .i64 t.n, .bool t.flag, .slice an t.names.length cn, .slice am t.marks.length cm, .slice ak t.kids.length ck] 29)).alloc (.cells #[.int .i64 0, .string ⟨#[]⟩, .int .i64 0, .bool false, .slice none 0 0, .slice none 0 0, .slice none 0 0] 29)).alloc (.cells #[pv ⟨w.heap.size, 0, none⟩] 80))) := hb3
  have HR : Hid ((((w.alloc (.cells #[.int .i64 t.kind, .string t.name, .int .i64 t.n, .bool t.flag, .slice an t.names.length cn, .slice am t.marks.length cm, .slice ak t.kids.length ck] 29)).alloc (.cells #[.int .i64 0, .string ⟨#[]⟩, .int .i64 0, .bool false, .slice none 0 0, .slice none 0 0, .slice none 0 0] 29)).alloc (.cells #[pv ⟨w.heap.size, 0, none⟩] 80)).heap[w.heap.size + 1]? = some (.cells #[.int .i64 0, .string ⟨#[]⟩, .int .i64 0, .bool false, .slice none 0 0, .slice none 0 0, .slice none 0 0] 29 (0, 0))) := hR
  have HZ : Hid ((((w.alloc (.cells #[.int .i64 t.kind, .string t.name, .int .i64 t.n, .bool t.flag, .slice an t.names.length cn, .slice am t.marks.length cm, .slice ak t.kids.length ck] 29)).alloc (.cells #[.int .i64 0, .string ⟨#[]⟩, .int .i64 0, .bool false, .slice none 0 0, .slice none 0 0, .slice none 0 0] 29)).alloc (.cells #[pv ⟨w.heap.size, 0, none⟩] 80)).heap.size = w.heap.size + 3) := hz
  unfold agT
  clear hb3 hT hR hP h0 c0 c1 c2 c3 c4 c5 c6 hp h hz
  go_enter Try.func13, Try.ntmps13
  go_wp2_with (go_at_call 29; refine hwk.mono ?_; rintro e w4 ⟨rfl, hk, hl, vo, hvo, hko, hkk⟩; have HK : Hid (Kx (· = w.heap.size) (((w.alloc (.cells #[.int .i64 t.kind, .string t.name, .int .i64 t.n, .bool t.flag, .slice an t.names.length cn, .slice am t.marks.length cm, .slice ak t.kids.length ck] 29)).alloc (.cells #[.int .i64 0, .string ⟨#[]⟩, .int .i64 0, .bool false, .slice none 0 0, .slice none 0 0, .slice none 0 0] 29)).alloc (.cells #[pv ⟨w.heap.size, 0, none⟩] 80)) w4) := hk; obtain ⟨d0, d1, d2, d3, un, um, uk, d4, d5, d6, hpr⟩ := lies_iff.1 hl; obtain ⟨bn, en, bm, em, bk, ek, rfl, rfl, rfl⟩ := hpr.form; simp only [Nat.zero_add] at d1 d2 d3 d4 d5 d6; obtain rfl : vo = .slice bk t.kids.length ek := Option.some.inj (hvo.symm.trans d6); have HKO : Hid (OwnK w4 t.kids.length (.slice bk t.kids.length ek)) := hko; have HKK : Hid (KidsO (((w.alloc (.cells #[.int .i64 t.kind, .string t.name, .int .i64 t.n, .bool t.flag, .slice an t.names.length cn, .slice am t.marks.length cm, .slice ak t.kids.length ck] 29)).alloc (.cells #[.int .i64 0, .string ⟨#[]⟩, .int .i64 0, .bool false, .slice none 0 0, .slice none 0 0, .slice none 0 0] 29)).alloc (.cells #[pv ⟨w.heap.size, 0, none⟩] 80)).heap.size t.kids (.slice bk t.kids.length ek) w4) := hkk; clear hvo hko hkk; have hR4 := hk.keep _ _ HR.out (by omega); obtain ⟨z0, z1, z2, z3, z4, z5, z6⟩ := bx7 hR4; obtain ⟨f0, f1, f2, f3, f4, f5, f6⟩ := bx7f hR4; have HPR : Hid (Prt (fun b => (((w.alloc (.cells #[.int .i64 t.kind, .string t.name, .int .i64 t.n, .bool t.flag, .slice an t.names.length cn, .slice am t.marks.length cm, .slice ak t.kids.length ck] 29)).alloc (.cells #[.int .i64 0, .string ⟨#[]⟩, .int .i64 0, .bool false, .slice none 0 0, .slice none 0 0, .slice none 0 0] 29)).alloc (.cells #[pv ⟨w.heap.size, 0, none⟩] 80)).heap.size ≤ b) w4 t (.slice bn t.names.length en) (.slice bm t.marks.length em) (.slice bk t.kids.length ek)) := hpr; have HR4 : Hid _ := hR4; clear hk hl hwk hpr hR4)
  have hm := bx7_set (a' := .int .i64 t.kind) (b' := .string t.name) (c' := .int .i64 t.n) (d' := .bool t.flag) (x' := .slice bn t.names.length en) (y' := .slice bm t.marks.length em) (z' := .slice bk t.kids.length ek) HR4.out
  have hk7 := kx_set7 (w := w4) (g := w.heap.size + 1) (a := .int .i64 t.kind) (b := .string t.name) (c := .int .i64 t.n) (d := .bool t.flag) (x := .slice bn t.names.length en) (y := .slice bm t.marks.length em) (z := .slice bk t.kids.length ek)
  refine bodyPost_ret (v := .agg #[.int .i64 t.kind, .string t.name, .int .i64 t.n, .bool t.flag, .slice bn t.names.length en, .slice bm t.marks.length em, .slice bk t.kids.length ek]) (results_cell rfl rfl (resT hm)) rfl ?_
  have hzz := HZ.out
  have hb4 : Below w.heap.size w w4 := HB3.out.trans (HK.out.below HB3.out.size (fun b hb e => by omega))
  refine ⟨below_kx1 hb4 hk7 (by omega), _, _, _, rfl, HPR.out.to hk7 (fun b _ hb => by show w.heap.size ≤ b; omega) (fun b _ hb e => by omega), HKO.out.set7, HKK.out.kx HPR.out.ks hk7 (by omega) (by omega)⟩
theorem fresh_any {B : BQ} {w : World} {t : Ty} {vn vm vk : Value} (h : Prt B w t vn vm vk) (hf : Fit t) (hc : t.cnt ≤ 1000000) : Calls Try.prog 13 #[agT t vn vm vk] w (TyQ w (fun b => w.heap.size ≤ b) t) := (fresh_own h hf hc).mono fun _ _ h => h.q
end Go.Proofs.Ytdofhlmffponoaa

