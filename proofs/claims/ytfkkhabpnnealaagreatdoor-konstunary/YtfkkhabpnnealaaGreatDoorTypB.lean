/-
  The document's Name, Basic, Default and Make, walked.
-/
import Derived.Test.YtfkkhabpnnealaaGreatDoorTypA
namespace Go.Proofs.YtfkkhabpnnealaaGreatDoor.T8
open Go.RowKit
attribute [local go_sem ↓] Go.wp_at_zero Go.wp_at_succ
/-- a type is answered -/
structure TyQ (w : World) (K : BQ) (t : Ty) (e : Ending) (w' : World) : Prop where
  bl : Below w.heap.size w w'
  ex : ∃ vn vm vk, e = .returned (agT t vn vm vk) ∧ Prt K w' t vn vm vk
theorem results_cell {P : Program} {f : Func} {tmps : Array Value} {W : World} {a t : Nat} {ad : Addr} {v : Value} (hf : f.results = #[.cell a t]) (ha : tmps.getD a undef = .pointer (some ad)) (hl : (loadVar t ad).run P W = .ok v W) : (results f tmps).run P W = .ok v W := by
  unfold results
  rw [hf]
  have ha2 : tmps[a]?.getD undef = .pointer (some ad) := by rw [← ha]; simp
  simp [ha2, asAddr, hl]
set_option maxRecDepth 100000 in
theorem resT {w : World} {g : Nat} {a b c d x y z : Value} (hg : w.heap[g]? = some (.cells #[a, b, c, d, x, y, z] 41 (0, 0))) : (loadVar 41 ⟨g, 0, none⟩).run Tryz.prog w = .ok (.agg #[a, b, c, d, x, y, z]) w :=
  run_loadVar_row w g _ _ _ _ _ hg Tryz.underlying41 rfl rfl
theorem prt_nil {K : BQ} {W : World} (k : Int) (nm : ByteArray) (n : Int) (f : Bool) : Prt K W (.mk k nm n f [] [] []) (.slice none 0 0) (.slice none 0 0) (.slice none 0 0) :=
  ⟨.inl ⟨_, _, rfl, rfl⟩, .inl ⟨_, _, rfl, rfl⟩, .inl ⟨_, _, rfl, rfl⟩⟩
abbrev NIL : Value := .slice none 0 0
set_option maxRecDepth 100000 in
set_option maxHeartbeats 2000000 in
theorem rbasic_any (k : Int) (w : World) : Calls Tryz.prog 38 #[.int .i64 k] w fun e w' => e = .returned (.agg #[.int .i64 k, .string ⟨#[]⟩, .int .i64 0, .bool false, .slice none 0 0, .slice none 0 0, .slice none 0 0]) ∧ Below w.heap.size w w' := by
  have hn := heap_new w (.cells #[.int .i64 k, .string ⟨#[]⟩, .int .i64 0, .bool false, .slice none 0 0, .slice none 0 0, .slice none 0 0] 41)
  go_enter Tryz.func38, Tryz.ntmps38
  go_wp2_with fail
  refine bodyPost_ret (v := .agg #[.int .i64 k, .string ⟨#[]⟩, .int .i64 0, .bool false, .slice none 0 0, .slice none 0 0, .slice none 0 0]) (results_cell rfl rfl (resT hn)) rfl ?_
  exact ⟨rfl, below_alloc _ _⟩
theorem bx7f {w : World} {B : Nat} {a b c d e f g : Value} {T : TypeId} (h : w.heap[B]? = some (.cells #[a, b, c, d, e, f, g] T (0, 0))) : w.frozen? ⟨B, 0, none⟩ = false ∧ w.frozen? ⟨B, 1, none⟩ = false ∧ w.frozen? ⟨B, 2, none⟩ = false ∧ w.frozen? ⟨B, 3, none⟩ = false ∧ w.frozen? ⟨B, 4, none⟩ = false ∧ w.frozen? ⟨B, 5, none⟩ = false ∧ w.frozen? ⟨B, 6, none⟩ = false := by
  simp [World.frozen?, h]
/-- what a constant's type becomes -/
def Ty.dfl (t : Ty) : Ty := if t.kind = 4 then .mk 1 ⟨#[]⟩ 0 false [] [] [] else if t.kind = 5 then .mk 2 ⟨#[]⟩ 0 false [] [] [] else if t.kind = 6 then .mk 3 ⟨#[]⟩ 0 false [] [] [] else t
theorem bx7_set {w : World} {g : Nat} {a b c d x y z a' b' c' d' x' y' z' : Value} {T : TypeId} (h : w.heap[g]? = some (.cells #[a, b, c, d, x, y, z] T (0, 0))) : (((((((w.setCell ⟨g, 0, none⟩ a').setCell ⟨g, 1, none⟩ b').setCell ⟨g, 2, none⟩ c').setCell ⟨g, 3, none⟩ d').setCell ⟨g, 4, none⟩ x').setCell ⟨g, 5, none⟩ y').setCell ⟨g, 6, none⟩ z').heap[g]? = some (.cells #[a', b', c', d', x', y', z'] T (0, 0)) := by
  simp [World.setCell, Array.getElem?_modify, h]
theorem kx_set {w : World} {B o : Nat} {v : Value} : Kx (· = B) w (w.setCell ⟨B, o, none⟩ v) :=
  ⟨rfl, rfl, rfl, by simp [World.setCell], fun b _ h hb => (Below.heap_setCell w ⟨B, o, none⟩ v b hb).trans h⟩
theorem kx_set7 {w : World} {g : Nat} {a b c d x y z : Value} : Kx (· = g) w (((((((w.setCell ⟨g, 0, none⟩ a).setCell ⟨g, 1, none⟩ b).setCell ⟨g, 2, none⟩ c).setCell ⟨g, 3, none⟩ d).setCell ⟨g, 4, none⟩ x).setCell ⟨g, 5, none⟩ y).setCell ⟨g, 6, none⟩ z) :=
  (((((kx_set.trans kx_set).trans kx_set).trans kx_set).trans kx_set).trans kx_set).trans kx_set
theorem below_kx1 {w W W' : World} {X : Nat} (h : Below w.heap.size w W) (k : Kx (· = X) W W') (hX : w.heap.size ≤ X) : Below w.heap.size w W' :=
  ⟨k.os.trans h.os, k.tape.trans h.tape, k.output.trans h.output, Nat.le_trans h.size k.size, fun b hb => by
    have h1 := h.block b hb
    rw [Array.getElem?_eq_getElem hb] at h1 ⊢
    exact k.keep b _ h1 (by omega)⟩
end Go.Proofs.YtfkkhabpnnealaaGreatDoor.T8

/-
  The document's Subst, walked.
-/
namespace Go.Proofs.YtfkkhabpnnealaaGreatDoor.T8
open Go.RowKit
attribute [local go_sem ↓] Go.wp_at_zero Go.wp_at_succ
mutual
/-- with its arguments -/
def Ty.sbs (args : List Ty) : Ty → Ty
  | .mk k nm n f ns ms ks => if k = 9 then (if 0 ≤ n ∧ n < (args.length : Int) then args[n.toNat]?.getD (.mk k nm n f ns ms ks) else .mk k nm n f ns ms ks) else .mk k nm n f ns ms (sbsL args ks)
def sbsL (args : List Ty) : List Ty → List Ty
  | [] => []
  | x :: r => x.sbs args :: sbsL args r
end
theorem sbsL_len (args : List Ty) (l : List Ty) : (sbsL args l).length = l.length := by
  induction l with
  | nil => rfl
  | cons x r ih => simp [sbsL, ih]
theorem sbsL_append (args : List Ty) (l l' : List Ty) : sbsL args (l ++ l') = sbsL args l ++ sbsL args l' := by
  induction l with
  | nil => rfl
  | cons x r ih => simp [sbsL, ih]
/-- no more kids than are looked at -/
inductive Sml : Ty → Prop
  | mk (t : Ty) : t.kids.length ≤ 1000 → (∀ x ∈ t.kids, Sml x) → Sml t
theorem tszL_sml (ks : List Ty) (ih : ∀ x ∈ ks, ∀ m, 0 ≤ m → m ≤ 120 → x.tsz m ≤ m → Sml x) : ∀ m s, 1 ≤ s → m ≤ 120 → tszL ks m s ≤ m → (∀ x ∈ ks, Sml x) ∧ s + ks.length ≤ m := by
  induction ks with
  | nil => intro m s h1 h2 h3; simp only [tszL] at h3; exact ⟨(fun x hx => by cases hx), by simpa using h3⟩
  | cons x r ih2 =>
    intro m s h1 h2 h3
    simp only [tszL] at h3
    by_cases hs : s ≤ m
    · rw [if_pos hs] at h3
      have hx := tsz_le x (m - s) (by omega)
      obtain ⟨h4, h5⟩ := ih2 (fun y hy => ih y (by simp [hy])) m (s + x.tsz (m - s)) (by omega) h2 h3
      refine ⟨fun y hy => ?_, by simp; omega⟩
      rcases List.mem_cons.1 hy with rfl | hy
      · exact ih y (by simp) (m - s) (by omega) (by omega) (by omega)
      · exact h4 y hy
    · rw [if_neg hs] at h3; omega
theorem tsz_sml : ∀ t : Ty, ∀ m, 0 ≤ m → m ≤ 120 → t.tsz m ≤ m → Sml t :=
  Ty.ind fun k nm n f ns ms ks ih m h0 h1 h2 => by
    simp only [Ty.tsz] at h2
    obtain ⟨h3, h4⟩ := tszL_sml ks ih m 1 (by omega) h1 h2
    exact .mk _ (by simp [Ty.kids]; omega) h3
theorem own_kept {base size n : Nat} {e : TypeId} {v : Value} {xs : List Value} {W W' : World} (h : W.ownsRow base e size v n xs) (hk : Below W.heap.size W W') : W'.ownsRow base e size v n xs := by
  refine ⟨h.1, ?_⟩
  rcases h.2 with h0 | ⟨g, cap, cur, rfl, h1, h2, h3⟩
  · exact .inl h0
  · exact .inr ⟨g, cap, cur, rfl, h1, (hk.block g (Array.getElem?_eq_some_iff.1 h2).1).trans h2, h3⟩
/-- where the loop of Subst stands -/
structure SbI (B : BQ) (w : World) (x1 x2 x3 : Obj) (acc : List Ty) (u : Value) (wr : World) : Prop where
  bl : Below w.heap.size w wr
  b1 : wr.heap[w.heap.size]? = some x1
  b2 : wr.heap[w.heap.size + 1]? = some x2
  b3 : wr.heap[w.heap.size + 2]? = some x3
  row : RowT (w.heap.size + 3) (fun b => (B b ∧ b < w.heap.size) ∨ w.heap.size + 3 ≤ b) wr u acc
theorem bx7_set6 {w : World} {X : Nat} {a b c d e f g v : Value} {T : TypeId} (h : w.heap[X]? = some (.cells #[a, b, c, d, e, f, g] T (0, 0))) : (w.setCell ⟨X, 6, none⟩ v).heap[X]? = some (.cells #[a, b, c, d, e, f, v] T (0, 0)) := by
  simp [World.setCell, Array.getElem?_modify, h]
/-- a type more in the row, and the row stored -/
theorem SbI.push {B : BQ} {w : World} {x1 x2 : Obj} {p0 p1 p2 p3 p4 p5 : Value} {acc : List Ty} {u : Value} {wr w1 w9 : World} {y : Ty} {vn vm vk : Value} {vs : List V3} {gg cap : Nat}
    (h1 : wr.heap[w.heap.size]? = some x1) (h2 : wr.heap[w.heap.size + 1]? = some x2) (h3 : wr.heap[w.heap.size + 2]? = some (.cells #[p0, p1, p2, p3, p4, p5, u] 41 (0, 0))) (hb : Below w.heap.size w wr)
    (hvl : vs.length = acc.length) (hlt : ∀ k, u.ownBlock = some k → w.heap.size + 3 ≤ k ∧ k < wr.heap.size)
    (hsv : ∀ i (hi : i < acc.length), Prt (fun b => ((B b ∧ b < w.heap.size) ∨ w.heap.size + 3 ≤ b) ∧ u.ownBlock ≠ some b) wr acc[i] (vs[i]'(hvl ▸ hi)).n (vs[i]'(hvl ▸ hi)).m (vs[i]'(hvl ▸ hi)).k)
    (hb1 : Below wr.heap.size wr w1) (hy : Prt (fun b => (B b ∧ b < w.heap.size) ∨ wr.heap.size ≤ b) w1 y vn vm vk)
    (hg : (w1.alloc (.cells (cel y ⟨vn, vm, vk⟩).toArray 41)).grownBy w9 u.ownBlock) (hat : u.ownBlock = some gg ∨ gg = w1.heap.size + 1)
    (hown : w9.ownsRow (w.heap.size + 3) 41 7 (.slice (some ⟨gg, 0, none⟩) (acc.length + 1) cap) (acc.length + 1) (flatT acc vs ++ cel y ⟨vn, vm, vk⟩)) :
    SbI B w x1 x2 (.cells #[p0, p1, p2, p3, p4, p5, .slice (some ⟨gg, 0, none⟩) (acc.length + 1) cap] 41 (0, 0)) (acc ++ [y]) (.slice (some ⟨gg, 0, none⟩) (acc.length + 1) cap) (w9.setCell ⟨w.heap.size + 2, 6, none⟩ (.slice (some ⟨gg, 0, none⟩) (acc.length + 1) cap)) := by
  have hz := hb.size
  have hz1 := hb1.size
  have hx3 : w.heap.size + 2 < wr.heap.size := (Array.getElem?_eq_some_iff.1 h3).1
  have hba : Below w1.heap.size w1 (w1.alloc (.cells (cel y ⟨vn, vm, vk⟩).toArray 41)) := below_alloc _ _
  have hb2 : Below wr.heap.size wr (w1.alloc (.cells (cel y ⟨vn, vm, vk⟩).toArray 41)) := bthen hb1 hba
  have hk9 := grownBy_kx hg
  have hks : Kx (· = w.heap.size + 2) w9 (w9.setCell ⟨w.heap.size + 2, 6, none⟩ (.slice (some ⟨gg, 0, none⟩) (acc.length + 1) cap)) := kx_set
  have go9 : ∀ b o, b < w.heap.size + 3 → wr.heap[b]? = some o → w9.heap[b]? = some o := fun b o h4 h5 => hk9.keep b o (blk_kept hb2 h5) (fun e => by have := (hlt b e).1; omega)
  have hrow : RowT (w.heap.size + 3) (fun b => (B b ∧ b < w.heap.size) ∨ w.heap.size + 3 ≤ b) w9 (.slice (some ⟨gg, 0, none⟩) (acc.length + 1) cap) (acc ++ [y]) := by
    have hj := RowT.join (base := w.heap.size + 3) (K := fun b => (B b ∧ b < w.heap.size) ∨ w.heap.size + 3 ≤ b) (W := w1.alloc (.cells (cel y ⟨vn, vm, vk⟩).toArray 41)) (W1 := w9) (v := u) (l := acc) (l2 := [y]) (vs := vs) (vs2 := [⟨vn, vm, vk⟩]) hvl (fun i hi => (hsv i hi).kept hb2) rfl (fun i hi => by
      have hi0 : i = 0 := by simp at hi; omega
      subst hi0
      exact (hy.kept hba).with (fun b _ hb => ⟨by rcases hb with hb | hb; exact .inl hb; exact .inr (by omega), fun e => by
        have := hlt b e
        rcases hb with hb | hb
        · omega
        · omega⟩)) (g := gg) (cap := cap) hg (by rcases hat with h | h; exact .inl h; exact .inr (by simp [h])) (by simpa [flatT] using hown)
    simpa using hj
  refine ⟨⟨?_, ?_, ?_, ?_, ?_⟩, ?_, ?_, ?_, ?_⟩
  · rw [hks.os, hk9.os, hb2.os, hb.os]
  · rw [hks.tape, hk9.tape, hb2.tape, hb.tape]
  · rw [hks.output, hk9.output, hb2.output, hb.output]
  · exact Nat.le_trans hz (Nat.le_trans hb2.size (Nat.le_trans hk9.size hks.size))
  · intro k hk
    have h5 := hb.block k hk
    have h6 : w.heap[k]? = some w.heap[k] := by simp [hk]
    rw [h6] at h5 ⊢
    exact hks.keep k _ (go9 k _ (by omega) h5) (by omega)
  · exact hks.keep _ _ (go9 _ _ (by omega) h1) (by omega)
  · exact hks.keep _ _ (go9 _ _ (by omega) h2) (by omega)
  · exact bx7_set6 (go9 _ _ (by omega) h3)
  · refine hrow.to hks (fun b hb e => ?_) (fun b _ hb e => ?_)
    · have := (hrow.lt b hb).1; omega
    · rcases hb with hb | hb <;> omega
end Go.Proofs.YtfkkhabpnnealaaGreatDoor.T8

/-
  Types put behind nothing; the document's Make, walked.
-/
namespace Go.Proofs.YtfkkhabpnnealaaGreatDoor.T8
open Go.RowKit
attribute [local go_sem ↓] Go.wp_at_zero Go.wp_at_succ
/-- a slice that is new memory, and reads as these types; what stands in them lies in blocks of B -/
structure NewT (B : BQ) (base : Nat) (W : World) (a : Option Addr) (n c : Nat) (l : List Ty) : Prop where
  row : RowT base B W (.slice a n c) l
set_option maxRecDepth 100000 in
/-- types put behind nothing -/
theorem wp_appT {w : World} {ops : Array Oper} {rest : List Oper} {o : Oper} {a : Act} {Q : Exit → Act → World → Prop} (hgd : o.guard = none) (s x : Operand)
    (ho : o.op = .call { callee := .builtin .append, args := #[s, x], argTypes := #[39, 39] }) (B : BQ) {a2 : Option Addr} {n2 c2 : Nat} {l2 : List Ty}
    (hs : a.eval s = .slice none 0 0) (hx : a.eval x = .slice a2 n2 c2) (hT : SlT B w (.slice a2 n2 c2) l2) (hl : n2 * 112 ≤ 140737488355328)
    (h : ∀ a3 c3 w', RowT w.heap.size (fun b => B b ∧ b < w.heap.size) w' (.slice a3 n2 c3) l2 → Below w.heap.size w w' → wpList Tryz.prog ops Q rest (a.put o.dst (.slice a3 n2 c3)) w') : wpList Tryz.prog ops Q (o :: rest) a w := by
  obtain ⟨i0, i1, i2, i3, i4⟩ := infoT_ex
  obtain ⟨a0, c0, e0, hlen, hel⟩ := hT.open
  obtain ⟨rfl, hn2, rfl⟩ : a2 = a0 ∧ n2 = l2.length ∧ c2 = c0 := by simpa using e0
  by_cases h0 : l2 = []
  · have hn : n2 = 0 := by rw [hn2, h0]; rfl
    subst hn h0
    refine wpList_plain hgd fun K hK => ?_
    have hrun : (Builtin.append_ #[39, 39] o.type #[.slice none 0 0, .slice a2 0 c2]).run Tryz.prog w = .ok (.slice none 0 0) w := by
      cases a2 <;> simp [Builtin.append_, run_underlying Tryz.underlying39, sizeOf, typeInfo, i1, Builtin.lenOf, Builtin.firstCells, loadCells, loadCellsFrom]
    unfold Oper.wp
    have hfin : K (a.put o.dst (.slice none 0 0)) w := hK _ _ (h none 0 w (RowT.nil _ _ _) (Below.refl _ _))
    simp [execOp, ho, resolve, invoke, builtin, hs, hx, hrun, Result.andThen, Oper.upon, hfin]
  · have hpos : 0 < l2.length := List.length_pos_iff.2 h0
    rcases hT with ⟨_, _, _, e⟩ | ⟨g2, o2, c2', e, hl2, hb1, hb, hL⟩
    · exact absurd e h0
    · obtain ⟨rfl, _, rfl⟩ : a2 = some ⟨g2, o2, none⟩ ∧ n2 = l2.length ∧ c2 = c2' := by simpa using e
      subst hn2
      obtain ⟨vs, hvl, hc, hpr⟩ := liesT_flat l2 g2 o2 hL
      refine wpList_append_lies w hgd s x 39 ho w.heap.size 41 i0 _ 7 112 Tryz.underlying39 i1 i2 i3 i4 rfl (by omega) (.slice none 0 0) 0 [] hs (World.ownsRow_nil _ _ _ _) ⟨g2, o2, none⟩ l2.length c2 (flatT l2 vs) hx (flatT_len l2 vs hvl) ?_ (flatT_one l2 vs hvl fun i hi => (hpr i hi).one) hpos (by unfold maxLen; omega) (by omega) (Nat.le_refl _) w.heap.size rfl ?_
      · intro j u hj
        rw [Addr.add_lit]; exact hc j u hj
      · intro g cap w' hown' hgrow hat hlt
        have hbl : Below w.heap.size w w' := (Below.refl _ w).grown hgrow (Nat.le_refl _) (fun b hb => by cases hb)
        rw [Nat.zero_add, List.nil_append] at hown'
        rw [Nat.zero_add]
        have hg : g = w.heap.size := by rcases hat with h | h; cases h; exact h
        refine h _ _ w' ⟨vs, hvl, hown', fun i hi => ?_⟩ hbl
        exact (hpr i hi).to (Kx.of_whole (X := fun _ => False) hbl) (fun b h1 h2 => ⟨⟨h2, h1⟩, fun e => by
          have e' : g = b := by simpa [Value.ownBlock] using e
          omega⟩) (fun _ _ _ h => h)
/-- what Make makes -/
def mkT (k : Int) (ks : List Ty) : Ty := .mk k ⟨#[]⟩ (if k = 13 then (ks.length : Int) else 0) false [] [] ks
end Go.Proofs.YtfkkhabpnnealaaGreatDoor.T8

