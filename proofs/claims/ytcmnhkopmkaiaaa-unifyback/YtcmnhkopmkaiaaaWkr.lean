/-
  types.walk over pointers to types, walked for any step.
-/
import Derived.Test.YtcmnhkopmkaiaaaWlR
import Derived.Test.YtcmnhkopmkaiaaaWkp
namespace Go.Proofs.Ytcmnhkopmkaiaaa
open Go.RowKit
attribute [local go_sem] Oper.semAt_some
theorem size_setCell1 (W : World) (B : Nat) (v : Value) : (W.setCell ⟨B, 0, none⟩ v).heap.size = W.heap.size := by simp
theorem heap_new1 (W : World) (B : Nat) (v : Value) (o : Obj) : ((W.setCell ⟨B, 0, none⟩ v).alloc o).heap[W.heap.size]? = some o := by
  have := heap_new (W.setCell ⟨B, 0, none⟩ v) o
  rwa [size_setCell1] at this
theorem two_new (w : World) (a b : Value) (t : TypeId) : ∀ j u, [a, b][j]? = some u → (w.alloc (.cells #[a, b] t)).cell? ((⟨w.heap.size, 0, none⟩ : Addr).add j) = some u := fun j u hj => by
  rw [Addr.add_lit]
  cases j with
  | zero =>
    obtain rfl : a = u := by simpa using hj
    simp
  | succ j => cases j with
    | zero =>
      obtain rfl : b = u := by simpa using hj
      simp
    | succ j => simp at hj
theorem cells_own {α : Type} {B : Nat} {n : Nat} {f : α → Array Value} {T : TypeId} {G : α → Act → Nat → Prop} : ∀ (x : α) (a' : Act), OwnFrom B (fun (_ : Unit) W => ∃ Bx, n ≤ Bx ∧ W.heap[Bx]? = some (.cells (f x) T (0, 0)) ∧ G x a' Bx) := by
  rintro x a' _ W W' row ⟨Bx, h1, h2, h3⟩ hg hr
  refine ⟨Bx, h1, ?_, h3⟩
  refine (hg.block Bx (Array.getElem?_eq_some_iff.1 h2).1 (fun e => ?_)).trans h2
  obtain ⟨_, o, ho, hc⟩ := hr Bx e.symm
  rw [h2] at ho; cases ho; cases hc
/-- what a step gives: what is to follow, or an end -/
def SpR (I : Nat → (Nat → Prop) → List ElR → World → Prop) (Bad : (Nat → Prop) → World → Prop) (g : Nat) (X : Nat → Prop) (r : List ElR) (W : World) (e : Ending) (W' : World) : Prop :=
  (∃ a n c ns g' X', e = .returned (.tuple #[.slice a n c, .bool true]) ∧ RwR X' W' (.slice a n c) ns ∧ g' < g ∧ I g' X' (ns ++ r) W' ∧ Kx X W W' ∧ (∀ b, b < W.heap.size → X' b → X b)) ∨
  (∃ a n c X', e = .returned (.tuple #[.slice a n c, .bool false]) ∧ Bad X' W' ∧ Kx X W W' ∧ (∀ b, b < W.heap.size → X' b → X b))
/-- what walk answers -/
def WqR (I : Nat → (Nat → Prop) → List ElR → World → Prop) (Bad : (Nat → Prop) → World → Prop) (e : Ending) (w' : World) : Prop :=
  (e = .returned (.bool true) ∧ ∃ g X, I g X [] w') ∨ (e = .returned (.bool false) ∧ ∃ X, Bad X w')
/-- the list that is still to come, in its box -/
structure TdR (B : Nat) (X : Nat → Prop) (l : List ElR) (W : World) (v : Value) : Prop where
  box : Boxed W B 45 v
  row : W.ownsRow 0 44 2 v l.length (l.reverse.flatMap ecR)
  nb : ¬ X B
  nr : ∀ k, v.ownBlock = some k → ¬ X k
/-- where the walk's loop stands -/
structure WsR (I : Nat → (Nat → Prop) → List ElR → World → Prop) (B g : Nat) (X : Nat → Prop) (l : List ElR) (Ds : List Nat) (W : World) : Prop where
  inv : I g X l W
  tdo : ∃ v, TdR B X l W v
  nd : Ds.Nodup
  ds : ∀ D, D ∈ Ds → W.heap[D]? = some (.deferred (some [])) ∧ ¬ X D
theorem RwR_one {X : Nat → Prop} {W : World} {v : Value} {l : List ElR} (h : RwR X W v l) : ∃ b, (b = W.heap.size ∨ X b) ∧ RwR (fun c => c = b) W v l := by
  rcases h with h | ⟨b, o, c, e, hl, hb, h1, h2⟩
  · exact ⟨_, .inl rfl, .inl h⟩
  · exact ⟨b, .inr h1, .inr ⟨b, o, c, e, hl, hb, rfl, h2⟩⟩
/-- where the loop over what follows stands -/
structure InR (B gb n : Nat) (r : List ElR) (W3 : World) (pre : List (Nat × ElR)) (W : World) : Prop where
  mk' ::
  ex : ∃ v, Boxed W B 45 v ∧ W.ownsRow 0 44 2 v (n + pre.length) ((r.reverse ++ pre.map Prod.snd).flatMap ecR) ∧ (∀ k, v.ownBlock = some k → k = gb ∨ W3.heap.size ≤ k) ∧ Kx (fun c => c = B ∨ c = gb) W3 W
theorem InR.own {B gb n : Nat} {r : List ElR} {W3 : World} : OwnFrom W3.heap.size (InR B gb n r W3) := by
  rintro pre W W' row ⟨v, h1, h2, h3, h4⟩ hg hr
  refine ⟨v, h1.kept hg (fun e => ?_), h2.kept hg ?_, h3, ?_⟩
  · obtain ⟨_, o, ho, hc⟩ := hr B e.symm
    rw [show W.heap[B]? = _ from h1] at ho; cases ho; cases hc
  · rcases h2.2 with ⟨rfl, _⟩ | ⟨g, cap, cur, rfl, _, hgb, _⟩
    · exact .inl rfl
    · refine .inr fun e => ?_
      obtain ⟨_, o, ho, hc⟩ := hr g (by simpa [Value.ownBlock] using e.symm)
      rw [hgb] at ho; cases ho; cases hc
  · refine ⟨hg.os.trans h4.os, hg.tape.trans h4.tape, hg.output.trans h4.output, Nat.le_trans h4.size hg.size, fun b o hb hx => ?_⟩
    have hlt := (Array.getElem?_eq_some_iff.1 hb).1
    refine (hg.block b (Nat.lt_of_lt_of_le hlt h4.size) (fun e => ?_)).trans (h4.keep b o hb hx)
    have := (hr b e.symm).1
    omega
section
variable {I : Nat → (Nat → Prop) → List ElR → World → Prop} {Bad : (Nat → Prop) → World → Prop}
set_option maxRecDepth 100000 in
set_option maxHeartbeats 4000000 in
theorem walkR (K : FuncId) (caps : Array Value) (hK : ∀ args w, (callFunc K args).run Try.prog w = .ok (.enter K args) w)
    (hS : ∀ g X l W W', I g X l W → Kx (fun b => ¬ X b) W W' → I g X l W') (hSB : ∀ X W W', Bad X W → Kx (fun b => ¬ X b) W W' → Bad X W')
    (hX : ∀ g X l W, I g X l W → ∀ b, X b → b < W.heap.size) (hN : ∀ g X l W, I g X l W → l.length ≤ 1000000)
    (hstep : ∀ g X x r W, I g X (x :: r) W → Calls Try.prog K (#[evR x] ++ caps) W (SpR I Bad g X r W))
    (g : Nat) (x : ElR) (fb fo fc : Nat) (w : World) (hf : w.cell? ⟨fb, fo, none⟩ = some (.pointer (some x.1)) ∧ w.cell? ⟨fb, fo + 1, none⟩ = some (.pointer (some x.2))) (h0 : I g (fun b => b < w.heap.size) [x] w) :
    Calls Try.prog 22 #[.func (.func K) #[] caps, .slice (some ⟨fb, fo, none⟩) 1 fc] w (WqR I Bad) := by
  refine (callsIn_wide (n := 3)).1 ?_
  have hN' := hN
  have hcl := cloneR (w := w) (Src.row fb fo 1 fc (ecR x) (fun j u hj => by
    cases j with
    | zero => obtain rfl : .pointer (some x.1) = u := by simpa [ecR] using hj
              exact hf.1
    | succ j => cases j with
      | zero => obtain rfl : .pointer (some x.2) = u := by simpa [ecR] using hj
                exact hf.2
      | succ j => simp [ecR] at hj)) rfl (by simp [ecR, Value.oneCell']) (by omega)
  have hrev := fun a c w => revR a c w
  have hwd : ∀ k : Nat, (Fence.wide.depth.isSome = true → 1 ≤ k) := fun k h => by simp [Fence.wide] at h
  refine callsIn_of_wp_marks Try.func22 rfl trivial ?_ rfl
  simp only [Try.ntmps22, List.size_toArray, List.length_cons, List.length_nil, Nat.reduceAdd, Nat.reduceSub, Array.replicate_succ, Array.replicate_zero, List.push_toArray, List.append_toArray, List.nil_append, List.cons_append]
  gi_wp2_with (first
    | (refine ⟨trivial, ?_⟩; (try refine ⟨hwd _, ?_⟩); gi_at_call 36; refine (callsIn_wide.2 hcl).mono ?_; intro e w1 hq; obtain ⟨a1, c1, rfl, hr1⟩ := hq.slice; have HR1 : Hid (w1.ownsRow w.heap.size 44 2 (.slice a1 1 c1) 1 (ecR x)) := hr1; have HB1 : Hid (Below w.heap.size w w1) := hq.bl; clear hq hr1 hcl)
    | (refine ⟨trivial, ?_⟩; (try refine ⟨hwd _, ?_⟩); gi_at_call 37; refine (callsIn_wide.2 (hrev _ _ _)).mono ?_; rintro e w2 ⟨⟨rv, rfl⟩, hw2⟩; subst hw2; clear hrev))
  have ht0 : ∃ v, TdR w1.heap.size (fun b => b < w.heap.size) [x] (w1.alloc (.cells #[.slice a1 1 c1] 45)) v := by
    refine ⟨.slice a1 1 c1, Boxed.new _ _ _, ?_, by have := HB1.out.size; show ¬ _ < _; omega, fun k hk => by have := (HR1.out.lt k hk).1; show ¬ _ < _; omega⟩
    exact (ownsRow_down HR1.out (Nat.zero_le _)).alloc _
  have hs0 : WsR I w1.heap.size g (fun b => b < w.heap.size) [x] [] (w1.alloc (.cells #[.slice a1 1 c1] 45)) :=
    ⟨hS _ _ _ _ _ h0 (Kx.of_whole (bthen HB1.out (below_alloc _ _))), ht0, List.nodup_nil, fun D hD => by cases hD⟩
  generalize w1.alloc (.cells #[.slice a1 1 c1] 45) = W0 at hs0 ⊢
  generalize w1.heap.size = B at hs0 ⊢
  have HS0 : Hid (WsR I B g (fun b => b < w.heap.size) [x] [] W0) := hs0
  clear hs0 ht0 HR1 HB1 h0 hf
  rename_i Kz hKz
  refine loopG (fun g a W => ∃ X l Ds u2 u3 u6 u7 u8 u9 u10 u11 u12 u13 u14 u15 u16 u17 u18 u19 u20 u21 u22 u23 u24 u25 u26 u27 u28 u29 u30 u31 u32 u33 u34 u35 u36 u37 u38 u39 u40 u41 u42 u43 u44, a = { tmps := #[.func (.func K) #[] caps, .slice (some ⟨fb, fo, none⟩) 1 fc, u2, u3, .bool false, .pointer (some ⟨B, 0, none⟩), u6, u7, u8, u9, u10, u11, u12, u13, u14, u15, u16, u17, u18, u19, u20, u21, u22, u23, u24, u25, u26, u27, u28, u29, u30, u31, u32, u33, u34, u35, u36, u37, u38, u39, u40, u41, u42, u43, u44], defers := marks Ds } ∧ Hid (WsR I B g X l Ds W)) g ?start ?round
  case start => exact ⟨_, _, [], _, _, _, _, _, _, _, _, _, _, _, _, _, _, _, _, _, _, _, _, _, _, _, _, _, _, _, _, _, _, _, _, _, _, _, _, _, _, _, _, _, rfl, HS0⟩
  case round =>
    clear HS0
    rintro g a W ⟨X, l, Ds, u2, u3, u6, u7, u8, u9, u10, u11, u12, u13, u14, u15, u16, u17, u18, u19, u20, u21, u22, u23, u24, u25, u26, u27, u28, u29, u30, u31, u32, u33, u34, u35, u36, u37, u38, u39, u40, u41, u42, u43, u44, rfl, HW⟩
    cases l with
    | nil =>
      obtain ⟨v, hv⟩ := HW.out.tdo
      have hc := hv.box.cell
      rcases hv.row.2 with ⟨hv0, _⟩ | ⟨gb, cap, cur, hv0, _⟩
      · subst hv0
        clear hv
        gi_wp2
        refine leaves_marks (fun w => results_tmp rfl _ _ _) Ds W HW.out.nd (fun D hD => (HW.out.ds D hD).1) (fun w' hk => .inl ⟨rfl, g, X, hS _ _ _ _ _ HW.out.inv ?_⟩)
        exact hk.andThen (Kx.refl (fun _ => False) _) (fun b _ hb => (HW.out.ds b hb).2) (fun _ _ h => h.elim)
      · subst hv0
        clear hv
        gi_wp2
        refine leaves_marks (fun w => results_tmp rfl _ _ _) Ds W HW.out.nd (fun D hD => (HW.out.ds D hD).1) (fun w' hk => .inl ⟨rfl, g, X, hS _ _ _ _ _ HW.out.inv ?_⟩)
        exact hk.andThen (Kx.refl (fun _ => False) _) (fun b _ hb => (HW.out.ds b hb).2) (fun _ _ h => h.elim)
    | cons y r =>
      obtain ⟨v, hv⟩ := HW.out.tdo
      obtain ⟨n, hn⟩ : ∃ n, r.length = n := ⟨_, rfl⟩
      have hN1 : n + 1 ≤ 1000000 := by have := hN _ _ _ _ HW.out.inv; simpa [hn] using this
      have hrow : W.ownsRow 0 44 2 v (n + 1) (r.reverse.flatMap ecR ++ ecR y) := by have := hv.row; simpa [hn] using this
      obtain ⟨gb, cap, rfl⟩ := ownsRow_succ hrow
      have hc := hv.box.cell
      have hfz := hv.box.frozen
      have hlr : (r.reverse.flatMap ecR).length = n * 2 := by rw [ecR_len]; simp [hn]
      have hcy : W.cell? ⟨gb, n * 2, none⟩ = some (.pointer (some y.1)) := by
        have := hrow.cells (g := gb) rfl (n * 2) (.pointer (some y.1)) (by rw [List.getElem?_append_right (by rw [hlr]; omega), hlr]; simp [ecR])
        rw [Addr.add_lit] at this; simpa using this
      have hcz : W.cell? ⟨gb, n * 2 + 1, none⟩ = some (.pointer (some y.2)) := by
        have := hrow.cells (g := gb) rfl (n * 2 + 1) (.pointer (some y.2)) (by rw [List.getElem?_append_right (by rw [hlr]; omega), hlr]; simp [ecR])
        rw [Addr.add_lit] at this; simpa using this
      have hgbB : gb ≠ B := fun e => by have := hv.box.not_row (by decide) hv.row; exact this (by simp [Value.ownBlock, e])
      have hncap : n + 1 ≤ cap := by
        rcases hrow.2 with ⟨h, _⟩ | ⟨g', cap', cur, h, _, _, h4, _⟩
        · cases h
        · cases h; exact h4
      have hpop := ownsRow_pop (n := n) hlr hrow
      have hkx1 : Kx (fun b => ¬ X b) W ((W.setCell ⟨B, 0, none⟩ (.slice (some ⟨gb, 0, none⟩) n cap)).alloc (.cells #[.pointer (some y.1), .pointer (some y.2)] 44)) := (kx_cell hv.nb).trans (Kx.of_whole (X := fun b => ¬ X b) (below_alloc _ (.cells #[.pointer (some y.1), .pointer (some y.2)] 44)))
      have hi1 := hS _ _ _ _ _ HW.out.inv hkx1
      have hstp := hstep g X y r _ hi1
      have hbx1 := (hv.box.set (.slice (some ⟨gb, 0, none⟩) n cap)).alloc (.cells #[.pointer (some y.1), .pointer (some y.2)] 44)
      have hrw1 : ((W.setCell ⟨B, 0, none⟩ (.slice (some ⟨gb, 0, none⟩) n cap)).alloc (.cells #[.pointer (some y.1), .pointer (some y.2)] 44)).ownsRow 0 44 2 (.slice (some ⟨gb, 0, none⟩) n cap) n (r.reverse.flatMap ecR) := (hpop.kept (grownBy_setCell' W B _) (.inr (by simp [Value.ownBlock]; exact hgbB))).alloc (.cells #[.pointer (some y.1), .pointer (some y.2)] 44)
      have hnr : ¬ X gb := hv.nr gb rfl
      have hds1 : ∀ D, D ∈ Ds → ((W.setCell ⟨B, 0, none⟩ (.slice (some ⟨gb, 0, none⟩) n cap)).alloc (.cells #[.pointer (some y.1), .pointer (some y.2)] 44)).heap[D]? = some (.deferred (some [])) ∧ ¬ X D := fun D hD => by
        have h := HW.out.ds D hD
        refine ⟨((Below.heap_alloc _ _ _ (by rw [size_setCell1]; exact (Array.getElem?_eq_some_iff.1 h.1).1)).trans (Below.heap_setCell _ _ _ D (fun e => ?_))).trans h.1, h.2⟩
        have hb := hv.box
        unfold Boxed at hb
        rw [show D = B from e, hb] at h
        simp at h
      have hnd := HW.out.nd
      have HN1 : Hid (¬ X B) := hv.nb
      have HV0 : Hid (Boxed W B 45 (.slice (some ⟨gb, 0, none⟩) (n + 1) cap)) := hv.box
      have HGL : Hid (gb < W.heap.size) := (hrow.lt gb rfl).2
      have HBX : Hid (Boxed ((W.setCell ⟨B, 0, none⟩ (.slice (some ⟨gb, 0, none⟩) n cap)).alloc (.cells #[.pointer (some y.1), .pointer (some y.2)] 44)) B 45 (.slice (some ⟨gb, 0, none⟩) n cap)) := hbx1
      have HRW : Hid (((W.setCell ⟨B, 0, none⟩ (.slice (some ⟨gb, 0, none⟩) n cap)).alloc (.cells #[.pointer (some y.1), .pointer (some y.2)] 44)).ownsRow 0 44 2 (.slice (some ⟨gb, 0, none⟩) n cap) n (r.reverse.flatMap ecR)) := hrw1
      have HDS : Hid (∀ D, D ∈ Ds → ((W.setCell ⟨B, 0, none⟩ (.slice (some ⟨gb, 0, none⟩) n cap)).alloc (.cells #[.pointer (some y.1), .pointer (some y.2)] 44)).heap[D]? = some (.deferred (some [])) ∧ ¬ X D) := hds1
      have HND : Hid Ds.Nodup := hnd
      have HRN : Hid (r.length = n) := hn
      have HNR : Hid (¬ X gb) := hnr
      have HGB : Hid (gb ≠ B) := hgbB
      have HST : Hid (Calls Try.prog K (#[evR y] ++ caps) ((W.setCell ⟨B, 0, none⟩ (.slice (some ⟨gb, 0, none⟩) n cap)).alloc (.cells #[.pointer (some y.1), .pointer (some y.2)] 44)) (SpR I Bad g X r ((W.setCell ⟨B, 0, none⟩ (.slice (some ⟨gb, 0, none⟩) n cap)).alloc (.cells #[.pointer (some y.1), .pointer (some y.2)] 44)))) := hstp
      have hneB : W.heap.size ≠ B := by have := HV0.out.lt; omega
      have hl0 : ((W.setCell ⟨B, 0, none⟩ (.slice (some ⟨gb, 0, none⟩) n cap)).alloc (.cells #[.pointer (some y.1), .pointer (some y.2)] 44)).cell? ⟨W.heap.size, 0, none⟩ = some (.pointer (some y.1)) := cell_of (heap_new1 W B _ (.cells #[.pointer (some y.1), .pointer (some y.2)] 44)) 0
      have hl1 : ((W.setCell ⟨B, 0, none⟩ (.slice (some ⟨gb, 0, none⟩) n cap)).alloc (.cells #[.pointer (some y.1), .pointer (some y.2)] 44)).cell? ⟨W.heap.size, 1, none⟩ = some (.pointer (some y.2)) := cell_of (heap_new1 W B _ (.cells #[.pointer (some y.1), .pointer (some y.2)] 44)) 1
      have hVx := HV0.out.lt
      have hgbW := HGL.out
      have hw1 : wrap64 ((n : Int) + 1 - 1) = (n : Int) := by unfold wrap64; omega
      have hw2 : ((n : Int) + 1 - 1) = (n : Int) := by omega
      clear hv hrow hpop hkx1 hi1 hstp hbx1 hrw1 hds1 hnd hn hnr hgbB HW hN
      gi_wp2
      refine ⟨trivial, ?_⟩
      refine (callsIn_wide.2 HST.out).mono ?_
      rintro e W2 (⟨a2, n2, c2, ns, g', X', rfl, hP, hg', hi2, hk2, hx2⟩ | ⟨a2, n2, c2, X', rfl, hb2, hk2, hx2⟩)
      rotate_left
      · have hds2 : ∀ D, D ∈ Ds → W2.heap[D]? = some (.deferred (some [])) ∧ ¬ X' D := fun D hD => by
          have h := HDS.out D hD
          exact ⟨hk2.keep _ _ h.1 h.2, fun h' => h.2 (hx2 D (Array.getElem?_eq_some_iff.1 h.1).1 h')⟩
        clear HST hk2 hx2
        gi_wp2
        refine leaves_marks (fun w => results_tmp rfl _ _ _) Ds W2 HND.out (fun D hD => (hds2 D hD).1) (fun w' hk => .inr ⟨rfl, X', hSB _ _ _ hb2 ?_⟩)
        exact hk.andThen (Kx.refl (fun _ => False) _) (fun b _ hb => (hds2 b hb).2) (fun _ _ h => h.elim)
      have hbt := fun w => bwdR a2 n2 c2 w
      have HP : Hid (RwR X' W2 (.slice a2 n2 c2) ns) := hP
      have HI2 : Hid (I g' X' (ns ++ r) W2) := hi2
      have HK2 : Hid (Kx X ((W.setCell ⟨B, 0, none⟩ (.slice (some ⟨gb, 0, none⟩) n cap)).alloc (.cells #[.pointer (some y.1), .pointer (some y.2)] 44)) W2) := hk2
      have HX2 : Hid (∀ b, b < ((W.setCell ⟨B, 0, none⟩ (.slice (some ⟨gb, 0, none⟩) n cap)).alloc (.cells #[.pointer (some y.1), .pointer (some y.2)] 44)).heap.size → X' b → X b) := hx2
      clear hP hi2 hk2 hx2 HST
      gi_wp2_with (refine ⟨trivial, ?_⟩; (try refine ⟨hwd _, ?_⟩); gi_at_call 38; refine (callsIn_wide.2 (hbt _)).mono ?_; rintro e W3 ⟨rfl, rfl⟩; clear hbt)
      have hsz1 : ((W.setCell ⟨B, 0, none⟩ (.slice (some ⟨gb, 0, none⟩) n cap)).alloc (.cells #[.pointer (some y.1), .pointer (some y.2)] 44)).heap.size ≤ W2.heap.size := HK2.out.size
      have hbx2 : Boxed W2 B 45 (.slice (some ⟨gb, 0, none⟩) n cap) := HK2.out.keep _ _ HBX.out HN1.out
      have hgb1 : gb < ((W.setCell ⟨B, 0, none⟩ (.slice (some ⟨gb, 0, none⟩) n cap)).alloc (.cells #[.pointer (some y.1), .pointer (some y.2)] 44)).heap.size := (HRW.out.lt gb rfl).2
      have hB1 : B < ((W.setCell ⟨B, 0, none⟩ (.slice (some ⟨gb, 0, none⟩) n cap)).alloc (.cells #[.pointer (some y.1), .pointer (some y.2)] 44)).heap.size := HBX.out.lt
      have hrw2 : W2.ownsRow 0 44 2 (.slice (some ⟨gb, 0, none⟩) n cap) n (r.reverse.flatMap ecR) := ownsRow_kx HRW.out HK2.out (fun k hk => by cases hk; exact HNR.out)
      have hnB : ¬ X' B := fun h => HN1.out (HX2.out B hB1 h)
      have hng : ¬ X' gb := fun h => HNR.out (HX2.out gb hgb1 h)
      have hds2 : ∀ D, D ∈ Ds → W2.heap[D]? = some (.deferred (some [])) ∧ ¬ X' D := fun D hD => by
        have h := HDS.out D hD
        exact ⟨HK2.out.keep _ _ h.1 h.2, fun h' => h.2 (HX2.out D (Array.getElem?_eq_some_iff.1 h.1).1 h')⟩
      have hnl := hN' _ _ _ _ HI2.out
      rw [List.length_append, HRN.out] at hnl
      obtain ⟨b, hb, hPb⟩ := RwR_one HP.out
      have hbX : b < W2.heap.size → X' b := fun h => hb.resolve_left (by omega)
      have hbl : b ≤ W2.heap.size := by
        rcases hb with h | h
        · omega
        · have := hX _ _ _ _ HI2.out b h; omega
      have hPb3 := hPb.kept (below_alloc W2 (.cells #[.slice a2 n2 c2] 45))
      have hne : ∀ c, c = W2.heap.size ∨ c = b → c ≠ B ∧ c ≠ gb := fun c hc => by
        have hB2 := hbx2.lt
        have hg2 := (hrw2.lt gb rfl).2
        rcases hc with rfl | rfl
        · omega
        · rcases hb with h | h
          · omega
          · exact ⟨fun e => hnB (e ▸ h), fun e => hng (e ▸ h)⟩
      obtain ⟨i0, ii, iz0, iz1, iz2⟩ := infoR_ex
      clear HK2 HX2 HBX HRW HDS HN1 HNR HP hPb hsz1 hgb1 hB1
      have hszA : (W2.alloc (.cells #[.slice a2 n2 c2] 45)).heap.size = W2.heap.size + 1 := by simp
      refine wpIn_rangeFunc_ownH rfl (by omega) (gf := 48) (lb := #[.pointer (some ⟨W2.heap.size, 0, none⟩)]) rfl trivial (enters_of Try.func48 (by kernel_rfl) rfl)
        (bwdR_stops (3 - 1) W2.heap.size b (.slice a2 n2 c2) ns (by omega) (W2.alloc (.cells #[.slice a2 n2 c2] 45)) (by rw [hszA]; omega) (Boxed.new W2 _ _).cell hPb3) Kb.trans
        (fun W' l o o' hl _ _ _ => ⟨World.putObj_heap_other (by rw [hszA] at hl; omega), World.putObj_heap_other (by rw [hszA] at hl; omega)⟩) (Below.refl _ _) (fun _ => rfl)
        (InR B gb n r (W2.alloc (.cells #[.slice a2 n2 c2] 45))) (fun _ _ _ => False) InR.own (fun _ _ _ _ _ h _ _ => h)
        ⟨_, (hbx2.alloc _), by simpa using hrw2.alloc _, fun k hk => .inl (by cases hk; rfl), Kx.refl _ _⟩
        (fun x a' W' => ∃ Bx, (W2.alloc (.cells #[.slice a2 n2 c2] 45)).heap.size ≤ Bx ∧ W'.heap[Bx]? = some (.cells #[(.pointer (some x.2.1)), (.pointer (some x.2.2))] 44 (0, 0)) ∧ a' = { tmps := #[.func (.func K) #[] caps, .slice (some ⟨fb, fo, none⟩) 1 fc, u2, u3, .bool false, .pointer (some ⟨B, 0, none⟩), .pointer (some ⟨W.heap.size, 0, none⟩), .slice a2 n2 c2, .bool true, u9, .pointer (some ⟨Bx, 0, none⟩), u11, u12, u13, u14, .slice (some ⟨gb, 0, none⟩) (n + 1) cap, .int .i64 ((n : Int) + 1), .bool true, .slice (some ⟨gb, 0, none⟩) (n + 1) cap, .slice (some ⟨gb, 0, none⟩) (n + 1) cap, .int .i64 ((n : Int) + 1), .int .i64 (n : Int), .pointer (some ⟨gb, n * 2, none⟩), evR y, .slice (some ⟨gb, 0, none⟩) (n + 1) cap, .slice (some ⟨gb, 0, none⟩) (n + 1) cap, .int .i64 ((n : Int) + 1), .int .i64 (n : Int), .slice (some ⟨gb, 0, none⟩) n cap, .tuple #[.slice a2 n2 c2, .bool true], .func (.func K) #[] caps, evR y, .tuple #[.slice a2 n2 c2, .bool true], .slice a2 n2 c2, .bool true, .bool true, .bool false, .slice a2 n2 c2, .func (.func 48) #[] #[.pointer (some ⟨W2.heap.size, 0, none⟩)], .int .i64 (x.1 : Nat), evR x.2, u41, u42, u43, u44], defers := [] }) cells_own ?assign ?body ?done ?stop
      case assign =>
        rintro l pre x W' K' hi hK'
        obtain ⟨_, _, _, _, hkx⟩ := hi.ex
        have hszW := hkx.size
        rw [hszA] at hszW
        gi_wp2
        exact hK' _ _ ((KeepsOthers.alloc _ _).from _) ⟨Below.heap_alloc _ _ _ (by omega), Below.heap_alloc _ _ _ (by omega)⟩ (InR.own.alloc _ hi) ⟨W'.heap.size, by rw [hszA]; omega, heap_new _ _, rfl⟩
      case stop =>
        rintro D c pre W' _ _ h _
        exact h.elim
      case done =>
        rintro D ys W' hD hys ⟨v', hbx', hrw', hvb', hkx'⟩ hDe
        have hkk : Kx (fun b => ¬ X' b) W2 W' := (Kx.of_whole (X := fun b => ¬ X' b) (below_alloc W2 (.cells #[.slice a2 n2 c2] 45))).andThen hkx' (fun _ _ h => h) (fun c _ h => by rcases h with rfl | rfl; exact hnB; exact hng)
        have hDX : ¬ X' D := fun h => by have := hX _ _ _ _ HI2.out D h; rw [hszA] at hD; omega
        have hws : WsR I B g' X' (ns ++ r) (D :: Ds) W' := by
          refine ⟨hS _ _ _ _ _ HI2.out hkk, ⟨v', hbx', ?_, hnB, fun k hk h => ?_⟩, List.nodup_cons.2 ⟨fun h => ?_, HND.out⟩, fun D' hD' => ?_⟩
          · have e1 : ys.length = ns.length := by have := congrArg List.length hys; simpa using this
            rw [hys, e1, ← List.reverse_append] at hrw'
            rw [List.length_append, HRN.out, Nat.add_comm]
            exact hrw'
          · rcases hvb' k hk with h' | h'
            · exact hng (h' ▸ h)
            · have := hX _ _ _ _ HI2.out k h; rw [hszA] at h'; omega
          · have := (Array.getElem?_eq_some_iff.1 (hds2 D h).1).1; rw [hszA] at hD; omega
          · rcases List.mem_cons.1 hD' with rfl | hD'
            · exact ⟨hDe, hDX⟩
            · have h := hds2 D' hD'
              refine ⟨hkx'.keep _ _ ((Below.heap_alloc _ _ _ (Array.getElem?_eq_some_iff.1 h.1).1).trans h.1) (fun e => ?_), h.2⟩
              rcases e with rfl | rfl
              · have := h.1.symm.trans hbx2; simp at this
              · obtain ⟨cur, hcur⟩ := ownsRow_cells hrw2
                have := h.1.symm.trans hcur; simp at this
        have HWS : Hid (WsR I B g' X' (ns ++ r) (D :: Ds) W') := hws
        clear hws hkk hbx' hrw' hkx'
        gi_wp2
        exact ⟨g', hg', X', ns ++ r, D :: Ds, _, _, _, _, _, _, _, _, _, _, _, _, _, _, _, _, _, _, _, _, _, _, _, _, _, _, _, _, _, _, _, _, _, _, _, _, _, _, _, _, _, rfl, HWS⟩
      case body =>
        rintro l pre x a' W' hl9 ⟨rr, hrr⟩ ⟨v', hv, hrow, hvb, hkx⟩ ⟨Bx, hBx, hbx, rfl⟩ hpre
        have hbx0 := cell_of hbx 0
        have hbx1 := cell_of hbx 1
        simp only [List.getElem?_toArray, List.getElem?_cons_zero, List.getElem?_cons_succ] at hbx0 hbx1
        have hBxl := (Array.getElem?_eq_some_iff.1 hbx).1
        clear hbx hrr
        have hcv := hv.cell
        have HV : Hid (Boxed W' B 45 v') := hv
        have HR : Hid (W'.ownsRow 0 44 2 v' (n + pre.length) ((r.reverse ++ pre.map Prod.snd).flatMap ecR)) := hrow
        have HVB : Hid (∀ k, v'.ownBlock = some k → k = gb ∨ (W2.alloc (.cells #[.slice a2 n2 c2] 45)).heap.size ≤ k) := hvb
        have HKX : Hid (Kx (fun c => c = B ∨ c = gb) (W2.alloc (.cells #[.slice a2 n2 c2] 45)) W') := hkx
        have hszW := hkx.size
        rw [hszA] at hszW
        have hbd1 : n + pre.length + 1 ≤ 1000000 := by omega
        clear hv hrow hvb hkx
        obtain ⟨va, vn, vc, rfl⟩ : ∃ va vn vc, v' = .slice va vn vc := by
          rcases HR.out.2 with ⟨rfl, _⟩ | ⟨g, cap, cur, rfl, _⟩
          · exact ⟨_, _, _, rfl⟩
          · exact ⟨_, _, _, rfl⟩
        gi_wp2_with (gi_at_builtin; refine wpListIn_append_at _ rfl _ _ 45 rfl 0 44 i0 (.agg #[.pointer none, .pointer none]) 2 16 Try.underlying45 ii iz0 iz1 iz2 rfl (by decide) _ _ _ rfl (HR.out.alloc _) ⟨W'.heap.size, 0, none⟩ 1 1 (ecR x.2) rfl rfl (two_new _ _ _ _) (by simp [ecR, Value.oneCell']) (by simp [maxLen]; omega) (by omega) (Nat.zero_le _) ?_; intro v2 w1 hown' hgrow hblk; obtain ⟨g9, cap9, rfl⟩ := ownsRow_succ hown'; obtain ⟨hv1, hv2, hr2, hk2, hb2⟩ := HV.out.appended (by decide) HR.out (Nat.zero_le _) (Nat.zero_le _) hown' hgrow; have hc1 := hv1.cell; have hf1 := hv1.frozen; have HGR : Hid _ := hgrow; have HBK : Hid _ := hblk; clear hgrow hblk)
        have hkall : Kx (fun c => c = B ∨ (Value.slice va vn vc).ownBlock = some c) W' (w1.setCell ⟨B, 0, none⟩ (.slice (some ⟨g9, 0, none⟩) (n + pre.length + 1) cap9)) := by
          have k1 : Kx (fun c => c = B ∨ (Value.slice va vn vc).ownBlock = some c) W' w1 := (Kx.of_whole (X := fun c => c = B ∨ (Value.slice va vn vc).ownBlock = some c) (below_alloc W' _)).andThen (grownBy_kx HGR.out) (fun _ _ h => h) (fun c _ h => .inr h)
          exact k1.andThen (kx_set1 (W := w1) (B := B)) (fun _ _ h => h) (fun c _ h => .inl h)
        have hvb2 : ∀ c, c < W2.heap.size + 1 → (Value.slice va vn vc).ownBlock = some c → c = gb := fun c hc h => by
          rcases HVB.out c h with h | h
          · exact h
          · rw [hszA] at h; omega
        refine ⟨hk2.from _, ⟨?_, ?_⟩, _, hv2, ?_, fun k hk => ?_, ?_⟩
        · have e := hne W2.heap.size (.inl rfl)
          obtain ⟨o, ho⟩ : ∃ o, W'.heap[W2.heap.size]? = some o := ⟨_, Array.getElem?_eq_getElem (by omega)⟩
          rw [ho]; exact hkall.keep _ _ ho (fun h => by rcases h with h | h; exact e.1 h; exact e.2 (hvb2 _ (by omega) h))
        · have e := hne b (.inr rfl)
          obtain ⟨o, ho⟩ : ∃ o, W'.heap[b]? = some o := ⟨_, Array.getElem?_eq_getElem (by omega)⟩
          rw [ho]; exact hkall.keep _ _ ho (fun h => by rcases h with h | h; exact e.1 h; exact e.2 (hvb2 _ (by omega) h))
        · rw [show n + (pre ++ [x]).length = n + pre.length + 1 by simp; omega, show List.flatMap ecR (r.reverse ++ List.map Prod.snd (pre ++ [x])) = List.flatMap ecR (r.reverse ++ List.map Prod.snd pre) ++ ecR x.2 by simp]
          exact hr2
        · cases hk
          rcases HBK.out g9 rfl with h | h
          · exact HVB.out _ h
          · refine .inr ?_; show _ ≤ g9; rw [hszA]; rw [World.size_alloc] at h; omega
        · exact HKX.out.andThen hkall (fun _ _ h => h) (fun c hc h => by rcases h with h | h; exact .inl h; exact .inr (hvb2 c (by rw [hszA] at hc; exact hc) h))
end
end Go.Proofs.Ytcmnhkopmkaiaaa

