/-
  types.walk over pointers to types, walked for any step.
-/
import Derived.Test.YtcmnhkopmkaiaaaWlP
namespace Go.Proofs.Ytcmnhkopmkaiaaa
open Go.RowKit
attribute [local go_sem] Oper.semAt_some
/-- what a step gives: what is to follow, or an end -/
def StQ (I : Nat → (Nat → Prop) → List Addr → World → Prop) (Bad : (Nat → Prop) → World → Prop) (g : Nat) (X : Nat → Prop) (r : List Addr) (W : World) (e : Ending) (W' : World) : Prop :=
  (∃ a n c ns g' X', e = .returned (.tuple #[.slice a n c, .bool true]) ∧ PtV X' W' (.slice a n c) ns ∧ g' < g ∧ I g' X' (ns ++ r) W' ∧ Kx X W W' ∧ (∀ b, b < W.heap.size → X' b → X b)) ∨
  (∃ a n c X', e = .returned (.tuple #[.slice a n c, .bool false]) ∧ Bad X' W' ∧ Kx X W W' ∧ (∀ b, b < W.heap.size → X' b → X b))
/-- what walk answers -/
def WkQ (I : Nat → (Nat → Prop) → List Addr → World → Prop) (Bad : (Nat → Prop) → World → Prop) (e : Ending) (w' : World) : Prop :=
  (e = .returned (.bool true) ∧ ∃ g X, I g X [] w') ∨ (e = .returned (.bool false) ∧ ∃ X, Bad X w')
/-- the list that is still to come, in its box -/
structure Tdo (B : Nat) (X : Nat → Prop) (l : List Addr) (W : World) (v : Value) : Prop where
  box : Boxed W B 49 v
  row : W.ownsRow 0 40 1 v l.length (l.reverse.map pv)
  nb : ¬ X B
  nr : ∀ k, v.ownBlock = some k → ¬ X k
/-- where the walk's loop stands -/
structure WkS (I : Nat → (Nat → Prop) → List Addr → World → Prop) (B g : Nat) (X : Nat → Prop) (l : List Addr) (Ds : List Nat) (W : World) : Prop where
  inv : I g X l W
  tdo : ∃ v, Tdo B X l W v
  nd : Ds.Nodup
  ds : ∀ D, D ∈ Ds → W.heap[D]? = some (.deferred (some [])) ∧ ¬ X D
theorem ownsRow_down {w : World} {base base' : Nat} {e : TypeId} {size : Nat} {v : Value} {n : Nat} {xs : List Value} (h : w.ownsRow base e size v n xs) (hb : base' ≤ base) : w.ownsRow base' e size v n xs := by
  refine ⟨h.1, ?_⟩
  rcases h.2 with h | ⟨g, cap, cur, h1, h2, h3⟩
  · exact .inl h
  · exact .inr ⟨g, cap, cur, h1, Nat.le_trans hb h2, h3⟩
theorem kx_cell {X : Nat → Prop} {W : World} {B : Nat} {v : Value} (h : ¬ X B) : Kx (fun b => ¬ X b) W (W.setCell ⟨B, 0, none⟩ v) :=
  ⟨rfl, rfl, rfl, (KeepsWalks.setCell W _ v).size, fun b _ hb hx => (Below.heap_setCell _ _ _ b (fun e => by cases e; exact hx h)).trans hb⟩
theorem ownsRow_kx {X : Nat → Prop} {w w' : World} {base : Nat} {e : TypeId} {size : Nat} {v : Value} {n : Nat} {xs : List Value} (h : w.ownsRow base e size v n xs) (hk : Kx X w w') (hx : ∀ k, v.ownBlock = some k → ¬ X k) : w'.ownsRow base e size v n xs := by
  refine ⟨h.1, ?_⟩
  rcases h.2 with h | ⟨g, cap, cur, rfl, h2, h3, h4⟩
  · exact .inl h
  · exact .inr ⟨g, cap, cur, rfl, h2, hk.keep _ _ h3 (hx g rfl), h4⟩
theorem ownsRow_cells {w : World} {base : Nat} {e : TypeId} {size g n c : Nat} {xs : List Value} (h : w.ownsRow base e size (.slice (some ⟨g, 0, none⟩) n c) n xs) : ∃ cur, w.heap[g]? = some (.cells cur e (0, 0)) := by
  rcases h.2 with ⟨h, _⟩ | ⟨g', cap, cur, h1, h2, h3, h4⟩
  · cases h
  · cases h1; exact ⟨cur, h3⟩
theorem PtV_one {X : Nat → Prop} {W : World} {v : Value} {l : List Addr} (h : PtV X W v l) : ∃ b, (b = W.heap.size ∨ X b) ∧ PtV (fun c => c = b) W v l := by
  rcases h with h | ⟨b, o, c, e, hl, hb, h1, h2⟩
  · exact ⟨_, .inl rfl, .inl h⟩
  · exact ⟨b, .inr h1, .inr ⟨b, o, c, e, hl, hb, rfl, h2⟩⟩
/-- where the loop over what follows stands -/
structure InS (B gb n : Nat) (r : List Addr) (W3 : World) (pre : List (Nat × Addr)) (W : World) : Prop where
  mk' ::
  ex : ∃ v, Boxed W B 49 v ∧ W.ownsRow 0 40 1 v (n + pre.length) ((r.reverse ++ pre.map Prod.snd).map pv) ∧ (∀ k, v.ownBlock = some k → k = gb ∨ W3.heap.size ≤ k) ∧ Kx (fun c => c = B ∨ c = gb) W3 W
theorem InS.own {B gb n : Nat} {r : List Addr} {W3 : World} : OwnFrom W3.heap.size (InS B gb n r W3) := by
  rintro pre W W' row ⟨v, h1, h2, h3, h4⟩ hg hr
  refine ⟨v, h1.kept hg (fun e => ?_), h2.kept hg ?_, h3, ?_⟩
  · obtain ⟨_, o, ho, hc⟩ := hr B e.symm
    rw [show W.heap[B]? = _ from h1] at ho; cases ho; cases hc
  · rcases h2.2 with ⟨rfl, _⟩ | ⟨g, cap, cur, rfl, _, hgb, _⟩
    · exact .inl rfl
    · refine .inr fun e => ?_
      obtain ⟨_, o, ho, hc⟩ := hr g (by simpa [Value.ownBlock] using e.symm)
      rw [hgb] at ho; cases ho; cases hc
  · refine ⟨hg.os.trans h4.os, hg.tape.trans h4.tape, hg.output.trans h4.output, Nat.le_trans h4.size hg.size, fun b o hb hx => ?_⟩
    have hlt := (Array.getElem?_eq_some_iff.1 hb).1
    refine (hg.block b (Nat.lt_of_lt_of_le hlt h4.size) (fun e => ?_)).trans (h4.keep b o hb hx)
    have := (hr b e.symm).1
    omega
theorem kx_set1 {W : World} {B : Nat} {v : Value} : Kx (fun b => b = B) W (W.setCell ⟨B, 0, none⟩ v) :=
  ⟨rfl, rfl, rfl, (KeepsWalks.setCell W _ v).size, fun b _ hb hx => (Below.heap_setCell _ _ _ b hx).trans hb⟩
section
variable {I : Nat → (Nat → Prop) → List Addr → World → Prop} {Bad : (Nat → Prop) → World → Prop}
set_option maxRecDepth 100000 in
set_option maxHeartbeats 4000000 in
theorem walkP (K : FuncId) (caps : Array Value) (hK : ∀ args w, (callFunc K args).run Try.prog w = .ok (.enter K args) w)
    (hS : ∀ g X l W W', I g X l W → Kx (fun b => ¬ X b) W W' → I g X l W') (hSB : ∀ X W W', Bad X W → Kx (fun b => ¬ X b) W W' → Bad X W')
    (hX : ∀ g X l W, I g X l W → ∀ b, X b → b < W.heap.size) (hN : ∀ g X l W, I g X l W → l.length ≤ 1000000)
    (hstep : ∀ g X x r W, I g X (x :: r) W → Calls Try.prog K (#[pv x] ++ caps) W (StQ I Bad g X r W))
    (g : Nat) (x : Addr) (fb fo fc : Nat) (w : World) (hf : w.cell? ⟨fb, fo, none⟩ = some (pv x)) (h0 : I g (fun b => b < w.heap.size) [x] w) :
    Calls Try.prog 25 #[.func (.func K) #[] caps, .slice (some ⟨fb, fo, none⟩) 1 fc] w (WkQ I Bad) := by
  refine (callsIn_wide (n := 3)).1 ?_
  have hN' := hN
  have hcl := cloneP (w := w) (Src.row fb fo 1 fc [pv x] (fun j u hj => by
    cases j with
    | zero => obtain rfl : pv x = u := by simpa using hj
              exact hf
    | succ j => simp at hj)) rfl (by simp [Value.oneCell']) (by omega)
  have hrev := fun a c w => revP a c w
  have hwd : ∀ k : Nat, (Fence.wide.depth.isSome = true → 1 ≤ k) := fun k h => by simp [Fence.wide] at h
  refine callsIn_of_wp_marks Try.func25 rfl trivial ?_ rfl
  simp only [Try.ntmps25, List.size_toArray, List.length_cons, List.length_nil, Nat.reduceAdd, Nat.reduceSub, Array.replicate_succ, Array.replicate_zero, List.push_toArray, List.append_toArray, List.nil_append, List.cons_append]
  gi_wp2_with (first
    | (refine ⟨trivial, ?_⟩; (try refine ⟨hwd _, ?_⟩); gi_at_call 41; refine (callsIn_wide.2 hcl).mono ?_; intro e w1 hq; obtain ⟨a1, c1, rfl, hr1⟩ := hq.slice; have HR1 : Hid (w1.ownsRow w.heap.size 40 1 (.slice a1 1 c1) 1 [pv x]) := hr1; have HB1 : Hid (Below w.heap.size w w1) := hq.bl; clear hq hr1 hcl)
    | (refine ⟨trivial, ?_⟩; (try refine ⟨hwd _, ?_⟩); gi_at_call 42; refine (callsIn_wide.2 (hrev _ _ _)).mono ?_; rintro e w2 ⟨⟨rv, rfl⟩, hw2⟩; subst hw2; clear hrev))
  have ht0 : ∃ v, Tdo w1.heap.size (fun b => b < w.heap.size) [x] (w1.alloc (.cells #[.slice a1 1 c1] 49)) v := by
    refine ⟨.slice a1 1 c1, Boxed.new _ _ _, ?_, by have := HB1.out.size; show ¬ _ < _; omega, fun k hk => by have := (HR1.out.lt k hk).1; show ¬ _ < _; omega⟩
    exact (ownsRow_down HR1.out (Nat.zero_le _)).alloc _
  have hs0 : WkS I w1.heap.size g (fun b => b < w.heap.size) [x] [] (w1.alloc (.cells #[.slice a1 1 c1] 49)) :=
    ⟨hS _ _ _ _ _ h0 (Kx.of_whole (bthen HB1.out (below_alloc _ _))), ht0, List.nodup_nil, fun D hD => by cases hD⟩
  generalize w1.alloc (.cells #[.slice a1 1 c1] 49) = W0 at hs0 ⊢
  generalize w1.heap.size = B at hs0 ⊢
  have HS0 : Hid (WkS I B g (fun b => b < w.heap.size) [x] [] W0) := hs0
  clear hs0 ht0 HR1 HB1 h0 hf
  rename_i Kz hKz
  refine loopG (fun g a W => ∃ X l Ds u2 u3 u6 u7 u8 u9 u10 u11 u12 u13 u14 u15 u16 u17 u18 u19 u20 u21 u22 u23 u24 u25 u26 u27 u28 u29 u30 u31 u32 u33 u34 u35 u36 u37 u38 u39 u40 u41 u42 u43 u44, a = { tmps := #[.func (.func K) #[] caps, .slice (some ⟨fb, fo, none⟩) 1 fc, u2, u3, .bool false, .pointer (some ⟨B, 0, none⟩), u6, u7, u8, u9, u10, u11, u12, u13, u14, u15, u16, u17, u18, u19, u20, u21, u22, u23, u24, u25, u26, u27, u28, u29, u30, u31, u32, u33, u34, u35, u36, u37, u38, u39, u40, u41, u42, u43, u44], defers := marks Ds } ∧ Hid (WkS I B g X l Ds W)) g ?start ?round
  case start => exact ⟨_, _, [], _, _, _, _, _, _, _, _, _, _, _, _, _, _, _, _, _, _, _, _, _, _, _, _, _, _, _, _, _, _, _, _, _, _, _, _, _, _, _, _, _, rfl, HS0⟩
  case round =>
    clear HS0
    rintro g a W ⟨X, l, Ds, u2, u3, u6, u7, u8, u9, u10, u11, u12, u13, u14, u15, u16, u17, u18, u19, u20, u21, u22, u23, u24, u25, u26, u27, u28, u29, u30, u31, u32, u33, u34, u35, u36, u37, u38, u39, u40, u41, u42, u43, u44, rfl, HW⟩
    cases l with
    | nil =>
      obtain ⟨v, hv⟩ := HW.out.tdo
      have hc := hv.box.cell
      rcases hv.row.2 with ⟨hv0, _⟩ | ⟨gb, cap, cur, hv0, _⟩
      · subst hv0
        clear hv
        gi_wp2
        refine leaves_marks (fun w => results_tmp rfl _ _ _) Ds W HW.out.nd (fun D hD => (HW.out.ds D hD).1) (fun w' hk => .inl ⟨rfl, g, X, hS _ _ _ _ _ HW.out.inv ?_⟩)
        exact hk.andThen (Kx.refl (fun _ => False) _) (fun b _ hb => (HW.out.ds b hb).2) (fun _ _ h => h.elim)
      · subst hv0
        clear hv
        gi_wp2
        refine leaves_marks (fun w => results_tmp rfl _ _ _) Ds W HW.out.nd (fun D hD => (HW.out.ds D hD).1) (fun w' hk => .inl ⟨rfl, g, X, hS _ _ _ _ _ HW.out.inv ?_⟩)
        exact hk.andThen (Kx.refl (fun _ => False) _) (fun b _ hb => (HW.out.ds b hb).2) (fun _ _ h => h.elim)
    | cons y r =>
      obtain ⟨v, hv⟩ := HW.out.tdo
      obtain ⟨n, hn⟩ : ∃ n, r.length = n := ⟨_, rfl⟩
      have hN1 : n + 1 ≤ 1000000 := by have := hN _ _ _ _ HW.out.inv; simpa [hn] using this
      have hrow : W.ownsRow 0 40 1 v (n + 1) (r.reverse.map pv ++ [pv y]) := by have := hv.row; simpa [hn] using this
      obtain ⟨gb, cap, rfl⟩ := ownsRow_succ hrow
      have hc := hv.box.cell
      have hfz := hv.box.frozen
      have hcy : W.cell? ⟨gb, n, none⟩ = some (pv y) := by
        have := hrow.cells (g := gb) rfl n (pv y) (by rw [List.getElem?_append_right (by simp [hn])]; simp [hn])
        rw [Addr.add_lit] at this; simpa using this
      have hgbB : gb ≠ B := fun e => by have := hv.box.not_row (by decide) hv.row; exact this (by simp [Value.ownBlock, e])
      have hncap : n + 1 ≤ cap := by
        rcases hrow.2 with ⟨h, _⟩ | ⟨g', cap', cur, h, _, _, h4, _⟩
        · cases h
        · cases h; exact h4
      have hpop := ownsRow_pop (n := n) (by simp [hn]) hrow
      have hkx1 : Kx (fun b => ¬ X b) W (W.setCell ⟨B, 0, none⟩ (.slice (some ⟨gb, 0, none⟩) n cap)) := kx_cell hv.nb
      have hi1 := hS _ _ _ _ _ HW.out.inv hkx1
      have hstp := hstep g X y r _ hi1
      have hbx1 := hv.box.set (.slice (some ⟨gb, 0, none⟩) n cap)
      have hrw1 : (W.setCell ⟨B, 0, none⟩ (.slice (some ⟨gb, 0, none⟩) n cap)).ownsRow 0 40 1 (.slice (some ⟨gb, 0, none⟩) n cap) n (r.reverse.map pv) := hpop.kept (grownBy_setCell' W B _) (.inr (by simp [Value.ownBlock]; exact hgbB))
      have hnr : ¬ X gb := hv.nr gb rfl
      have hds1 : ∀ D, D ∈ Ds → (W.setCell ⟨B, 0, none⟩ (.slice (some ⟨gb, 0, none⟩) n cap)).heap[D]? = some (.deferred (some [])) ∧ ¬ X D := fun D hD => by
        have h := HW.out.ds D hD
        refine ⟨(Below.heap_setCell _ _ _ D (fun e => ?_)).trans h.1, h.2⟩
        have hb := hv.box
        unfold Boxed at hb
        rw [show D = B from e, hb] at h
        simp at h
      have hnd := HW.out.nd
      have HN1 : Hid (¬ X B) := hv.nb
      have HBX : Hid (Boxed (W.setCell ⟨B, 0, none⟩ (.slice (some ⟨gb, 0, none⟩) n cap)) B 49 (.slice (some ⟨gb, 0, none⟩) n cap)) := hbx1
      have HRW : Hid ((W.setCell ⟨B, 0, none⟩ (.slice (some ⟨gb, 0, none⟩) n cap)).ownsRow 0 40 1 (.slice (some ⟨gb, 0, none⟩) n cap) n (r.reverse.map pv)) := hrw1
      have HDS : Hid (∀ D, D ∈ Ds → (W.setCell ⟨B, 0, none⟩ (.slice (some ⟨gb, 0, none⟩) n cap)).heap[D]? = some (.deferred (some [])) ∧ ¬ X D) := hds1
      have HND : Hid Ds.Nodup := hnd
      have HRN : Hid (r.length = n) := hn
      have HNR : Hid (¬ X gb) := hnr
      have HGB : Hid (gb ≠ B) := hgbB
      have HST : Hid (Calls Try.prog K (#[pv y] ++ caps) (W.setCell ⟨B, 0, none⟩ (.slice (some ⟨gb, 0, none⟩) n cap)) (StQ I Bad g X r (W.setCell ⟨B, 0, none⟩ (.slice (some ⟨gb, 0, none⟩) n cap)))) := hstp
      have hw1 : wrap64 ((n : Int) + 1 - 1) = (n : Int) := by unfold wrap64; omega
      have hw2 : ((n : Int) + 1 - 1) = (n : Int) := by omega
      clear hv hrow hpop hkx1 hi1 hstp hbx1 hrw1 hds1 hnd hn hnr hgbB HW hN
      gi_wp2
      refine ⟨trivial, ?_⟩
      refine (callsIn_wide.2 HST.out).mono ?_
      rintro e W2 (⟨a2, n2, c2, ns, g', X', rfl, hP, hg', hi2, hk2, hx2⟩ | ⟨a2, n2, c2, X', rfl, hb2, hk2, hx2⟩)
      rotate_left
      · have hds2 : ∀ D, D ∈ Ds → W2.heap[D]? = some (.deferred (some [])) ∧ ¬ X' D := fun D hD => by
          have h := HDS.out D hD
          exact ⟨hk2.keep _ _ h.1 h.2, fun h' => h.2 (hx2 D (Array.getElem?_eq_some_iff.1 h.1).1 h')⟩
        clear HST hk2 hx2
        gi_wp2
        refine leaves_marks (fun w => results_tmp rfl _ _ _) Ds W2 HND.out (fun D hD => (hds2 D hD).1) (fun w' hk => .inr ⟨rfl, X', hSB _ _ _ hb2 ?_⟩)
        exact hk.andThen (Kx.refl (fun _ => False) _) (fun b _ hb => (hds2 b hb).2) (fun _ _ h => h.elim)
      have hbt := fun w => bwdP a2 n2 c2 w
      have HP : Hid (PtV X' W2 (.slice a2 n2 c2) ns) := hP
      have HI2 : Hid (I g' X' (ns ++ r) W2) := hi2
      have HK2 : Hid (Kx X (W.setCell ⟨B, 0, none⟩ (.slice (some ⟨gb, 0, none⟩) n cap)) W2) := hk2
      have HX2 : Hid (∀ b, b < (W.setCell ⟨B, 0, none⟩ (.slice (some ⟨gb, 0, none⟩) n cap)).heap.size → X' b → X b) := hx2
      clear hP hi2 hk2 hx2 HST
      gi_wp2_with (refine ⟨trivial, ?_⟩; (try refine ⟨hwd _, ?_⟩); gi_at_call 43; refine (callsIn_wide.2 (hbt _)).mono ?_; rintro e W3 ⟨rfl, rfl⟩; clear hbt)
      have hsz1 : (W.setCell ⟨B, 0, none⟩ (.slice (some ⟨gb, 0, none⟩) n cap)).heap.size ≤ W2.heap.size := HK2.out.size
      have hbx2 : Boxed W2 B 49 (.slice (some ⟨gb, 0, none⟩) n cap) := HK2.out.keep _ _ HBX.out HN1.out
      have hgb1 : gb < (W.setCell ⟨B, 0, none⟩ (.slice (some ⟨gb, 0, none⟩) n cap)).heap.size := (HRW.out.lt gb rfl).2
      have hB1 : B < (W.setCell ⟨B, 0, none⟩ (.slice (some ⟨gb, 0, none⟩) n cap)).heap.size := HBX.out.lt
      have hrw2 : W2.ownsRow 0 40 1 (.slice (some ⟨gb, 0, none⟩) n cap) n (r.reverse.map pv) := ownsRow_kx HRW.out HK2.out (fun k hk => by cases hk; exact HNR.out)
      have hnB : ¬ X' B := fun h => HN1.out (HX2.out B hB1 h)
      have hng : ¬ X' gb := fun h => HNR.out (HX2.out gb hgb1 h)
      have hds2 : ∀ D, D ∈ Ds → W2.heap[D]? = some (.deferred (some [])) ∧ ¬ X' D := fun D hD => by
        have h := HDS.out D hD
        exact ⟨HK2.out.keep _ _ h.1 h.2, fun h' => h.2 (HX2.out D (Array.getElem?_eq_some_iff.1 h.1).1 h')⟩
      have hnl := hN' _ _ _ _ HI2.out
      rw [List.length_append, HRN.out] at hnl
      obtain ⟨b, hb, hPb⟩ := PtV_one HP.out
      have hbX : b < W2.heap.size → X' b := fun h => hb.resolve_left (by omega)
      have hbl : b ≤ W2.heap.size := by
        rcases hb with h | h
        · omega
        · have := hX _ _ _ _ HI2.out b h; omega
      have hPb3 := hPb.kept (below_alloc W2 (.cells #[.slice a2 n2 c2] 49))
      have hne : ∀ c, c = W2.heap.size ∨ c = b → c ≠ B ∧ c ≠ gb := fun c hc => by
        have hB2 := hbx2.lt
        have hg2 := (hrw2.lt gb rfl).2
        rcases hc with rfl | rfl
        · omega
        · rcases hb with h | h
          · omega
          · exact ⟨fun e => hnB (e ▸ h), fun e => hng (e ▸ h)⟩
      obtain ⟨i0, ii, iz0, iz1, iz2⟩ := infoP_ex
      clear HK2 HX2 HBX HRW HDS HN1 HNR HP hPb hsz1 hgb1 hB1
      have hszA : (W2.alloc (.cells #[.slice a2 n2 c2] 49)).heap.size = W2.heap.size + 1 := by simp
      refine wpIn_rangeFunc_ownF rfl (by omega) (gf := 49) (lb := #[.pointer (some ⟨W2.heap.size, 0, none⟩)]) rfl trivial (enters_of Try.func49 (by kernel_rfl) rfl)
        (bwdP_stops (3 - 1) W2.heap.size b (.slice a2 n2 c2) ns (by omega) (W2.alloc (.cells #[.slice a2 n2 c2] 49)) (by rw [hszA]; omega) (Boxed.new W2 _ _).cell hPb3) Kb.trans
        (fun W' l o o' hl _ _ _ => ⟨World.putObj_heap_other (by rw [hszA] at hl; omega), World.putObj_heap_other (by rw [hszA] at hl; omega)⟩) (Below.refl _ _) (fun _ => rfl)
        (InS B gb n r (W2.alloc (.cells #[.slice a2 n2 c2] 49))) (fun _ _ _ => False) InS.own (fun _ _ _ _ _ h _ _ => h)
        ⟨_, (hbx2.alloc _), by simpa using hrw2.alloc _, fun k hk => .inl (by cases hk; rfl), Kx.refl _ _⟩
        (fun x => { tmps := #[.func (.func K) #[] caps, .slice (some ⟨fb, fo, none⟩) 1 fc, u2, u3, .bool false, .pointer (some ⟨B, 0, none⟩), pv y, .slice a2 n2 c2, .bool true, u9, pv x.2, u11, u12, u13, u14, .slice (some ⟨gb, 0, none⟩) (n + 1) cap, .int .i64 ((n : Int) + 1), .bool true, .slice (some ⟨gb, 0, none⟩) (n + 1) cap, .slice (some ⟨gb, 0, none⟩) (n + 1) cap, .int .i64 ((n : Int) + 1), .int .i64 (n : Int), .pointer (some ⟨gb, n, none⟩), pv y, .slice (some ⟨gb, 0, none⟩) (n + 1) cap, .slice (some ⟨gb, 0, none⟩) (n + 1) cap, .int .i64 ((n : Int) + 1), .int .i64 (n : Int), .slice (some ⟨gb, 0, none⟩) n cap, .tuple #[.slice a2 n2 c2, .bool true], .func (.func K) #[] caps, pv y, .tuple #[.slice a2 n2 c2, .bool true], .slice a2 n2 c2, .bool true, .bool true, .bool false, .slice a2 n2 c2, .func (.func 49) #[] #[.pointer (some ⟨W2.heap.size, 0, none⟩)], .int .i64 (x.1 : Nat), pv x.2, u41, u42, u43, u44], defers := [] }) ?assign ?body ?done ?stop
      case assign =>
        intro l x W' K' hK'
        gi_wp2
        exact hK'
      case stop =>
        rintro D c pre W' _ _ h _
        exact h.elim
      case done =>
        rintro D ys W' hD hys ⟨v', hbx', hrw', hvb', hkx'⟩ hDe
        have hkk : Kx (fun b => ¬ X' b) W2 W' := (Kx.of_whole (X := fun b => ¬ X' b) (below_alloc W2 (.cells #[.slice a2 n2 c2] 49))).andThen hkx' (fun _ _ h => h) (fun c _ h => by rcases h with rfl | rfl; exact hnB; exact hng)
        have hDX : ¬ X' D := fun h => by have := hX _ _ _ _ HI2.out D h; rw [hszA] at hD; omega
        have hws : WkS I B g' X' (ns ++ r) (D :: Ds) W' := by
          refine ⟨hS _ _ _ _ _ HI2.out hkk, ⟨v', hbx', ?_, hnB, fun k hk h => ?_⟩, List.nodup_cons.2 ⟨fun h => ?_, HND.out⟩, fun D' hD' => ?_⟩
          · have e1 : ys.length = ns.length := by have := congrArg List.length hys; simpa using this
            rw [hys, e1, ← List.reverse_append] at hrw'
            rw [List.length_append, HRN.out, Nat.add_comm]
            exact hrw'
          · rcases hvb' k hk with h' | h'
            · exact hng (h' ▸ h)
            · have := hX _ _ _ _ HI2.out k h; rw [hszA] at h'; omega
          · have := (Array.getElem?_eq_some_iff.1 (hds2 D h).1).1; rw [hszA] at hD; omega
          · rcases List.mem_cons.1 hD' with rfl | hD'
            · exact ⟨hDe, hDX⟩
            · have h := hds2 D' hD'
              refine ⟨hkx'.keep _ _ ((Below.heap_alloc _ _ _ (Array.getElem?_eq_some_iff.1 h.1).1).trans h.1) (fun e => ?_), h.2⟩
              rcases e with rfl | rfl
              · have := h.1.symm.trans hbx2; simp at this
              · obtain ⟨cur, hcur⟩ := ownsRow_cells hrw2
                have := h.1.symm.trans hcur; simp at this
        have HWS : Hid (WkS I B g' X' (ns ++ r) (D :: Ds) W') := hws
        clear hws hkk hbx' hrw' hkx'
        gi_wp2
        exact ⟨g', hg', X', ns ++ r, D :: Ds, _, _, _, _, _, _, _, _, _, _, _, _, _, _, _, _, _, _, _, _, _, _, _, _, _, _, _, _, _, _, _, _, _, _, _, _, _, _, _, _, _, rfl, HWS⟩
      case body =>
        rintro l pre x W' ⟨v', hv, hrow, hvb, hkx⟩ hpre
        have hcv := hv.cell
        have HV : Hid (Boxed W' B 49 v') := hv
        have HR : Hid (W'.ownsRow 0 40 1 v' (n + pre.length) ((r.reverse ++ pre.map Prod.snd).map pv)) := hrow
        have HVB : Hid (∀ k, v'.ownBlock = some k → k = gb ∨ (W2.alloc (.cells #[.slice a2 n2 c2] 49)).heap.size ≤ k) := hvb
        have HKX : Hid (Kx (fun c => c = B ∨ c = gb) (W2.alloc (.cells #[.slice a2 n2 c2] 49)) W') := hkx
        have hszW := hkx.size
        rw [hszA] at hszW
        have hbd1 : n + pre.length + 1 ≤ 1000000 := by omega
        clear hv hrow hvb hkx
        obtain ⟨va, vn, vc, rfl⟩ : ∃ va vn vc, v' = .slice va vn vc := by
          rcases HR.out.2 with ⟨rfl, _⟩ | ⟨g, cap, cur, rfl, _⟩
          · exact ⟨_, _, _, rfl⟩
          · exact ⟨_, _, _, rfl⟩
        gi_wp2_with (gi_at_builtin; refine wpListIn_append_at _ rfl _ _ 49 rfl 0 40 i0 (.pointer none) 1 8 Try.underlying49 ii iz0 iz1 iz2 rfl (by decide) _ _ _ rfl (HR.out.alloc _) ⟨W'.heap.size, 0, none⟩ 1 1 [pv x.2] rfl rfl (cell_one_new _ _ _) (by simp [Value.oneCell']) (by simp [maxLen]; omega) (by omega) (Nat.zero_le _) ?_; intro v2 w1 hown' hgrow hblk; obtain ⟨g9, cap9, rfl⟩ := ownsRow_succ hown'; obtain ⟨hv1, hv2, hr2, hk2, hb2⟩ := HV.out.appended (by decide) HR.out (Nat.zero_le _) (Nat.zero_le _) hown' hgrow; have hc1 := hv1.cell; have hf1 := hv1.frozen; have HGR : Hid _ := hgrow; have HBK : Hid _ := hblk; clear hgrow hblk)
        have hkall : Kx (fun c => c = B ∨ (Value.slice va vn vc).ownBlock = some c) W' (w1.setCell ⟨B, 0, none⟩ (.slice (some ⟨g9, 0, none⟩) (n + pre.length + 1) cap9)) := by
          have k1 : Kx (fun c => c = B ∨ (Value.slice va vn vc).ownBlock = some c) W' w1 := (Kx.of_whole (X := fun c => c = B ∨ (Value.slice va vn vc).ownBlock = some c) (below_alloc W' _)).andThen (grownBy_kx HGR.out) (fun _ _ h => h) (fun c _ h => .inr h)
          exact k1.andThen (kx_set1 (W := w1) (B := B)) (fun _ _ h => h) (fun c _ h => .inl h)
        have hvb2 : ∀ c, c < W2.heap.size + 1 → (Value.slice va vn vc).ownBlock = some c → c = gb := fun c hc h => by
          rcases HVB.out c h with h | h
          · exact h
          · rw [hszA] at h; omega
        refine ⟨hk2, ⟨?_, ?_⟩, _, hv2, ?_, fun k hk => ?_, ?_⟩
        · have e := hne W2.heap.size (.inl rfl)
          obtain ⟨o, ho⟩ : ∃ o, W'.heap[W2.heap.size]? = some o := ⟨_, Array.getElem?_eq_getElem (by omega)⟩
          rw [ho]; exact hkall.keep _ _ ho (fun h => by rcases h with h | h; exact e.1 h; exact e.2 (hvb2 _ (by omega) h))
        · have e := hne b (.inr rfl)
          obtain ⟨o, ho⟩ : ∃ o, W'.heap[b]? = some o := ⟨_, Array.getElem?_eq_getElem (by omega)⟩
          rw [ho]; exact hkall.keep _ _ ho (fun h => by rcases h with h | h; exact e.1 h; exact e.2 (hvb2 _ (by omega) h))
        · rw [show n + (pre ++ [x]).length = n + pre.length + 1 by simp; omega, show List.map pv (r.reverse ++ List.map Prod.snd (pre ++ [x])) = List.map pv (r.reverse ++ List.map Prod.snd pre) ++ [pv x.2] by simp]
          exact hr2
        · cases hk
          rcases HBK.out g9 rfl with h | h
          · exact HVB.out _ h
          · refine .inr ?_; show _ ≤ g9; rw [hszA]; rw [World.size_alloc] at h; omega
        · exact HKX.out.andThen hkall (fun _ _ h => h) (fun c hc h => by rcases h with h | h; exact .inl h; exact .inr (hvb2 c (by rw [hszA] at hc; exact hc) h))
end
end Go.Proofs.Ytcmnhkopmkaiaaa

