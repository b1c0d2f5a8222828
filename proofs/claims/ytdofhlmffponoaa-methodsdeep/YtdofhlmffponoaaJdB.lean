/-
  types.walk over pointers to types, walked for any step.
-/
import Derived.Test.YtdofhlmffponoaaJdA
namespace Go.Proofs.Ytdofhlmffponoaa
open Go.RowKit
attribute [local go_sem] Oper.semAt_some
/-- what a step gives: what is to follow, or an end -/
def StQ (I : Nat → (Nat → Prop) → List Addr → World → Prop) (Bad : (Nat → Prop) → World → Prop) (g : Nat) (X : Nat → Prop) (r : List Addr) (W : World) (e : Ending) (W' : World) : Prop :=
  (∃ a n c ns g' X', e = .returned (.tuple #[.slice a n c, .bool true]) ∧ PtV X' W' (.slice a n c) ns ∧ g' < g ∧ I g' X' (ns ++ r) W' ∧ Kx X W W' ∧ (∀ b, b < W.heap.size → X' b → X b)) ∨
  (∃ a n c X', e = .returned (.tuple #[.slice a n c, .bool false]) ∧ Bad X' W' ∧ Kx X W W' ∧ (∀ b, b < W.heap.size → X' b → X b))
/-- what walk answers -/
def WkQ (I : Nat → (Nat → Prop) → List Addr → World → Prop) (Bad : (Nat → Prop) → World → Prop) (e : Ending) (w' : World) : Prop :=
  (e = .returned (.bool true) ∧ ∃ g X, I g X [] w') ∨ (e = .returned (.bool false) ∧ ∃ X, Bad X w')
/-- the list that is still to come, in its box -/
structure Tdo (B : Nat) (X : Nat → Prop) (l : List Addr) (W : World) (v : Value) : Prop where
  box : Boxed W B 81 v
  row : W.ownsRow 0 80 1 v l.length (l.reverse.map pv)
  nb : ¬ X B
  nr : ∀ k, v.ownBlock = some k → ¬ X k
/-- where the walk's loop stands -/
structure WkS (I : Nat → (Nat → Prop) → List Addr → World → Prop) (B g : Nat) (X : Nat → Prop) (l : List Addr) (Ds : List Nat) (W : World) : Prop where
  inv : I g X l W
  tdo : ∃ v, Tdo B X l W v
  nd : Ds.Nodup
  ds : ∀ D, D ∈ Ds → W.heap[D]? = some (.deferred (some [])) ∧ ¬ X D
theorem ownsRow_down {w : World} {base base' : Nat} {e : TypeId} {size : Nat} {v : Value} {n : Nat} {xs : List Value} (h : w.ownsRow base e size v n xs) (hb : base' ≤ base) : w.ownsRow base' e size v n xs := by
  refine ⟨h.1, ?_⟩
  rcases h.2 with h | ⟨g, cap, cur, h1, h2, h3⟩
  · exact .inl h
  · exact .inr ⟨g, cap, cur, h1, Nat.le_trans hb h2, h3⟩
theorem kx_cell {X : Nat → Prop} {W : World} {B : Nat} {v : Value} (h : ¬ X B) : Kx (fun b => ¬ X b) W (W.setCell ⟨B, 0, none⟩ v) :=
  ⟨rfl, rfl, rfl, (KeepsWalks.setCell W _ v).size, fun b _ hb hx => (Below.heap_setCell _ _ _ b (fun e => by cases e; exact hx h)).trans hb⟩
theorem ownsRow_kx {X : Nat → Prop} {w w' : World} {base : Nat} {e : TypeId} {size : Nat} {v : Value} {n : Nat} {xs : List Value} (h : w.ownsRow base e size v n xs) (hk : Kx X w w') (hx : ∀ k, v.ownBlock = some k → ¬ X k) : w'.ownsRow base e size v n xs := by
  refine ⟨h.1, ?_⟩
  rcases h.2 with h | ⟨g, cap, cur, rfl, h2, h3, h4⟩
  · exact .inl h
  · exact .inr ⟨g, cap, cur, rfl, h2, hk.keep _ _ h3 (hx g rfl), h4⟩
theorem ownsRow_cells {w : World} {base : Nat} {e : TypeId} {size g n c : Nat} {xs : List Value} (h : w.ownsRow base e size (.slice (some ⟨g, 0, none⟩) n c) n xs) : ∃ cur, w.heap[g]? = some (.cells cur e (0, 0)) := by
  rcases h.2 with ⟨h, _⟩ | ⟨g', cap, cur, h1, h2, h3, h4⟩
  · cases h
  · cases h1; exact ⟨cur, h3⟩
theorem PtV_one {X : Nat → Prop} {W : World} {v : Value} {l : List Addr} (h : PtV X W v l) : ∃ b, (b = W.heap.size ∨ X b) ∧ PtV (fun c => c = b) W v l := by
  rcases h with h | ⟨b, o, c, e, hl, hb, h1, h2⟩
  · exact ⟨_, .inl rfl, .inl h⟩
  · exact ⟨b, .inr h1, .inr ⟨b, o, c, e, hl, hb, rfl, h2⟩⟩
/-- where the loop over what follows stands -/
structure InS (B gb n : Nat) (r : List Addr) (W3 : World) (pre : List (Nat × Addr)) (W : World) : Prop where
  mk' ::
  ex : ∃ v, Boxed W B 81 v ∧ W.ownsRow 0 80 1 v (n + pre.length) ((r.reverse ++ pre.map Prod.snd).map pv) ∧ (∀ k, v.ownBlock = some k → k = gb ∨ W3.heap.size ≤ k) ∧ Kx (fun c => c = B ∨ c = gb) W3 W
theorem InS.own {B gb n : Nat} {r : List Addr} {W3 : World} : OwnFrom W3.heap.size (InS B gb n r W3) := by
  rintro pre W W' row ⟨v, h1, h2, h3, h4⟩ hg hr
  refine ⟨v, h1.kept hg (fun e => ?_), h2.kept hg ?_, h3, ?_⟩
  · obtain ⟨_, o, ho, hc⟩ := hr B e.symm
    rw [show W.heap[B]? = _ from h1] at ho; cases ho; cases hc
  · rcases h2.2 with ⟨rfl, _⟩ | ⟨g, cap, cur, rfl, _, hgb, _⟩
    · exact .inl rfl
    · refine .inr fun e => ?_
      obtain ⟨_, o, ho, hc⟩ := hr g (by simpa [Value.ownBlock] using e.symm)
      rw [hgb] at ho; cases ho; cases hc
  · refine ⟨hg.os.trans h4.os, hg.tape.trans h4.tape, hg.output.trans h4.output, Nat.le_trans h4.size hg.size, fun b o hb hx => ?_⟩
    have hlt := (Array.getElem?_eq_some_iff.1 hb).1
    refine (hg.block b (Nat.lt_of_lt_of_le hlt h4.size) (fun e => ?_)).trans (h4.keep b o hb hx)
    have := (hr b e.symm).1
    omega
theorem kx_set1 {W : World} {B : Nat} {v : Value} : Kx (fun b => b = B) W (W.setCell ⟨B, 0, none⟩ v) :=
  ⟨rfl, rfl, rfl, (KeepsWalks.setCell W _ v).size, fun b _ hb hx => (Below.heap_setCell _ _ _ b hx).trans hb⟩
section
variable {I : Nat → (Nat → Prop) → List Addr → World → Prop} {Bad : (Nat → Prop) → World → Prop}
set_option maxRecDepth 100000 in
set_option maxHeartbeats 4000000 in
theorem walkP (K : FuncId) (caps : Array Value) (hK : ∀ args w, (callFunc K args).run Try.prog w = .ok (.enter K args) w)
    (hS : ∀ g X l W W', I g X l W → Kx (fun b => ¬ X b) W W' → I g X l W') (hSB : ∀ X W W', Bad X W → Kx (fun b => ¬ X b) W W' → Bad X W')
    (hX : ∀ g X l W, I g X l W → ∀ b, X b → b < W.heap.size) (hN : ∀ g X l W, I g X l W → l.length ≤ 1000000)
    (hstep : ∀ g X x r W, I g X (x :: r) W → Calls Try.prog K (#[pv x] ++ caps) W (StQ I Bad g X r W))
    (g : Nat) (x : Addr) (fb fo fc : Nat) (w : World) (hf : w.cell? ⟨fb, fo, none⟩ = some (pv x)) (h0 : I g (fun b => b < w.heap.size) [x] w) :
    Calls Try.prog 29 #[.func (.func K) #[] caps, .slice (some ⟨fb, fo, none⟩) 1 fc] w (WkQ I Bad) := by
  refine (callsIn_wide (n := 3)).1 ?_
  have hN' := hN
  have hcl := cloneP (w := w) (Src.row fb fo 1 fc [pv x] (fun j u hj => by
    cases j with
    | zero => obtain rfl : pv x = u := by simpa using hj
              exact hf
    | succ j => simp at hj)) rfl (by simp [Value.oneCell']) (by omega)
  have hrev := fun a c w => revP a c w
  have hwd : ∀ k : Nat, (Fence.wide.depth.isSome = true → 1 ≤ k) := fun k h => by simp [Fence.wide] at h
  refine callsIn_of_wp_marks Try.func29 rfl trivial ?_ rfl
  simp only [Try.ntmps29, List.size_toArray, List.length_cons, List.length_nil, Nat.reduceAdd, Nat.reduceSub, Array.replicate_succ, Array.replicate_zero, List.push_toArray, List.append_toArray, List.nil_append, List.cons_append]
  gi_wp2_with (first
    | (refine ⟨trivial, ?_⟩; (try refine ⟨hwd _, ?_⟩); gi_at_call 50; refine (callsIn_wide.2 hcl).mono ?_; intro e w1 hq; obtain ⟨a1, c1, rfl, hr1⟩ := hq.slice; have HR1 : Hid (w1.ownsRow w.heap.size 80 1 (.slice a1 1 c1) 1 [pv x]) := hr1; have HB1 : Hid (Below w.heap.size w w1) := hq.bl; clear hq hr1 hcl)
    | (refine ⟨trivial, ?_⟩; (try refine ⟨hwd _, ?_⟩); gi_at_call 51; refine (callsIn_wide.2 (hrev _ _ _)).mono ?_; rintro e w2 ⟨⟨rv, rfl⟩, hw2⟩; subst hw2; clear hrev))
  have ht0 : ∃ v, Tdo w1.heap.size (fun b => b < w.heap.size) [x] (w1.alloc (.cells #[.slice a1 1 c1] 81)) v := by
    refine ⟨.slice a1 1 c1, Boxed.new _ _ _, ?_, by have := HB1.out.size; show ¬ _ < _; omega, fun k hk => by have := (HR1.out.lt k hk).1; show ¬ _ < _; omega⟩
    exact (ownsRow_down HR1.out (Nat.zero_le _)).alloc _
  have hs0 : WkS I w1.heap.size g (fun b => b < w.heap.size) [x] [] (w1.alloc (.cells #[.slice a1 1 c1] 81)) :=
    ⟨hS _ _ _ _ _ h0 (Kx.of_whole (bthen HB1.out (below_alloc _ _))), ht0, List.nodup_nil, fun D hD => by cases hD⟩
  generalize w1.alloc (.cells #[.slice a1 1 c1] 81) = W0 at hs0 ⊢
  generalize w1.heap.size = B at hs0 ⊢
  have HS0 : Hid (WkS I B g (fun b => b < w.heap.size) [x] [] W0) := hs0
  clear hs0 ht0 HR1 HB1 h0 hf
  rename_i Kz hKz
  refine loopG (fun g a W => ∃ X l Ds u2 u3 u6 u7 u8 u9 u10 u11 u12 u13 u14 u15 u16 u17 u18 u19 u20 u21 u22 u23 u24 u25 u26 u27 u28 u29 u30 u31 u32 u33 u34 u35 u36 u37 u38 u39 u40 u41 u42 u43 u44, a = { tmps := #[.func (.func K) #[] caps, .slice (some ⟨fb, fo, none⟩) 1 fc, u2, u3, .bool false, .pointer (some ⟨B, 0, none⟩), u6, u7, u8, u9, u10, u11, u12, u13, u14, u15, u16, u17, u18, u19, u20, u21, u22, u23, u24, u25, u26, u27, u28, u29, u30, u31, u32, u33, u34, u35, u36, u37, u38, u39, u40, u41, u42, u43, u44], defers := marks Ds } ∧ Hid (WkS I B g X l Ds W)) g ?start ?round
  case start => exact ⟨_, _, [], _, _, _, _, _, _, _, _, _, _, _, _, _, _, _, _, _, _, _, _, _, _, _, _, _, _, _, _, _, _, _, _, _, _, _, _, _, _, _, _, _, rfl, HS0⟩
  case round =>
    clear HS0
    rintro g a W ⟨X, l, Ds, u2, u3, u6, u7, u8, u9, u10, u11, u12, u13, u14, u15, u16, u17, u18, u19, u20, u21, u22, u23, u24, u25, u26, u27, u28, u29, u30, u31, u32, u33, u34, u35, u36, u37, u38, u39, u40, u41, u42, u43, u44, rfl, HW⟩
    cases l with
    | nil =>
      obtain ⟨v, hv⟩ := HW.out.tdo
      have hc := hv.box.cell
      rcases hv.row.2 with ⟨hv0, _⟩ | ⟨gb, cap, cur, hv0, _⟩
      · subst hv0
        clear hv
        gi_wp2
        refine leaves_marks (fun w => results_tmp rfl _ _ _) Ds W HW.out.nd (fun D hD => (HW.out.ds D hD).1) (fun w' hk => .inl ⟨rfl, g, X, hS _ _ _ _ _ HW.out.inv ?_⟩)
        exact hk.andThen (Kx.refl (fun _ => False) _) (fun b _ hb => (HW.out.ds b hb).2) (fun _ _ h => h.elim)
      · subst hv0
        clear hv
        gi_wp2
        refine leaves_marks (fun w => results_tmp rfl _ _ _) Ds W HW.out.nd (fun D hD => (HW.out.ds D hD).1) (fun w' hk => .inl ⟨rfl, g, X, hS _ _ _ _ _ HW.out.inv ?_⟩)
        exact hk.andThen (Kx.refl (fun _ => False) _) (fun b _ hb => (HW.out.ds b hb).2) (fun _ _ h => h.elim)
    | cons y r =>
      obtain ⟨v, hv⟩ := HW.out.tdo
      obtain ⟨n, hn⟩ : ∃ n, r.length = n := ⟨_, rfl⟩
      have hN1 : n + 1 ≤ 1000000 := by have := hN _ _ _ _ HW.out.inv; simpa [hn] using this
      have hrow : W.ownsRow 0 80 1 v (n + 1) (r.reverse.map pv ++ [pv y]) := by have := hv.row; simpa [hn] using this
      obtain ⟨gb, cap, rfl⟩ := ownsRow_succ hrow
      have hc := hv.box.cell
      have hfz := hv.box.frozen
      have hcy : W.cell? ⟨gb, n, none⟩ = some (pv y) := by
        have := hrow.cells (g := gb) rfl n (pv y) (by rw [List.getElem?_append_right (by simp [hn])]; simp [hn])
        rw [Addr.add_lit] at this; simpa using this
      have hgbB : gb ≠ B := fun e => by have := hv.box.not_row (by decide) hv.row; exact this (by simp [Value.ownBlock, e])
      have hncap : n + 1 ≤ cap := by
        rcases hrow.2 with ⟨h, _⟩ | ⟨g', cap', cur, h, _, _, h4, _⟩
        · cases h
        · cases h; exact h4
      have hpop := ownsRow_pop (n := n) (by simp [hn]) hrow
      have hkx1 : Kx (fun b => ¬ X b) W (W.setCell ⟨B, 0, none⟩ (.slice (some ⟨gb, 0, none⟩) n cap)) := kx_cell hv.nb
      have hi1 := hS _ _ _ _ _ HW.out.inv hkx1
      have hstp := hstep g X y r _ hi1
      have hbx1 := hv.box.set (.slice (some ⟨gb, 0, none⟩) n cap)
      have hrw1 : (W.setCell ⟨B, 0, none⟩ (.slice (some ⟨gb, 0, none⟩) n cap)).ownsRow 0 80 1 (.slice (some ⟨gb, 0, none⟩) n cap) n (r.reverse.map pv) := hpop.kept (grownBy_setCell' W B _) (.inr (by simp [Value.ownBlock]; exact hgbB))
      have hnr : ¬ X gb := hv.nr gb rfl
      have hds1 : ∀ D, D ∈ Ds → (W.setCell ⟨B, 0, none⟩ (.slice (some ⟨gb, 0, none⟩) n cap)).heap[D]? = some (.deferred (some [])) ∧ ¬ X D := fun D hD => by
        have h := HW.out.ds D hD
        refine ⟨(Below.heap_setCell _ _ _ D (fun e => ?_)).trans h.1, h.2⟩
        have hb := hv.box
        unfold Boxed at hb
        rw [show D = B from e, hb] at h
        simp at h
      have hnd := HW.out.nd
      have HN1 : Hid (¬ X B) := hv.nb
      have HBX : Hid (Boxed (W.setCell ⟨B, 0, none⟩ (.slice (some ⟨gb, 0, none⟩) n cap)) B 81 (.slice (some ⟨gb, 0, none⟩) n cap)) := hbx1
      have HRW : Hid ((W.setCell ⟨B, 0, none⟩ (.slice (some ⟨gb, 0, none⟩) n cap)).ownsRow 0 80 1 (.slice (some ⟨gb, 0, none⟩) n cap) n (r.reverse.map pv)) := hrw1
      have HDS : Hid (∀ D, D ∈ Ds → (W.setCell ⟨B, 0, none⟩ (.slice (some ⟨gb, 0, none⟩) n cap)).heap[D]? = some (.deferred (some [])) ∧ ¬ X D) := hds1
      have HND : Hid Ds.Nodup := hnd
      have HRN : Hid (r.length = n) := hn
      have HNR : Hid (¬ X gb) := hnr
      have HGB : Hid (gb ≠ B) := hgbB
      have HST : Hid (Calls Try.prog K (#[pv y] ++ caps) (W.setCell ⟨B, 0, none⟩ (.slice (some ⟨gb, 0, none⟩) n cap)) (StQ I Bad g X r (W.setCell ⟨B, 0, none⟩ (.slice (some ⟨gb, 0, none⟩) n cap)))) := hstp
      have hw1 : wrap64 ((n : Int) + 1 - 1) = (n : Int) := by unfold wrap64; omega
      have hw2 : ((n : Int) + 1 - 1) = (n : Int) := by omega
      clear hv hrow hpop hkx1 hi1 hstp hbx1 hrw1 hds1 hnd hn hnr hgbB HW hN
      gi_wp2
      refine ⟨trivial, ?_⟩
      refine (callsIn_wide.2 HST.out).mono ?_
      rintro e W2 (⟨a2, n2, c2, ns, g', X', rfl, hP, hg', hi2, hk2, hx2⟩ | ⟨a2, n2, c2, X', rfl, hb2, hk2, hx2⟩)
      rotate_left
      · have hds2 : ∀ D, D ∈ Ds → W2.heap[D]? = some (.deferred (some [])) ∧ ¬ X' D := fun D hD => by
          have h := HDS.out D hD
          exact ⟨hk2.keep _ _ h.1 h.2, fun h' => h.2 (hx2 D (Array.getElem?_eq_some_iff.1 h.1).1 h')⟩
        clear HST hk2 hx2
        gi_wp2
        refine leaves_marks (fun w => results_tmp rfl _ _ _) Ds W2 HND.out (fun D hD => (hds2 D hD).1) (fun w' hk => .inr ⟨rfl, X', hSB _ _ _ hb2 ?_⟩)
        exact hk.andThen (Kx.refl (fun _ => False) _) (fun b _ hb => (hds2 b hb).2) (fun _ _ h => h.elim)
      have hbt := fun w => bwdP a2 n2 c2 w
      have HP : Hid (PtV X' W2 (.slice a2 n2 c2) ns) := hP
      have HI2 : Hid (I g' X' (ns ++ r) W2) := hi2
      have HK2 : Hid (Kx X (W.setCell ⟨B, 0, none⟩ (.slice (some ⟨gb, 0, none⟩) n cap)) W2) := hk2
      have HX2 : Hid (∀ b, b < (W.setCell ⟨B, 0, none⟩ (.slice (some ⟨gb, 0, none⟩) n cap)).heap.size → X' b → X b) := hx2
      clear hP hi2 hk2 hx2 HST
      gi_wp2_with (refine ⟨trivial, ?_⟩; (try refine ⟨hwd _, ?_⟩); gi_at_call 52; refine (callsIn_wide.2 (hbt _)).mono ?_; rintro e W3 ⟨rfl, rfl⟩; clear hbt)
      have hsz1 : (W.setCell ⟨B, 0, none⟩ (.slice (some ⟨gb, 0, none⟩) n cap)).heap.size ≤ W2.heap.size := HK2.out.size
      have hbx2 : Boxed W2 B 81 (.slice (some ⟨gb, 0, none⟩) n cap) := HK2.out.keep _ _ HBX.out HN1.out
      have hgb1 : gb < (W.setCell ⟨B, 0, none⟩ (.slice (some ⟨gb, 0, none⟩) n cap)).heap.size := (HRW.out.lt gb rfl).2
      have hB1 : B < (W.setCell ⟨B, 0, none⟩ (.slice (some ⟨gb, 0, none⟩) n cap)).heap.size := HBX.out.lt
      have hrw2 : W2.ownsRow 0 80 1 (.slice (some ⟨gb, 0, none⟩) n cap) n (r.reverse.map pv) := ownsRow_kx HRW.out HK2.out (fun k hk => by cases hk; exact HNR.out)
      have hnB : ¬ X' B := fun h => HN1.out (HX2.out B hB1 h)
      have hng : ¬ X' gb := fun h => HNR.out (HX2.out gb hgb1 h)
      have hds2 : ∀ D, D ∈ Ds → W2.heap[D]? = some (.deferred (some [])) ∧ ¬ X' D := fun D hD => by
        have h := HDS.out D hD
        exact ⟨HK2.out.keep _ _ h.1 h.2, fun h' => h.2 (HX2.out D (Array.getElem?_eq_some_iff.1 h.1).1 h')⟩
      have hnl := hN' _ _ _ _ HI2.out
      rw [List.length_append, HRN.out] at hnl
      obtain ⟨b, hb, hPb⟩ := PtV_one HP.out
      have hbX : b < W2.heap.size → X' b := fun h => hb.resolve_left (by omega)
      have hbl : b ≤ W2.heap.size := by
        rcases hb with h | h
        · omega
        · have := hX _ _ _ _ HI2.out b h; omega
      have hPb3 := hPb.kept (below_alloc W2 (.cells #[.slice a2 n2 c2] 81))
      have hne : ∀ c, c = W2.heap.size ∨ c = b → c ≠ B ∧ c ≠ gb := fun c hc => by
        have hB2 := hbx2.lt
        have hg2 := (hrw2.lt gb rfl).2
        rcases hc with rfl | rfl
        · omega
        · rcases hb with h | h
          · omega
          · exact ⟨fun e => hnB (e ▸ h), fun e => hng (e ▸ h)⟩
      obtain ⟨i0, ii, iz0, iz1, iz2⟩ := infoP_ex
      clear HK2 HX2 HBX HRW HDS HN1 HNR HP hPb hsz1 hgb1 hB1
      have hszA : (W2.alloc (.cells #[.slice a2 n2 c2] 81)).heap.size = W2.heap.size + 1 := by simp
      refine wpIn_rangeFunc_ownF rfl (by omega) (gf := 71) (lb := #[.pointer (some ⟨W2.heap.size, 0, none⟩)]) rfl trivial (enters_of Try.func71 (by kernel_rfl) rfl)
        (bwdP_stops (3 - 1) W2.heap.size b (.slice a2 n2 c2) ns (by omega) (W2.alloc (.cells #[.slice a2 n2 c2] 81)) (by rw [hszA]; omega) (Boxed.new W2 _ _).cell hPb3) Kb.trans
        (fun W' l o o' hl _ _ _ => ⟨World.putObj_heap_other (by rw [hszA] at hl; omega), World.putObj_heap_other (by rw [hszA] at hl; omega)⟩) (Below.refl _ _) (fun _ => rfl)
        (InS B gb n r (W2.alloc (.cells #[.slice a2 n2 c2] 81))) (fun _ _ _ => False) InS.own (fun _ _ _ _ _ h _ _ => h)
        ⟨_, (hbx2.alloc _), by simpa using hrw2.alloc _, fun k hk => .inl (by cases hk; rfl), Kx.refl _ _⟩
        (fun x => { tmps := #[.func (.func K) #[] caps, .slice (some ⟨fb, fo, none⟩) 1 fc, u2, u3, .bool false, .pointer (some ⟨B, 0, none⟩), pv y, .slice a2 n2 c2, .bool true, u9, pv x.2, u11, u12, u13, u14, .slice (some ⟨gb, 0, none⟩) (n + 1) cap, .int .i64 ((n : Int) + 1), .bool true, .slice (some ⟨gb, 0, none⟩) (n + 1) cap, .slice (some ⟨gb, 0, none⟩) (n + 1) cap, .int .i64 ((n : Int) + 1), .int .i64 (n : Int), .pointer (some ⟨gb, n, none⟩), pv y, .slice (some ⟨gb, 0, none⟩) (n + 1) cap, .slice (some ⟨gb, 0, none⟩) (n + 1) cap, .int .i64 ((n : Int) + 1), .int .i64 (n : Int), .slice (some ⟨gb, 0, none⟩) n cap, .tuple #[.slice a2 n2 c2, .bool true], .func (.func K) #[] caps, pv y, .tuple #[.slice a2 n2 c2, .bool true], .slice a2 n2 c2, .bool true, .bool true, .bool false, .slice a2 n2 c2, .func (.func 71) #[] #[.pointer (some ⟨W2.heap.size, 0, none⟩)], .int .i64 (x.1 : Nat), pv x.2, u41, u42, u43, u44], defers := [] }) ?assign ?body ?done ?stop
      case assign =>
        intro l x W' K' hK'
        gi_wp2
        exact hK'
      case stop =>
        rintro D c pre W' _ _ h _
        exact h.elim
      case done =>
        rintro D ys W' hD hys ⟨v', hbx', hrw', hvb', hkx'⟩ hDe
        have hkk : Kx (fun b => ¬ X' b) W2 W' := (Kx.of_whole (X := fun b => ¬ X' b) (below_alloc W2 (.cells #[.slice a2 n2 c2] 81))).andThen hkx' (fun _ _ h => h) (fun c _ h => by rcases h with rfl | rfl; exact hnB; exact hng)
        have hDX : ¬ X' D := fun h => by have := hX _ _ _ _ HI2.out D h; rw [hszA] at hD; omega
        have hws : WkS I B g' X' (ns ++ r) (D :: Ds) W' := by
          refine ⟨hS _ _ _ _ _ HI2.out hkk, ⟨v', hbx', ?_, hnB, fun k hk h => ?_⟩, List.nodup_cons.2 ⟨fun h => ?_, HND.out⟩, fun D' hD' => ?_⟩
          · have e1 : ys.length = ns.length := by have := congrArg List.length hys; simpa using this
            rw [hys, e1, ← List.reverse_append] at hrw'
            rw [List.length_append, HRN.out, Nat.add_comm]
            exact hrw'
          · rcases hvb' k hk with h' | h'
            · exact hng (h' ▸ h)
            · have := hX _ _ _ _ HI2.out k h; rw [hszA] at h'; omega
          · have := (Array.getElem?_eq_some_iff.1 (hds2 D h).1).1; rw [hszA] at hD; omega
          · rcases List.mem_cons.1 hD' with rfl | hD'
            · exact ⟨hDe, hDX⟩
            · have h := hds2 D' hD'
              refine ⟨hkx'.keep _ _ ((Below.heap_alloc _ _ _ (Array.getElem?_eq_some_iff.1 h.1).1).trans h.1) (fun e => ?_), h.2⟩
              rcases e with rfl | rfl
              · have := h.1.symm.trans hbx2; simp at this
              · obtain ⟨cur, hcur⟩ := ownsRow_cells hrw2
                have := h.1.symm.trans hcur; simp at this
        have HWS : Hid (WkS I B g' X' (ns ++ r) (D :: Ds) W') := hws
        clear hws hkk hbx' hrw' hkx'
        gi_wp2
        exact ⟨g', hg', X', ns ++ r, D :: Ds, _, _, _, _, _, _, _, _, _, _, _, _, _, _, _, _, _, _, _, _, _, _, _, _, _, _, _, _, _, _, _, _, _, _, _, _, _, _, _, _, _, rfl, HWS⟩
      case body =>
        rintro l pre x W' ⟨v', hv, hrow, hvb, hkx⟩ hpre
        have hcv := hv.cell
        have HV : Hid (Boxed W' B 81 v') := hv
        have HR : Hid (W'.ownsRow 0 80 1 v' (n + pre.length) ((r.reverse ++ pre.map Prod.snd).map pv)) := hrow
        have HVB : Hid (∀ k, v'.ownBlock = some k → k = gb ∨ (W2.alloc (.cells #[.slice a2 n2 c2] 81)).heap.size ≤ k) := hvb
        have HKX : Hid (Kx (fun c => c = B ∨ c = gb) (W2.alloc (.cells #[.slice a2 n2 c2] 81)) W') := hkx
        have hszW := hkx.size
        rw [hszA] at hszW
        have hbd1 : n + pre.length + 1 ≤ 1000000 := by omega
        clear hv hrow hvb hkx
        obtain ⟨va, vn, vc, rfl⟩ : ∃ va vn vc, v' = .slice va vn vc := by
          rcases HR.out.2 with ⟨rfl, _⟩ | ⟨g, cap, cur, rfl, _⟩
          · exact ⟨_, _, _, rfl⟩
          · exact ⟨_, _, _, rfl⟩
        gi_wp2_with (gi_at_builtin; refine wpListIn_append_at _ rfl _ _ 81 rfl 0 80 i0 (.pointer none) 1 8 Try.underlying81 ii iz0 iz1 iz2 rfl (by decide) _ _ _ rfl (HR.out.alloc _) ⟨W'.heap.size, 0, none⟩ 1 1 [pv x.2] rfl rfl (cell_one_new _ _ _) (by simp [Value.oneCell']) (by simp [maxLen]; omega) (by omega) (Nat.zero_le _) ?_; intro v2 w1 hown' hgrow hblk; obtain ⟨g9, cap9, rfl⟩ := ownsRow_succ hown'; obtain ⟨hv1, hv2, hr2, hk2, hb2⟩ := HV.out.appended (by decide) HR.out (Nat.zero_le _) (Nat.zero_le _) hown' hgrow; have hc1 := hv1.cell; have hf1 := hv1.frozen; have HGR : Hid _ := hgrow; have HBK : Hid _ := hblk; clear hgrow hblk)
        have hkall : Kx (fun c => c = B ∨ (Value.slice va vn vc).ownBlock = some c) W' (w1.setCell ⟨B, 0, none⟩ (.slice (some ⟨g9, 0, none⟩) (n + pre.length + 1) cap9)) := by
          have k1 : Kx (fun c => c = B ∨ (Value.slice va vn vc).ownBlock = some c) W' w1 := (Kx.of_whole (X := fun c => c = B ∨ (Value.slice va vn vc).ownBlock = some c) (below_alloc W' _)).andThen (grownBy_kx HGR.out) (fun _ _ h => h) (fun c _ h => .inr h)
          exact k1.andThen (kx_set1 (W := w1) (B := B)) (fun _ _ h => h) (fun c _ h => .inl h)
        have hvb2 : ∀ c, c < W2.heap.size + 1 → (Value.slice va vn vc).ownBlock = some c → c = gb := fun c hc h => by
          rcases HVB.out c h with h | h
          · exact h
          · rw [hszA] at h; omega
        refine ⟨hk2, ⟨?_, ?_⟩, _, hv2, ?_, fun k hk => ?_, ?_⟩
        · have e := hne W2.heap.size (.inl rfl)
          obtain ⟨o, ho⟩ : ∃ o, W'.heap[W2.heap.size]? = some o := ⟨_, Array.getElem?_eq_getElem (by omega)⟩
          rw [ho]; exact hkall.keep _ _ ho (fun h => by rcases h with h | h; exact e.1 h; exact e.2 (hvb2 _ (by omega) h))
        · have e := hne b (.inr rfl)
          obtain ⟨o, ho⟩ : ∃ o, W'.heap[b]? = some o := ⟨_, Array.getElem?_eq_getElem (by omega)⟩
          rw [ho]; exact hkall.keep _ _ ho (fun h => by rcases h with h | h; exact e.1 h; exact e.2 (hvb2 _ (by omega) h))
        · rw [show n + (pre ++ [x]).length = n + pre.length + 1 by simp; omega, show List.map pv (r.reverse ++ List.map Prod.snd (pre ++ [x])) = List.map pv (r.reverse ++ List.map Prod.snd pre) ++ [pv x.2] by simp]
          exact hr2
        · cases hk
          rcases HBK.out g9 rfl with h | h
          · exact HVB.out _ h
          · refine .inr ?_; show _ ≤ g9; rw [hszA]; rw [World.size_alloc] at h; omega
        · exact HKX.out.andThen hkall (fun _ _ h => h) (fun c hc h => by rcases h with h | h; exact .inl h; exact .inr (hvb2 c (by rw [hszA] at hc; exact hc) h))
end
end Go.Proofs.Ytdofhlmffponoaa

/-
  types.kids, walked: where the kids of a type stand.
-/
namespace Go.Proofs.Ytdofhlmffponoaa
open Go.RowKit
attribute [local go_sem ↓] Go.wp_at_zero Go.wp_at_succ
/-- where n types stand in a row -/
def kidA (b o n : Nat) : List Addr := (List.range n).map fun i => ⟨b, o + i * 7, none⟩
theorem kidA_len (b o n : Nat) : (kidA b o n).length = n := by simp [kidA]
theorem kidA_succ (b o n : Nat) : kidA b o (n + 1) = kidA b o n ++ [⟨b, o + n * 7, none⟩] := by simp [kidA, List.range_succ]
theorem kidA_get (b o n i : Nat) (h : i < n) : (kidA b o n)[i]? = some ⟨b, o + i * 7, none⟩ := by simp [kidA, h]
/-- what kids answers -/
structure KdQ (w : World) (l : List Addr) (e : Ending) (w' : World) : Prop where
  ex : ∃ a c, e = .returned (.slice a l.length c) ∧ w'.ownsRow w.heap.size 80 1 (.slice a l.length c) l.length (l.map pv)
  bl : Below w.heap.size w w'
set_option maxRecDepth 100000 in
set_option maxHeartbeats 2000000 in
theorem kids_any {w : World} {b o kb ko n c : Nat} {a : Option Addr} (h : w.cell? ⟨b, o + 6, none⟩ = some (.slice a n c)) (ha : 0 < n → a = some ⟨kb, ko, none⟩) (hn : n ≤ 1000000) : Calls Try.prog 34 #[pv ⟨b, o, none⟩] w (KdQ w (kidA kb ko n)) := by
  have hb : b < w.heap.size := World.block_lt_of_cell? _ _ h
  obtain ⟨i0, hi, hz0, hz1, hz2⟩ := infoP_ex
  go_enter Try.func34, Try.ntmps34
  go_wp2_with (at_make; refine wpList_make_own _ rfl _ _ 81 rfl w.heap.size 80 i0 (.pointer none) 1 Try.underlying81 hi hz0 hz1 .i64 .i64 _ n rfl rfl (by first | rfl | omega) (by rw [hz2]; omega) (by unfold maxLen; omega) (Nat.le_refl _) ?_; intro w0 hown0 hgrow0; have hB0 : Below w.heap.size w w0 := (Below.refl _ w).grown hgrow0 (Nat.le_refl _) (fun k e => by cases e); have h0 : w0.cell? ⟨b, o + 6, none⟩ = some (.slice a n c) := kept_cell hB0 h; have HB0 : Hid (Below w.heap.size w w0) := hB0; have HO0 : Hid (w0.ownsRow w.heap.size 80 1 (.slice (some ⟨w.heap.size, 0, none⟩) 0 n) 0 []) := hown0; clear hB0 hown0 hgrow0)
  have H : Hid (w.cell? ⟨b, o + 6, none⟩ = some (.slice a n c)) := h
  clear h h0
  go_loopg [3, 16] n (fun g u3 u16 wr => ∃ (k : Nat) (a' : Option Addr) (c' : Nat), k ≤ n ∧ n - k ≤ g ∧ u16 = .int .i64 k ∧ u3 = .slice a' k c' ∧ Hid (wr.ownsRow w.heap.size 80 1 (.slice a' k c') k ((kidA kb ko k).map pv)) ∧ Hid (Below w.heap.size w wr))
  case atStart => exact ⟨0, _, _, Nat.zero_le _, Nat.le_refl _, rfl, rfl, HO0, HB0⟩
  case round =>
    obtain ⟨k, a', c', hk, hg, rfl, rfl, HO, HB⟩ := hrel
    clear HO0 HB0
    have hcr : wr.cell? ⟨b, o + 6, none⟩ = some (.slice a n c) := kept_cell HB.out H.out
    have hszr := HB.out.size
    by_cases hlt : k < n
    · obtain rfl := ha (by omega)
      have z1 : (k : Int) < (n : Int) := by omega
      go_wp2_with (at_builtin; refine wpList_append_own _ rfl _ _ 81 rfl w.heap.size 80 i0 (.pointer none) 1 8 Try.underlying81 hi hz0 hz1 hz2 rfl (by decide) _ _ _ rfl (HO.out.alloc _) ⟨wr.heap.size, 0, none⟩ 1 1 [pv ⟨kb, ko + k * 7, none⟩] rfl rfl (cell_one_new _ _ _) (by simp [Value.oneCell']) (by simp [maxLen]; omega) (by omega) (by simp; omega) ?_; intro v' w1 hown' hgrow _; obtain ⟨g9, cap9, rfl⟩ := ownsRow_succ hown'; have hB1 : Below w.heap.size w w1 := (HB.out.trans ((Below.refl _ wr).alloc hszr _)).grown hgrow (by simp; omega) (fun j ej => (HO.out.lt j ej).1); have HB1 : Hid (Below w.heap.size w w1) := hB1; have HO1 : Hid (w1.ownsRow w.heap.size 80 1 (.slice (some ⟨g9, 0, none⟩) (k + 1) cap9) (k + 1) ((kidA kb ko k).map pv ++ [pv ⟨kb, ko + k * 7, none⟩])) := hown'; clear hown' hgrow hB1)
      go_roundg (n - (k + 1))
      case measure => omega
      case rel => exact ⟨k + 1, _, _, by omega, Nat.le_refl _, by go_num, rfl, by rw [kidA_succ, List.map_append]; exact HO1, HB1⟩
    · obtain rfl : k = n := by omega
      have z1 : ¬ (k : Int) < (k : Int) := by omega
      go_wp2_with fail
      go_ret
      exact ⟨⟨a', c', by rw [kidA_len]; rfl, by rw [kidA_len]; exact HO.out⟩, HB.out⟩
end Go.Proofs.Ytdofhlmffponoaa

/-
  recastalike.TypeSize, walked.
-/
namespace Go.Proofs.Ytdofhlmffponoaa
open Go.RowKit
attribute [local go_sem ↓] Go.wp_at_zero Go.wp_at_succ
mutual
/-- how many types, up to a limit -/
def Ty.tsz : Ty → Int → Int
  | .mk _ _ _ _ _ _ ks, m => tszL ks m 1
def tszL : List Ty → Int → Int → Int
  | [], _, s => s
  | x :: r, m, s => if s ≤ m then tszL r m (s + x.tsz (m - s)) else s
end
theorem tszL_le (ks : List Ty) (ih : ∀ x ∈ ks, ∀ m, 0 ≤ m → 1 ≤ x.tsz m ∧ x.tsz m ≤ m + 1) : ∀ m s, 1 ≤ s → s ≤ m + 1 → 1 ≤ tszL ks m s ∧ tszL ks m s ≤ m + 1 := by
  induction ks with
  | nil => intro m s h1 h2; simp only [tszL]; omega
  | cons x r ih2 =>
    intro m s h1 h2
    simp only [tszL]
    split
    · have := ih x (by simp) (m - s) (by omega)
      exact ih2 (fun y hy => ih y (by simp [hy])) m _ (by omega) (by omega)
    · omega
theorem tsz_le : ∀ t : Ty, ∀ m, 0 ≤ m → 1 ≤ t.tsz m ∧ t.tsz m ≤ m + 1 :=
  Ty.ind fun k nm n f ns ms ks ih m hm => by
    simp only [Ty.tsz]
    exact tszL_le ks ih m 1 (by omega) (by omega)
/-- the object of a type -/
abbrev obT (t : Ty) (vn vm vk : Value) : Obj := .cells #[.int .i64 t.kind, .string t.name, .int .i64 t.n, .bool t.flag, vn, vm, vk] 29
end Go.Proofs.Ytdofhlmffponoaa

/-
  Rows of types that are a call's own.
-/
namespace Go.Proofs.Ytdofhlmffponoaa
open Go.RowKit
/-- the three slices of a type -/
structure V3 where
  n : Value
  m : Value
  k : Value
/-- the cells of a type -/
def cel (x : Ty) (v : V3) : List Value := [.int .i64 x.kind, .string x.name, .int .i64 x.n, .bool x.flag, v.n, v.m, v.k]
/-- the cells of types in a row -/
def flatT : List Ty → List V3 → List Value
  | x :: l, v :: vs => cel x v ++ flatT l vs
  | _, _ => []
theorem flatT_append (l : List Ty) (vs : List V3) (h : vs.length = l.length) (l' : List Ty) (vs' : List V3) : flatT (l ++ l') (vs ++ vs') = flatT l vs ++ flatT l' vs' := by
  induction l generalizing vs with
  | nil => cases vs with
    | nil => simp [flatT]
    | cons _ _ => simp at h
  | cons x l ih => cases vs with
    | nil => simp at h
    | cons v vs => simp [flatT, ih vs (by simpa using h)]
theorem flatT_len (l : List Ty) (vs : List V3) (h : vs.length = l.length) : (flatT l vs).length = l.length * 7 := by
  induction l generalizing vs with
  | nil => simp [flatT]
  | cons x l ih => cases vs with
    | nil => simp at h
    | cons v vs => simp [flatT, cel, ih vs (by simpa using h)]; omega
theorem flatT_get (l : List Ty) (vs : List V3) (h : vs.length = l.length) (i : Nat) (hi : i < l.length) (j : Nat) (hj : j < 7) : (flatT l vs)[i * 7 + j]? = (cel l[i] (vs[i]'(h ▸ hi)))[j]? := by
  induction l generalizing vs i with
  | nil => cases hi
  | cons x l ih => cases vs with
    | nil => simp at h
    | cons v vs =>
      cases i with
      | zero =>
        simp only [flatT, List.getElem_cons_zero, Nat.zero_mul, Nat.zero_add]
        rw [List.getElem?_append_left (by simp [cel]; omega)]
      | succ i =>
        have := ih vs (by simpa using h) i (by simpa using hi)
        simp only [List.getElem_cons_succ, flatT]
        rw [List.getElem?_append_right (by simp [cel]; omega), ← this]
        congr 1
        simp [cel]; omega
/-- a row of types that is the call's own, with the parts of each one elsewhere -/
structure RowT (base : Nat) (K : BQ) (W : World) (v : Value) (l : List Ty) : Prop where
  mk' ::
  ex : ∃ vs : List V3, ∃ h : vs.length = l.length, W.ownsRow base 29 7 v l.length (flatT l vs) ∧ ∀ i (hi : i < l.length), Prt (fun b => K b ∧ v.ownBlock ≠ some b) W l[i] (vs[i]'(h ▸ hi)).n (vs[i]'(h ▸ hi)).m (vs[i]'(h ▸ hi)).k
theorem RowT.nil (base : Nat) (K : BQ) (W : World) : RowT base K W (.slice none 0 0) [] := ⟨[], rfl, World.ownsRow_nil _ _ _ _, fun i hi => by cases hi⟩
theorem RowT.slice {base : Nat} {K : BQ} {W : World} {v : Value} {l : List Ty} (h : RowT base K W v l) : ∃ a c, v = .slice a l.length c := by
  obtain ⟨vs, hl, ho, _⟩ := h.ex
  rcases ho.2 with ⟨rfl, h0⟩ | ⟨g, cap, cur, rfl, _⟩
  · rw [h0]; exact ⟨_, _, rfl⟩
  · exact ⟨_, _, rfl⟩
theorem RowT.lt {base : Nat} {K : BQ} {W : World} {v : Value} {l : List Ty} (h : RowT base K W v l) : ∀ k, v.ownBlock = some k → base ≤ k ∧ k < W.heap.size := by
  obtain ⟨vs, hl, ho, _⟩ := h.ex
  exact ho.lt
theorem RowT.to {base : Nat} {K : BQ} {X : Nat → Prop} {W W' : World} {v : Value} {l : List Ty} (h : RowT base K W v l) (hk : Kx X W W') (hv : ∀ b, v.ownBlock = some b → ¬ X b) (hX : ∀ b, b < W.heap.size → K b → ¬ X b) : RowT base K W' v l := by
  obtain ⟨vs, hl, ho, hs⟩ := h.ex
  refine ⟨vs, hl, ?_, fun i hi => (hs i hi).to hk (fun _ _ h => h) (fun b h1 h2 => hX b h1 h2.1)⟩
  refine ⟨ho.1, ?_⟩
  rcases ho.2 with h0 | ⟨g, cap, cur, rfl, h1, h2, h3⟩
  · exact .inl h0
  · exact .inr ⟨g, cap, cur, rfl, h1, hk.keep _ _ h2 (hv _ rfl), h3⟩
theorem RowT.kept {base : Nat} {K : BQ} {W W' : World} {v : Value} {l : List Ty} (h : RowT base K W v l) (hk : Below W.heap.size W W') : RowT base K W' v l :=
  h.to (X := fun _ => False) (Kx.of_whole hk) (fun _ _ h => h) (fun _ _ _ h => h)
/-- types more -/
theorem RowT.join {base : Nat} {K : BQ} {W W1 : World} {v : Value} {l l2 : List Ty} {vs vs2 : List V3} (hl : vs.length = l.length)
    (hs : ∀ i (hi : i < l.length), Prt (fun b => K b ∧ v.ownBlock ≠ some b) W l[i] (vs[i]'(hl ▸ hi)).n (vs[i]'(hl ▸ hi)).m (vs[i]'(hl ▸ hi)).k) (hl2 : vs2.length = l2.length)
    (hs2 : ∀ i (hi : i < l2.length), Prt (fun b => K b ∧ v.ownBlock ≠ some b) W l2[i] (vs2[i]'(hl2 ▸ hi)).n (vs2[i]'(hl2 ▸ hi)).m (vs2[i]'(hl2 ▸ hi)).k) {g cap : Nat}
    (hg : W.grownBy W1 v.ownBlock) (hat : v.ownBlock = some g ∨ g = W.heap.size)
    (ho1 : W1.ownsRow base 29 7 (.slice (some ⟨g, 0, none⟩) (l.length + l2.length) cap) (l.length + l2.length) (flatT l vs ++ flatT l2 vs2)) :
    RowT base K W1 (.slice (some ⟨g, 0, none⟩) (l.length + l2.length) cap) (l ++ l2) := by
  have hk := grownBy_kx hg
  have conv : ∀ {x : Ty} {a b c : Value}, Prt (fun b => K b ∧ v.ownBlock ≠ some b) W x a b c → Prt (fun b => K b ∧ (Value.slice (some ⟨g, 0, none⟩) (l.length + l2.length) cap).ownBlock ≠ some b) W1 x a b c := fun hz =>
    hz.to hk (fun b h1 h2 => ⟨h2.1, fun e => by
      have e' : g = b := by simpa [Value.ownBlock] using e
      rcases hat with h3 | h3
      · exact h2.2 (by rw [h3, e'])
      · omega⟩) (fun b _ h2 e => h2.2 e)
  have hl1 : (vs ++ vs2).length = (l ++ l2).length := by simp [hl, hl2]
  refine ⟨vs ++ vs2, hl1, ?_, fun i hi => ?_⟩
  · rw [flatT_append l vs hl, List.length_append]
    exact ho1
  · rcases Nat.lt_or_ge i l.length with h1 | h1
    · have := conv (hs i h1)
      simpa [List.getElem_append, h1, hl ▸ h1] using this
    · have hi2 : i - l.length < l2.length := by simp at hi; omega
      have := conv (hs2 (i - l.length) hi2)
      simpa [List.getElem_append, show ¬ i < l.length by omega, show ¬ i < vs.length by omega, hl] using this
/-- the row read as a slice -/
theorem RowT.read {base : Nat} {K B : BQ} {W : World} {v : Value} {l : List Ty} (h : RowT base K W v l) (hm : (l.length : Int) ≤ 9223372036854775807) (hK : ∀ b, b < W.heap.size → K b → B b) (hv : ∀ b, v.ownBlock = some b → base ≤ b → B b) : SlT B W v l := by
  obtain ⟨vs, hl, ho, hs⟩ := h.ex
  rcases ho.2 with ⟨h0, h1⟩ | ⟨g, cap, cur, rfl, h1, h2, h3, h4, h5, h6⟩
  · exact .inl ⟨_, _, h0, List.eq_nil_of_length_eq_zero h1⟩
  · refine .inr ⟨g, 0, cap, rfl, hm, (Array.getElem?_eq_some_iff.1 h2).1, hv g rfl h1, liesT_of fun i hi => ?_⟩
    have hc : ∀ j, j < 7 → W.cell? ⟨g, 0 + i * 7 + j, none⟩ = (cel l[i] (vs[i]'(hl ▸ hi)))[j]? := fun j hj => by
      rw [← flatT_get l vs hl i hi j hj, cell_of h2, ← h6, List.getElem?_take, if_pos (by omega), Array.getElem?_toList]
      congr 1; omega
    have c0 := hc 0 (by omega)
    rw [Nat.add_zero] at c0
    exact lies_iff.2 ⟨c0, hc 1 (by omega), hc 2 (by omega), hc 3 (by omega), _, _, _, hc 4 (by omega), hc 5 (by omega), hc 6 (by omega), (hs i hi).with (fun b h7 h8 => hK b h7 h8.1)⟩
theorem flatT_one (l : List Ty) (vs : List V3) (h : vs.length = l.length) (h1 : ∀ i (hi : i < l.length), (vs[i]'(h ▸ hi)).n.oneCell' = true ∧ (vs[i]'(h ▸ hi)).m.oneCell' = true ∧ (vs[i]'(h ▸ hi)).k.oneCell' = true) : ∀ u ∈ flatT l vs, u.oneCell' = true := by
  induction l generalizing vs with
  | nil => intro u hu; simp [flatT] at hu
  | cons x l ih =>
    cases vs with
    | nil => simp at h
    | cons v vs =>
      intro u hu
      simp only [flatT, List.mem_append, cel, List.mem_cons, List.not_mem_nil, or_false] at hu
      have h0 := h1 0 (by simp)
      rcases hu with (rfl | rfl | rfl | rfl | rfl | rfl | rfl) | hu
      · rfl
      · rfl
      · rfl
      · rfl
      · exact h0.1
      · exact h0.2.1
      · exact h0.2.2
      · exact ih vs (by simpa using h) (fun i hi => h1 (i + 1) (by simpa using hi)) u hu
theorem Prt.one {B : BQ} {W : World} {t : Ty} {vn vm vk : Value} (h : Prt B W t vn vm vk) : vn.oneCell' = true ∧ vm.oneCell' = true ∧ vk.oneCell' = true := by
  obtain ⟨an, cn, am, cm, ak, ck, rfl, rfl, rfl⟩ := h.form
  exact ⟨rfl, rfl, rfl⟩
/-- types that lie in a slice, cell by cell -/
theorem liesT_flat {B : BQ} {W : World} (l : List Ty) : ∀ (b o : Nat), liesT B W l b o → ∃ vs : List V3, ∃ h : vs.length = l.length, (∀ j u, (flatT l vs)[j]? = some u → W.cell? ⟨b, o + j, none⟩ = some u) ∧ ∀ i (hi : i < l.length), Prt B W l[i] (vs[i]'(h ▸ hi)).n (vs[i]'(h ▸ hi)).m (vs[i]'(h ▸ hi)).k := by
  induction l with
  | nil => intro b o _; exact ⟨[], rfl, (fun j u h => by simp [flatT] at h), fun i hi => by cases hi⟩
  | cons x l ih =>
    intro b o h
    obtain ⟨h1, h2⟩ := liesT_cons.1 h
    obtain ⟨vs, hl, hc, hs⟩ := ih b (o + 7) h2
    obtain ⟨k0, k1, k2, k3, vn, vm, vk, k4, k5, k6, hp⟩ := lies_iff.1 h1
    refine ⟨⟨vn, vm, vk⟩ :: vs, by simp [hl], fun j u hj => ?_, fun i hi => ?_⟩
    · match j with
      | 0 => simp [flatT, cel] at hj; subst hj; exact k0
      | 1 => simp [flatT, cel] at hj; subst hj; exact k1
      | 2 => simp [flatT, cel] at hj; subst hj; exact k2
      | 3 => simp [flatT, cel] at hj; subst hj; exact k3
      | 4 => simp [flatT, cel] at hj; subst hj; exact k4
      | 5 => simp [flatT, cel] at hj; subst hj; exact k5
      | 6 => simp [flatT, cel] at hj; subst hj; exact k6
      | j + 7 =>
        have := hc j u (by simpa [flatT, cel] using hj)
        rwa [show o + (j + 7) = o + 7 + j by omega]
    · cases i with
      | zero => exact hp
      | succ i => exact hs i (by simpa using hi)
end Go.Proofs.Ytdofhlmffponoaa

/-
  recastalike.Texts, Bools and Types, walked.
-/
namespace Go.Proofs.Ytdofhlmffponoaa
open Go.RowKit
attribute [local go_sem ↓] Go.wp_at_zero Go.wp_at_succ
theorem str_eq {a b : ByteArray} (h : a = b) : (a.toList == b.toList) = true := by subst h; simp
theorem str_ne {a b : ByteArray} (h : a ≠ b) : (a.toList == b.toList) = false := by
  rw [beq_eq_false_iff_ne]
  intro e
  apply h
  rw [Lib.toList_data, Lib.toList_data] at e
  exact ByteArray.ext (Array.ext' e)
theorem RowV.len {α : Type} {f : α → Value} {B : BQ} {W : World} {a : Option Addr} {n c : Nat} {l : List α} (h : RowV f B W (.slice a n c) l) : n = l.length := by
  obtain ⟨_, _, e, _⟩ := h.slice
  simp at e
  exact e.2.1
theorem RowV.max {α : Type} {f : α → Value} {B : BQ} {W : World} {a : Option Addr} {n c : Nat} {l : List α} (h : RowV f B W (.slice a n c) l) : (n : Int) ≤ 9223372036854775807 := by
  obtain ⟨_, _, _, hm⟩ := h.slice
  rw [h.len]; exact hm
theorem ret_bool {a b : Bool} (h : a = b) : Ending.returned (.bool a) = .returned (.bool b) := by rw [h]
theorem take_eq {α : Type} {l l' : List α} (hl : l.length = l'.length) (h : ∀ i (h1 : i < l.length) (h2 : i < l'.length), l[i] = l'[i]) : l = l' := List.ext_getElem hl h
theorem bool_eq {a b : Bool} (h : a = b) : (a == b) = true := by subst h; simp
theorem bool_ne {a b : Bool} (h : a ≠ b) : (a == b) = false := by simpa using h
end Go.Proofs.Ytdofhlmffponoaa

