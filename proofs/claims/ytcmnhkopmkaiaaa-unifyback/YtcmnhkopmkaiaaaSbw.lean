/-
  types.Subst with arguments: between two steps.
-/
import Derived.Test.YtcmnhkopmkaiaaaSbv
namespace Go.Proofs.Ytcmnhkopmkaiaaa
open Go.RowKit
mutual
/-- what the code's Subst makes (within constraints as well) -/
def Ty.sbc (args : List Ty) : Ty → Ty
  | .mk k nm n f ns ms ks => if k = 9 ∧ 0 ≤ n ∧ n < (args.length : Int) then args[n.toNat]?.getD (.mk k nm n f ns ms ks) else .mk k nm n f ns ms (sbcL args ks)
def sbcL (args : List Ty) : List Ty → List Ty
  | [] => []
  | x :: r => x.sbc args :: sbcL args r
end
theorem sbcL_eq (args : List Ty) (l : List Ty) : sbcL args l = l.map (Ty.sbc args) := by
  induction l with
  | nil => simp [sbcL]
  | cons x r ih => simp [sbcL, ih]
theorem Ty.sbc_put {args : List Ty} {t : Ty} {q : Nat} (hk : t.kind = 9) (hn : t.n = (q : Int)) (hq : q < args.length) : t.sbc args = args[q] := by
  obtain ⟨k, nm, n, f, ns, ms, ks⟩ := t
  simp only [Ty.kind, Ty.n] at hk hn
  subst hk hn
  have h1 : (q : Int) < (args.length : Int) := by omega
  simp [Ty.sbc, h1, hq]
theorem Ty.sbc_keep {args : List Ty} {t : Ty} (h : ¬ (t.kind = 9 ∧ 0 ≤ t.n ∧ t.n < (args.length : Int))) : t.sbc args = .mk t.kind t.name t.n t.flag t.names t.marks (t.kids.map (Ty.sbc args)) := by
  obtain ⟨k, nm, n, f, ns, ms, ks⟩ := t
  simp only [Ty.kind, Ty.n] at h
  simp only [Ty.sbc, if_neg h, sbcL_eq, Ty.kind, Ty.name, Ty.n, Ty.flag, Ty.names, Ty.marks, Ty.kids]
/-- the cells of B are kept -/
def CK (B : BQ) (W W' : World) : Prop := ∀ a u, B a.block → a.spot = none → W.cell? a = some u → W'.cell? a = some u
theorem RowV.ck {α : Type} {f : α → Value} {B B' : BQ} {W W' : World} {v : Value} {l : List α} (h : RowV f B W v l) (hc : CK B W W') (hs : W.heap.size ≤ W'.heap.size) (hB : ∀ b, B b → B' b) : RowV f B' W' v l := by
  rcases h with h | ⟨b, o, c, e, hl, hb, h1, h2⟩
  · exact .inl h
  · exact .inr ⟨b, o, c, e, hl, by omega, hB b h1, fun i x hx => hc _ _ h1 rfl (h2 i x hx)⟩
theorem lies_ck {B B' : BQ} {W W' : World} (hc : CK B W W') (hs : W.heap.size ≤ W'.heap.size) (hB : ∀ b, B b → B' b) : ∀ t : Ty, ∀ b o, B b → t.lies B W b o → t.lies B' W' b o :=
  Ty.ind fun k nm n f ns ms ks ih b o hb h => by
    obtain ⟨h0, h1, h2, h3, v4, v5, v6, h4, h5, h6, g⟩ := lies_iff.1 h
    refine lies_iff.2 ⟨hc _ _ hb rfl h0, hc _ _ hb rfl h1, hc _ _ hb rfl h2, hc _ _ hb rfl h3, v4, v5, v6, hc _ _ hb rfl h4, hc _ _ hb rfl h5, hc _ _ hb rfl h6, g.ns.ck hc hs hB, g.ms.ck hc hs hB, ?_⟩
    rcases g.ks with g | ⟨b', o', c, e, hl, hb1, hb', hL⟩
    · exact .inl g
    · exact .inr ⟨b', o', c, e, hl, by omega, hB _ hb', liesT_of fun i hi => ih _ (List.getElem_mem _) b' _ hb' (liesT_get hL i hi)⟩
theorem Prt.ck {B B' : BQ} {W W' : World} {t : Ty} {vn vm vk : Value} (h : Prt B W t vn vm vk) (hc : CK B W W') (hs : W.heap.size ≤ W'.heap.size) (hB : ∀ b, B b → B' b) : Prt B' W' t vn vm vk := by
  refine ⟨h.ns.ck hc hs hB, h.ms.ck hc hs hB, ?_⟩
  rcases h.ks with g | ⟨b', o', c, e, hl, hb1, hb', hL⟩
  · exact .inl g
  · exact .inr ⟨b', o', c, e, hl, by omega, hB _ hb', liesT_of fun i hi => lies_ck hc hs hB _ _ _ hb' (liesT_get hL i hi)⟩
/-- the cells that a step may write -/
def Pnd.hit7 (p : Pnd) (a : Addr) : Prop := a.block = p.b ∧ a.spot = none ∧ p.o ≤ a.off ∧ a.off < p.o + 7
theorem Pnd.far.not_hit7 {p q : Pnd} (h : p.far q) {i : Nat} (hi : i < 7) : ¬ q.hit7 ⟨p.b, p.o + i, none⟩ := fun ⟨h1, _, h3, h4⟩ => by
  simp only at h1 h3 h4
  unfold Pnd.far at h
  omega
theorem set7_far {w : World} {b o : Nat} {x0 x1 x2 x3 x4 x5 x6 : Value} {a : Addr} (h : ¬ (a.block = b ∧ a.spot = none ∧ o ≤ a.off ∧ a.off < o + 7)) : (((((((w.setCell ⟨b, o, none⟩ x0).setCell ⟨b, o + 1, none⟩ x1).setCell ⟨b, o + 2, none⟩ x2).setCell ⟨b, o + 3, none⟩ x3).setCell ⟨b, o + 4, none⟩ x4).setCell ⟨b, o + 5, none⟩ x5).setCell ⟨b, o + 6, none⟩ x6).cell? a = w.cell? a := by
  rw [set_far (o' := o + 6) (fun e => h ⟨e.1, e.2.1, by omega, by omega⟩) rfl, set_far (o' := o + 5) (fun e => h ⟨e.1, e.2.1, by omega, by omega⟩) rfl, set_far (o' := o + 4) (fun e => h ⟨e.1, e.2.1, by omega, by omega⟩) rfl, set_far (o' := o + 3) (fun e => h ⟨e.1, e.2.1, by omega, by omega⟩) rfl, set_far (o' := o + 2) (fun e => h ⟨e.1, e.2.1, by omega, by omega⟩) rfl, set_far (o' := o + 1) (fun e => h ⟨e.1, e.2.1, by omega, by omega⟩) rfl, set_far (o' := o) (fun e => h ⟨e.1, e.2.1, by omega, by omega⟩) rfl]
theorem set_back {w : World} {b o o' : Nat} {x y : Value} (h : w.cell? ⟨b, o, none⟩ = some x) (hn : o ≠ o') : (w.setCell ⟨b, o', none⟩ y).cell? ⟨b, o, none⟩ = some x := by
  rw [set_far (o' := o') (fun e => hn e.2.2) rfl]; exact h
theorem set_here {w : World} {b o : Nat} {x y : Value} (h : w.cell? ⟨b, o, none⟩ = some x) : (w.setCell ⟨b, o, none⟩ y).cell? ⟨b, o, none⟩ = some y := World.cell?_setCell_same' _ _ _ (by rw [h]; rfl)
theorem set7_own {w : World} {b o : Nat} {x0 x1 x2 x3 x4 x5 x6 y0 y1 y2 y3 y4 y5 y6 : Value} (h0 : w.cell? ⟨b, o, none⟩ = some y0) (h1 : w.cell? ⟨b, o + 1, none⟩ = some y1) (h2 : w.cell? ⟨b, o + 2, none⟩ = some y2) (h3 : w.cell? ⟨b, o + 3, none⟩ = some y3) (h4 : w.cell? ⟨b, o + 4, none⟩ = some y4) (h5 : w.cell? ⟨b, o + 5, none⟩ = some y5) (h6 : w.cell? ⟨b, o + 6, none⟩ = some y6) {W : World} (hW : W = (((((((w.setCell ⟨b, o, none⟩ x0).setCell ⟨b, o + 1, none⟩ x1).setCell ⟨b, o + 2, none⟩ x2).setCell ⟨b, o + 3, none⟩ x3).setCell ⟨b, o + 4, none⟩ x4).setCell ⟨b, o + 5, none⟩ x5).setCell ⟨b, o + 6, none⟩ x6)) :
    W.cell? ⟨b, o, none⟩ = some x0 ∧ W.cell? ⟨b, o + 1, none⟩ = some x1 ∧ W.cell? ⟨b, o + 2, none⟩ = some x2 ∧ W.cell? ⟨b, o + 3, none⟩ = some x3 ∧ W.cell? ⟨b, o + 4, none⟩ = some x4 ∧ W.cell? ⟨b, o + 5, none⟩ = some x5 ∧ W.cell? ⟨b, o + 6, none⟩ = some x6 := by
  subst hW
  exact ⟨(set_back (set_back (set_back (set_back (set_back (set_back (set_here h0) (by omega)) (by omega)) (by omega)) (by omega)) (by omega)) (by omega)), (set_back (set_back (set_back (set_back (set_back (set_here (set_back h1 (by omega))) (by omega)) (by omega)) (by omega)) (by omega)) (by omega)), (set_back (set_back (set_back (set_back (set_here (set_back (set_back h2 (by omega)) (by omega))) (by omega)) (by omega)) (by omega)) (by omega)), (set_back (set_back (set_back (set_here (set_back (set_back (set_back h3 (by omega)) (by omega)) (by omega))) (by omega)) (by omega)) (by omega)), (set_back (set_back (set_here (set_back (set_back (set_back (set_back h4 (by omega)) (by omega)) (by omega)) (by omega))) (by omega)) (by omega)), (set_back (set_here (set_back (set_back (set_back (set_back (set_back h5 (by omega)) (by omega)) (by omega)) (by omega)) (by omega))) (by omega)), (set_here (set_back (set_back (set_back (set_back (set_back (set_back h6 (by omega)) (by omega)) (by omega)) (by omega)) (by omega)) (by omega)))⟩
theorem set7_kx {w : World} {b o : Nat} {x0 x1 x2 x3 x4 x5 x6 : Value} : Kx (· = b) w (((((((w.setCell ⟨b, o, none⟩ x0).setCell ⟨b, o + 1, none⟩ x1).setCell ⟨b, o + 2, none⟩ x2).setCell ⟨b, o + 3, none⟩ x3).setCell ⟨b, o + 4, none⟩ x4).setCell ⟨b, o + 5, none⟩ x5).setCell ⟨b, o + 6, none⟩ x6) :=
  (((((kx_set.trans kx_set).trans kx_set).trans kx_set).trans kx_set).trans kx_set).trans kx_set
theorem trP_to {X : Nat → Prop} {W W' : World} (hk : Kx X W W') : ∀ (ps : List Pnd) (lo hi : Nat), (∀ p ∈ ps, ∀ i, i < 7 → ∀ v, W.cell? ⟨p.b, p.o + i, none⟩ = some v → W'.cell? ⟨p.b, p.o + i, none⟩ = some v) → (∀ b, lo ≤ b → b < hi → ¬ X b) → trP W ps lo hi → trP W' ps lo hi
  | [], _, _, _, _, h => h
  | p :: r, lo, hi, hc, hX, h => by
    obtain ⟨m, h1, h2⟩ := h
    have l1 := tr_le _ _ _ _ _ h1
    have l2 := trP_le r _ _ h2
    refine ⟨m, ?_, trP_to hk r m hi (fun q hq => hc q (by simp [hq])) (fun b h3 h4 => hX b (by omega) h4) h2⟩
    obtain ⟨⟨g0, g1, g2, g3⟩, vn, vm, vk, ⟨g4, g5, g6⟩, hp⟩ := tr_iff.1 h1
    have k := hc p (by simp)
    exact tr_iff.2 ⟨⟨k 0 (by omega) _ g0, k 1 (by omega) _ g1, k 2 (by omega) _ g2, k 3 (by omega) _ g3⟩, vn, vm, vk, ⟨k 4 (by omega) _ g4, k 5 (by omega) _ g5, k 6 (by omega) _ g6⟩, hp.kx hk (fun b h3 h4 => hX b h3 (by omega))⟩
where
  trP_le : ∀ (r : List Pnd) (lo hi : Nat), trP W r lo hi → lo ≤ hi
  | [], _, _, h => h
  | p :: r, _, _, h => by
    obtain ⟨m, h1, h2⟩ := h
    exact Nat.le_trans (tr_le _ _ _ _ _ h1) (trP_le r _ _ h2)
theorem trP_join {W : World} : ∀ {a b : List Pnd} {lo m hi : Nat}, trP W a lo m → trP W b m hi → trP W (a ++ b) lo hi
  | [], [], _, _, _, h1, h2 => Nat.le_trans h1 h2
  | [], p :: r, lo, m, hi, h1, h2 => by
    obtain ⟨k, h3, h4⟩ := h2
    exact ⟨k, tr_wide h3 h1 (Nat.le_refl _), h4⟩
  | p :: r, b, lo, m, hi, h1, h2 => by
    obtain ⟨k, h3, h4⟩ := h1
    exact ⟨k, h3, trP_join h4 h2⟩
theorem kidP_tr {W : World} {kb : Nat} : ∀ (l : List Ty) (o lo hi : Nat), trL W l kb o lo hi → trP W (kidP kb l o) lo hi
  | [], _, _, _, h => trL_nil.1 h
  | x :: r, o, lo, hi, h => by
    obtain ⟨m, h1, h2⟩ := trL_cons.1 h
    exact ⟨m, h1, kidP_tr r _ _ _ h2⟩
/-- what lies in blocks of X, but for what may be written, lies there still -/
def Ag7 (X : Nat → Prop) (ps : List Pnd) (lo hi : Nat) (W W' : World) : Prop := ∀ a v, X a.block → W.cell? a = some v → ¬ (lo ≤ a.block ∧ a.block < hi) → (∀ p ∈ ps, ¬ p.hit7 a) → W'.cell? a = some v
/-- if those that are to come will lie well, the root will -/
def Wv (N1 : Nat) (args : List Ty) (root : Ty) (T0 : Nat) (X : Nat → Prop) (ps : List Pnd) (lo hi : Nat) (W : World) : Prop :=
  ∀ W', Ag7 X ps lo hi W W' → W.heap.size ≤ W'.heap.size → (∀ p ∈ ps, (p.t.sbc args).lies (fun b => N1 ≤ b) W' p.b p.o) → (root.sbc args).lies (fun b => N1 ≤ b) W' T0 0
theorem Wv.stable {N1 : Nat} {args : List Ty} {root : Ty} {T0 : Nat} {X : Nat → Prop} {ps : List Pnd} {lo hi : Nat} {W W' : World} (hw : Wv N1 args root T0 X ps lo hi W) (hk : Kx (fun b => ¬ X b) W W') : Wv N1 args root T0 X ps lo hi W' := by
  intro W2 hag hs hl
  exact hw W2 (fun a v ha hv hn hm => hag a v ha (hk.cell hv (fun h => h ha)) hn hm) (Nat.le_trans hk.size hs) hl
/-- between two steps -/
structure SvI (w0 : World) (N1 AB : Nat) (av : Value) (args : List Ty) (root : Ty) (T0 : Nat) (g : Nat) (X : Nat → Prop) (l : List Addr) (W : World) : Prop where
  old : Kx (fun b => N1 ≤ b ∧ b < w0.heap.size) w0 W
  all : ∀ b, b < w0.heap.size → X b
  lt : ∀ b, X b → b < W.heap.size
  gb : g ≤ 1000000
  hAB : AB < N1
  hA : w0.cell? ⟨AB, 0, none⟩ = some av
  hs : SlT (fun b => b < N1) w0 av args
  hF : ∀ x ∈ args, Fit x ∧ x.cnt ≤ 1000000
  ex : ∃ (ps : List Pnd) (lo hi : Nat), ps.map Pnd.a = l ∧ cntL (ps.map Pnd.t) ≤ g ∧ trP W ps lo hi ∧ N1 ≤ lo ∧ hi ≤ w0.heap.size ∧ (∀ p ∈ ps, N1 ≤ p.b ∧ p.b < w0.heap.size ∧ NB W p.b ∧ ¬ (lo ≤ p.b ∧ p.b < hi)) ∧ ps.Pairwise Pnd.far ∧ Wv N1 args root T0 X ps lo hi W
section
variable {w0 : World} {N1 AB : Nat} {av : Value} {args : List Ty} {root : Ty} {T0 g : Nat} {X : Nat → Prop} {l : List Addr} {W W' : World}
theorem SvI.stable (h : SvI w0 N1 AB av args root T0 g X l W) (hk : Kx (fun b => ¬ X b) W W') : SvI w0 N1 AB av args root T0 g X l W' := by
  obtain ⟨ps, lo, hi, e1, e2, ht, hlo, hhi, hp, hd, hw⟩ := h.ex
  refine ⟨h.old.andThen hk (fun _ _ h => h) (fun b hb hx => absurd (h.all b hb) hx), h.all, fun b hb => Nat.lt_of_lt_of_le (h.lt b hb) hk.size, h.gb, h.hAB, h.hA, h.hs, h.hF, ps, lo, hi, e1, e2, ?_, hlo, hhi, fun p hp' => ?_, hd, hw.stable hk⟩
  · exact trP_to hk ps lo hi (fun p hp' i _ v hv => hk.cell hv (fun hx => hx (h.all _ (hp p hp').2.1))) (fun b _ h4 hx => hx (h.all b (by omega))) ht
  · obtain ⟨p1, p2, p3, p4⟩ := hp p hp'
    exact ⟨p1, p2, p3.kx hk (fun hx => hx (h.all _ p2)), p4⟩
theorem SvI.len (h : SvI w0 N1 AB av args root T0 g X l W) : l.length ≤ 1000000 := by
  obtain ⟨ps, lo, hi, e1, e2, _⟩ := h.ex
  have := h.gb
  have h1 := cntL_len (ps.map Pnd.t)
  rw [List.length_map] at h1
  rw [← e1, List.length_map]; omega
theorem SvI.done (h : SvI w0 N1 AB av args root T0 g X [] W) : (root.sbc args).lies (fun b => N1 ≤ b) W T0 0 := by
  obtain ⟨ps, lo, hi, e1, e2, ht, hlo, hhi, hp, hd, hw⟩ := h.ex
  obtain rfl : ps = [] := by simpa using e1
  exact hw W (fun a v _ h _ _ => h) (Nat.le_refl _) (fun p hp => by cases hp)
theorem SvI.call {x : Addr} {r : List Addr} (h : SvI w0 N1 AB av args root T0 g X (x :: r) W) : Calls Try.prog 26 #[pv x, .pointer (some ⟨AB, 0, none⟩)] W (StQ (SvI w0 N1 AB av args root T0) (fun _ _ => False) g X r W) := by
  obtain ⟨ps, lo, hi, e1, e2, ht, hlo, hhi, hp, hd, hw⟩ := h.ex
  cases ps with
  | nil => simp at e1
  | cons p qs =>
    obtain ⟨rfl, rfl⟩ : p.a = x ∧ qs.map Pnd.a = r := by simpa using e1
    obtain ⟨hp1, hp2, hpn, hpz⟩ := hp p (by simp)
    obtain ⟨hd1, hd2⟩ := List.pairwise_cons.1 hd
    obtain ⟨m, htp, htq⟩ := ht
    obtain ⟨⟨h0, h1, h2, h3⟩, vn, vm, vk, ⟨h4, h5, h6⟩, m', hm', hns, hms, hks⟩ := tr_iff.1 htp
    have hmm := trP_to.trP_le _ _ _ htq
    have hlm := tr_le _ _ _ _ _ htp
    rw [List.map_cons, cntL_cons] at e2
    have hcp := p.t.cnt_eq
    have hgb := h.gb
    have hkl := cntL_len p.t.kids
    have hoz := h.old.size
    have hA : W.cell? ⟨AB, 0, none⟩ = some av := h.old.cell h.hA (fun hx => by have := h.hAB; have := hx.1; simp only at this; omega)
    have hs : SlT (fun b => b < N1) W av args := h.hs.to h.old (fun _ _ h => h) (fun b _ hb hx => by omega)
    obtain ⟨aa, ca, rfl, _, hae⟩ := hs.open
    by_cases hc : p.t.kind = 9 ∧ 0 ≤ p.t.n ∧ p.t.n < (args.length : Int)
    · obtain ⟨q, hq⟩ : ∃ q : Nat, p.t.n = (q : Int) := ⟨p.t.n.toNat, by omega⟩
      have hql : q < args.length := by omega
      obtain ⟨ab, ao, rfl, hab1, hab2, hli⟩ := hae q hql
      obtain ⟨hu1, hu2⟩ := h.hF _ (List.getElem_mem hql)
      rw [hc.1] at h0
      rw [hq] at h2
      have hsb := Ty.sbc_put (args := args) hc.1 hq hql
      refine (sb_put h0 h1 h2 h3 h4 h5 h6 hpn hA hql hli hu1 hu2).mono ?_
      intro e W2 hQ
      obtain ⟨w1, un, um, uk, hb1, hpr, hW2⟩ := hQ.ex
      have hkx1 : Kx (· = p.b) W W2 := by rw [hW2]; exact (Kx.of_whole hb1).trans set7_kx
      have cellW : ∀ a v, ¬ p.hit7 a → W.cell? a = some v → W2.cell? a = some v := fun a v ha hv => by rw [hW2, set7_far ha]; exact kept_cell hb1 hv
      have hown := set7_own (kept_cell hb1 h0) (kept_cell hb1 h1) (kept_cell hb1 h2) (kept_cell hb1 h3) (kept_cell hb1 h4) (kept_cell hb1 h5) (kept_cell hb1 h6) hW2
      have hz1 := hb1.size
      have hz2 : w1.heap.size ≤ W2.heap.size := by rw [hW2]; exact (set7_kx (b := p.b)).size
      have nb2 : ∀ k, NB W k → NB W2 k := fun k n => by rw [hW2]; exact (((((((n.kept hb1).set _ _).set _ _).set _ _).set _ _).set _ _).set _ _).set _ _
      have hkx : Kx X W W2 := hkx1.andThen (Kx.refl (fun _ => False) _) (fun b _ e => e ▸ h.all _ hp2) (fun _ _ h => h.elim)
      refine .inl ⟨none, 0, 0, [], g - 1, fun b => X b ∨ (W.heap.size ≤ b ∧ b < W2.heap.size), hQ.er, .inl ⟨none, 0, rfl, rfl⟩, by omega, ⟨?_, fun b hb => .inl (h.all b hb), ?_, by omega, h.hAB, h.hA, h.hs, h.hF, qs, m, hi, rfl, by omega, ?_, ?_, hhi, ?_, hd2, ?_⟩, hkx, fun b hb hx => hx.resolve_right (by omega)⟩
      · exact h.old.andThen hkx1 (fun _ _ h => h) (fun b hb e => by subst e; exact ⟨hp1, hp2⟩)
      · rintro b (hx | hx)
        · have := h.lt b hx; have := hkx.size; omega
        · exact hx.2
      · exact trP_to hkx1 qs m hi (fun q hq i hi v hv => cellW _ _ ((hd1 q hq).symm.not_hit7 hi) hv) (fun b h3 h4 e => hpz ⟨by omega, by omega⟩) htq
      · have := tr_le _ _ _ _ _ htp; omega
      · intro q hq
        obtain ⟨q1, q2, q3, q4⟩ := hp q (by simp [hq])
        have := tr_le _ _ _ _ _ htp
        exact ⟨q1, q2, nb2 _ q3, fun hx => q4 ⟨by omega, hx.2⟩⟩
      · intro W6 hag hs6 hl
        have hlom := tr_le _ _ _ _ _ htp
        have cellP : ∀ i u, i < 7 → W2.cell? ⟨p.b, p.o + i, none⟩ = some u → W6.cell? ⟨p.b, p.o + i, none⟩ = some u := fun i u hi' hu =>
          hag _ u (.inl (h.all _ hp2)) hu (fun hx => hpz ⟨by have := hx.1; simp only at this; omega, hx.2⟩) (fun q hq => (hd1 q hq).not_hit7 hi')
        refine hw W6 (fun a v ha hv hn hm => hag a v (.inl ha) (cellW a v (hm p (by simp)) hv) (fun hx => hn ⟨by omega, hx.2⟩) (fun q hq => hm q (by simp [hq]))) (by omega) (fun q hq => ?_)
        rcases List.mem_cons.1 hq with rfl | hq
        · rw [hsb]
          have c0 := cellP 0 _ (by omega) hown.1
          refine lies_iff.2 ⟨c0, cellP 1 _ (by omega) hown.2.1, cellP 2 _ (by omega) hown.2.2.1, cellP 3 _ (by omega) hown.2.2.2.1, un, um, uk, cellP 4 _ (by omega) hown.2.2.2.2.1, cellP 5 _ (by omega) hown.2.2.2.2.2.1, cellP 6 _ (by omega) hown.2.2.2.2.2.2, ?_⟩
          refine hpr.ck (fun a u hb hsp hu => ?_) (by omega) (fun b hb => by show N1 ≤ b; omega)
          have hlt := World.block_lt_of_cell? _ _ hu
          have hu2' : W2.cell? a = some u := by rw [hW2, set7_far (fun hx => by have := hx.1; omega)]; exact hu
          exact hag a u (.inr ⟨hb, by omega⟩) hu2' (fun hx => by omega) (fun q' hq' hx => by have := hx.1; have := (hp q' (by simp [hq'])).2.1; omega)
        · exact hl q hq
    · obtain ⟨a, c, kb, rfl, hka, hkt⟩ : ∃ a c kb, vk = .slice a p.t.kids.length c ∧ (0 < p.t.kids.length → a = some ⟨kb, 0, none⟩ ∧ lo ≤ kb ∧ kb < m' ∧ NB W kb ∧ (p.t.kids.length : Int) ≤ 9223372036854775807) ∧ trL W p.t.kids kb 0 m' m := by
        rcases hks with ⟨a, c, rfl, hk, hh⟩ | ⟨kb, c, rfl, hl, k1, k2, k3, k4⟩
        · refine ⟨a, c, 0, by rw [hk]; rfl, fun h => ?_, ?_⟩
          · rw [hk] at h; simp at h
          · rw [hk]; exact trL_nil.2 hh
        · exact ⟨_, c, kb, rfl, fun _ => ⟨rfl, k1, k2, k3, hl⟩, k4⟩
      have hm2 := trL_le _ _ _ _ _ hkt
      have hsb := Ty.sbc_keep hc
      refine (sb_keep (kb := kb) (ko := 0) h0 h2 h6 (fun h => (hka h).1) (by omega) hA hc).mono ?_
      intro e W5 hq
      obtain ⟨a5, c5, rfl, ho⟩ := hq.ex
      have hz5 := hq.bl.size
      have kidLow : ∀ q ∈ kidP kb p.t.kids 0, ∃ i, ∃ hi : i < p.t.kids.length, q = ⟨kb, 0 + i * 7, p.t.kids[i]⟩ := fun q hq => kidP_mem _ _ hq
      have kidZ : ∀ q ∈ kidP kb p.t.kids 0, q.b = kb ∧ lo ≤ kb ∧ kb < m' ∧ NB W kb := fun q hq => by
        obtain ⟨i, hi, rfl⟩ := kidLow q hq
        have := hka (by omega)
        exact ⟨rfl, this.2.1, this.2.2.1, this.2.2.2.1⟩
      refine .inl ⟨a5, (kidA kb 0 p.t.kids.length).length, c5, kidA kb 0 p.t.kids.length, g - 1, fun b => X b ∨ (W.heap.size ≤ b ∧ b < W5.heap.size), rfl, ?_, by omega, ⟨?_, fun b hb => .inl (h.all b hb), ?_, by omega, h.hAB, h.hA, h.hs, h.hF, kidP kb p.t.kids 0 ++ qs, m', hi, by rw [List.map_append, kidP_a], by rw [List.map_append, kidP_t, cntL_append]; omega, ?_, by omega, hhi, ?_, ?_, ?_⟩, Kx.of_whole hq.bl, fun b hb hx => hx.resolve_right (by omega)⟩
      · exact rowV_own (w := W5) ho rfl (by rw [kidA_len]; omega) (fun k hk => by have := ho.lt k hk; exact .inr ⟨by omega, this.2⟩) (Nat.le_refl _) (fun _ _ _ _ h => h)
      · exact h.old.trans (Kx.of_whole hq.bl)
      · rintro b (hx | hx)
        · have := h.lt b hx; omega
        · exact hx.2
      · exact trP_to (X := fun _ => False) (Kx.of_whole hq.bl) _ _ _ (fun _ _ _ _ _ hv => kept_cell hq.bl hv) (fun _ _ _ h => h) (trP_join (kidP_tr _ _ _ _ hkt) htq)
      · intro q hq'
        rcases List.mem_append.1 hq' with hq' | hq'
        · obtain ⟨z1, z2, z3, z4⟩ := kidZ q hq'
          exact ⟨by omega, by omega, by rw [z1]; exact z4.kept hq.bl, fun hx => by omega⟩
        · obtain ⟨q1, q2, q3, q4⟩ := hp q (by simp [hq'])
          exact ⟨q1, q2, q3.kept hq.bl, fun hx => q4 ⟨by omega, hx.2⟩⟩
      · refine List.pairwise_append.2 ⟨kidP_far _ _ _, hd2, fun k hk q hq' => .inl ?_⟩
        obtain ⟨z1, z2, z3, z4⟩ := kidZ k hk
        have := (hp q (by simp [hq'])).2.2.2
        intro e
        exact this ⟨by omega, by omega⟩
      · intro W6 hag hs6 hl
        have offK : ∀ a : Addr, ¬ (lo ≤ a.block ∧ a.block < hi) → ∀ q ∈ kidP kb p.t.kids 0, ¬ q.hit7 a := fun a ha q hq' hx => by
          obtain ⟨z1, z2, z3, z4⟩ := kidZ q hq'
          have := hx.1
          exact ha ⟨by omega, by omega⟩
        have cellP : ∀ i u, i < 7 → W.cell? ⟨p.b, p.o + i, none⟩ = some u → W6.cell? ⟨p.b, p.o + i, none⟩ = some u := fun i u hi' hu =>
          hag _ u (.inl (h.all _ hp2)) (kept_cell hq.bl hu) (fun hx => hpz ⟨by have := hx.1; simp only at this; omega, hx.2⟩) (fun q hq' => by
            rcases List.mem_append.1 hq' with hq' | hq'
            · exact offK _ hpz q hq'
            · exact (hd1 q hq').not_hit7 hi')
        have ckN : CK (fun b => lo ≤ b ∧ b < m' ∧ (Value.slice a p.t.kids.length c).ownBlock ≠ some b) W W6 := fun x u hb hsp hu => by
          refine hag x u (.inl (h.all _ (by omega))) (kept_cell hq.bl hu) (fun hx => by omega) (fun q hq' hx => ?_)
          rcases List.mem_append.1 hq' with hq' | hq'
          · obtain ⟨i, hi', rfl⟩ := kidLow q hq'
            have hh := (hka (by omega)).1
            exact hb.2.2 (by rw [hh, hx.1]; rfl)
          · exact (hp q (by simp [hq'])).2.2.2 ⟨by have := hx.1; omega, by have := hx.1; omega⟩
        refine hw W6 (fun a v ha hv hn hm => hag a v (.inl ha) (kept_cell hq.bl hv) (fun hx => hn ⟨by omega, hx.2⟩) (fun q hq' => by
          rcases List.mem_append.1 hq' with hq' | hq'
          · exact offK a hn q hq'
          · exact hm q (by simp [hq']))) (by omega) (fun q hq' => ?_)
        rcases List.mem_cons.1 hq' with rfl | hq'
        · rw [hsb]
          refine lies_iff.2 ⟨cellP 0 _ (by omega) h0, cellP 1 _ (by omega) h1, cellP 2 _ (by omega) h2, cellP 3 _ (by omega) h3, vn, vm, .slice a q.t.kids.length c, cellP 4 _ (by omega) h4, cellP 5 _ (by omega) h5, cellP 6 _ (by omega) h6, hns.ck ckN (by omega) (fun b hb => by show N1 ≤ b; omega), hms.ck ckN (by omega) (fun b hb => by show N1 ≤ b; omega), ?_⟩
          show SlT (fun b => N1 ≤ b) W6 (.slice a q.t.kids.length c) (q.t.kids.map (Ty.sbc args))
          by_cases hk0 : q.t.kids = []
          · exact .inl ⟨a, c, by rw [hk0]; rfl, by rw [hk0]; rfl⟩
          · have hpos : 0 < q.t.kids.length := List.length_pos_iff.2 hk0
            obtain ⟨rfl, z1, z2, z3, z4⟩ := hka hpos
            refine .inr ⟨kb, 0, c, by rw [List.length_map], by rw [List.length_map]; exact z4, by omega, by show N1 ≤ kb; omega, liesT_of fun i hi' => ?_⟩
            rw [List.length_map] at hi'
            rw [List.getElem_map]
            exact hl ⟨kb, 0 + i * 7, q.t.kids[i]⟩ (List.mem_append.2 (.inl (kidP_in _ _ i hi')))
        · exact hl q (List.mem_append.2 (.inr hq'))
end
theorem enterS : ∀ args w, (callFunc 26 args).run Try.prog w = .ok (.enter 26 args) w := enters_of Try.func26 (by kernel_rfl) rfl
/-- the walk of Subst -/
theorem svW {w0 : World} {N1 AB T0 fb fc lo hi : Nat} {av : Value} {args : List Ty} {t : Ty} (hAB : AB < N1) (hA : w0.cell? ⟨AB, 0, none⟩ = some av) (hs : SlT (fun b => b < N1) w0 av args) (hF : ∀ x ∈ args, Fit x ∧ x.cnt ≤ 1000000) (ht : t.tr w0 T0 0 lo hi) (hT1 : N1 ≤ T0) (hTn : NB w0 T0) (hTz : ¬ (lo ≤ T0 ∧ T0 < hi)) (hlo : N1 ≤ lo) (hhi : hi ≤ w0.heap.size) (hc : t.cnt ≤ 1000000) (hf : w0.cell? ⟨fb, 0, none⟩ = some (pv ⟨T0, 0, none⟩)) :
    Calls Try.prog 25 #[.func (.func 26) #[] #[.pointer (some ⟨AB, 0, none⟩)], .slice (some ⟨fb, 0, none⟩) 1 fc] w0 fun e w' => e = .returned (.bool true) ∧ Kx (fun b => N1 ≤ b ∧ b < w0.heap.size) w0 w' ∧ (t.sbc args).lies (fun b => N1 ≤ b) w' T0 0 := by
  have h0 : SvI w0 N1 AB av args t T0 t.cnt (fun b => b < w0.heap.size) [⟨T0, 0, none⟩] w0 := by
    refine ⟨Kx.refl _ _, fun _ h => h, fun _ h => h, hc, hAB, hA, hs, hF, [⟨T0, 0, t⟩], lo, hi, rfl, by simp [cntL], ⟨hi, ht, Nat.le_refl _⟩, hlo, hhi, fun p hp => ?_, List.pairwise_singleton _ _, fun W' _ _ hl => hl ⟨T0, 0, t⟩ (by simp)⟩
    obtain rfl := List.mem_singleton.1 hp
    exact ⟨hT1, hTn.lt, hTn, hTz⟩
  refine (walkP (I := SvI w0 N1 AB av args t T0) (Bad := fun _ _ => False) 26 #[.pointer (some ⟨AB, 0, none⟩)] enterS (fun _ _ _ _ _ h hk => h.stable hk) (fun _ _ _ h _ => h) (fun _ _ _ _ h => h.lt) (fun _ _ _ _ h => h.len) (fun g X x r W h => by simpa using h.call) t.cnt ⟨T0, 0, none⟩ fb 0 fc w0 hf h0).mono ?_
  rintro e w' (⟨rfl, g, X, h⟩ | ⟨_, X, h⟩)
  · exact ⟨rfl, h.old, h.done⟩
  · exact h.elim
end Go.Proofs.Ytcmnhkopmkaiaaa

