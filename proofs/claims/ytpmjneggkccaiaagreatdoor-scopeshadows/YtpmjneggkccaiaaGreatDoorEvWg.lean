/- A region whose order is drawn: the evaluator's answer holds in whatever order. -/
import Derived.Test.YtpmjneggkccaiaaGreatDoorEvWf
set_option linter.unusedVariables false
set_option linter.unusedSimpArgs false
namespace Go.Proofs.YtpmjneggkccaiaaGreatDoor
namespace Ev
theorem HR.up {w0 : Fx} {μ : Mu} {H : T AO} {nx nx' : Bn} {w : World} (h : HR w0 μ H nx w) (hle : nx.toN ≤ nx'.toN) : HR w0 μ H nx' w :=
  ⟨h.ext, h.base, h.live, h.sep, fun b hb => h.new b (by omega), fun b hb => let ⟨h1, h2⟩ := h.res b hb; ⟨h1, by omega⟩⟩
theorem HR.weak {w0 wD : Fx} {μ : Mu} {H : T AO} {nx : Bn} {w : World} (h : HR wD μ H nx w) (hw : wD.w = w0.w) (hk : ∀ i o, w0.k i = some o → wD.k i = some o) (hr : ∀ b, w0.rs b = true → wD.rs b = true) : HR w0 μ H nx w := by
  refine ⟨⟨by rw [← hw]; exact h.ext.os, by rw [← hw]; exact h.ext.tape, by rw [← hw]; exact h.ext.out, fun i o hi => h.ext.kp i o (hk i o hi)⟩, fun b o l g m => ?_, h.live, h.sep, h.new, fun b hb => h.res b (hr b hb)⟩
  cases hz : w0.k l.blk with
  | none => rfl
  | some y =>
    have := h.base b o l g m
    rw [hk _ _ hz] at this; cases this
section
variable {T0 : Tab} {L : List Dr} {nt : Nat} {t0 : T AV} {w0 wD : Fx} {F : Fence} {rc : Option AV} {rd : Bool} {C rest : List Dr} {vs : Vs} {σ : AS} {pend : List Pd} {D : Nat → Bool} {a : Act} {w : World} {μ : Mu} {nm : Bn}
/-- All have come up. -/
theorem DI.last {ops : List Oper} {k : AEx → AS → R} {Q : Exit → Act → World → Prop} {μ0 : Mu} (h : DI T0 ops L nt t0 w0 wD F rc rd C [] vs σ pend D a w μ nm) (hall : ∀ x ∈ C, D x.i = true) (le : Mu.le μ0 μ)
    (hk : KOk w0 F μ0 rc rd k Q) {mask : Nat} (hr : k .normal (withM σ (matE mask pend σ.hp) σ.nx) = .ok) : Q .normal a w := by
  have hpD : ∀ q ∈ pend, D q.dr.i = true := fun q hq => by
    obtain ⟨_, vs1, vs2, e, _⟩ := h.pf q hq
    exact hall _ (by rw [← h.hv, e]; simp)
  obtain ⟨wD1, m1⟩ := h.mem.mat h.nd (mask := mask) (fun e tm mk b o hin _ => hpD _ hin)
  refine hk .normal _ μ .normal a w hr le ⟨m1.hr.weak m1.wE m1.kE m1.rE, fun t v ht => ?_, h.sz.trans h.ntE.symm, h.df, h.fen, h.rc, h.rd⟩ .normal
  have ht : σ.tm.get (pOf t) = some v := ht
  rw [h.tm] at ht
  refine h.rt t v ?_
  rw [← ht]
  exact tmW_congr rfl (fun p hp _ => hall p.1 (by rw [← h.hv]; exact List.mem_map.2 ⟨p, hp, rfl⟩))
/-- Behind one that may do anything. -/
theorem DI.after {ops : List Oper} (hO : Ord ops L) {e : Dr} {r : List Dr} (h : DI T0 ops L nt t0 w0 wD F rc rd C (e :: r) vs σ pend D a w μ nm) (hD : D e.i = false) (hb : ∀ j, e.bf.testBit j = true → D j = true)
    {wD1 : Fx} {H1 : T AO} (m1 : Mem w0 wD1 D (keepP e.bf pend) μ H1 σ.nx nm w) {D' : Nat → Bool} (hD' : ∀ j, D' j = (D j || decide (j = e.i))) {self deep : Self} {k : AEx → AS → R} {K : Act → World → Prop}
    {v : AV} {x : Value} {hp : T AO} {nx : Bn} {l : List AD} {Dd : List Deferred} {μ' : Mu} {w' : World} {σ1 : AS} (hσ : ∃ hp0 nx0, σ1 = putE ⟨σ.tm, σ.nt, l, σ.ro, σ.rc, σ.rd, hp0, nx0⟩ (dstO ops e.i) v hp nx)
    (hrun : behind T0 ops r (runD self deep T0 ops k r) (keepP e.bf pend) σ1 = .ok) (le : Mu.le μ μ') (hR : HR wD1 μ' hp nx w') (hv : RV μ' v x) (hdf : RDs μ' l Dd)
    (hK : ∀ C' rest' vs' σ' pend' nm' wD', DI T0 ops L nt t0 w0 wD' F rc rd C' rest' vs' σ' pend' D' (({ a with defers := Dd } : Act).put (dstO ops e.i) x) w' μ' nm' → runD self deep T0 ops k rest' σ' nm' pend' = .ok → (rest' = [] ∨ ∃ e r, rest' = e :: r ∧ isE e = true) →
      K (({ a with defers := Dd } : Act).put (dstO ops e.i) x) w') : K (({ a with defers := Dd } : Act).put (dstO ops e.i) x) w' := by
  obtain ⟨hp0, nx0, rfl⟩ := hσ
  obtain ⟨hck, hrun⟩ := cb'_ok hrun
  have up : ∀ j, D j = true → D' j = true := fun j hj => by rw [hD', hj]; rfl
  have dn : ∀ j, D' j = false → D j = false := fun j hj => by
    cases hq : D j with
    | false => rfl
    | true => rw [up j hq] at hj; cases hj
  have heC : ∀ y ∈ C, y.i ≠ e.i := (hO.pre C e r h.hL).1
  have inC : ∀ q ∈ pend, q.dr ∈ C := fun q hq => by
    obtain ⟨_, vs1, vs2, e1, _⟩ := h.pf q hq
    rw [← h.hv, e1]; simp
  have back : ∀ {q}, q ∈ keepP e.bf pend → D' q.dr.i = true → D q.dr.i = true := fun {q} hq hd => by
    rw [hD', Bool.or_eq_true] at hd
    rcases hd with hd | hd
    · exact hd
    · exact absurd (by simpa using hd) (heC _ (inC q (keepP_mem.1 hq).1))
  have hbl := bumpE_le r nx
  have hvs : (vs ++ [(e, v)]).map (·.1) = C ++ [e] := by rw [List.map_append, h.hv]; rfl
  have hL' : L = (C ++ [e]) ++ r := by rw [h.hL]; simp
  have hrt0 : RT μ (tmW ops nt t0 D (vs ++ [(e, v)])) ({ a with defers := Dd } : Act).tmps := by
    rw [tmW_snoc, if_neg (by rw [hD]; simp)]
    exact h.rt
  have hcl0 : ∀ y ∈ C ++ [e], D y.i = true → ∀ j, y.bf.testBit j = true → D j = true := fun y hy hd => by
    rcases List.mem_append.1 hy with hy | hy
    · exact h.cl y hy hd
    · simp at hy; subst hy; rw [hD] at hd; cases hd
  have ckq := allB_true hck
  -- what the evaluator has behind it
  have hDI : DI T0 ops L nt t0 w0 wD1 F rc rd (C ++ [e]) r (vs ++ [(e, v)]) (withM (putE ⟨σ.tm, σ.nt, l, σ.ro, σ.rc, σ.rd, hp0, nx0⟩ (dstO ops e.i) v hp nx) hp (bumpE r nx)) (keepP e.bf pend) D' (({ a with defers := Dd } : Act).put (dstO ops e.i) x) w' μ' nx := by
    refine ⟨hL', hvs, ?_, h.ntE, fun j hj => ?_, fun y hy he => ?_, fun y hy hd j hj => ?_, fun p hp hd => ?_, fun q hq => ?_, keepP_nd h.nd, put_rt hO hL' hvs (vs1 := vs) (vs2 := []) rfl hrt0 h.sz hD hb hcl0 hD' le hv, by rw [put_sz]; exact h.sz, by rw [put_df]; exact hdf, h.fen.mono le, h.rc, h.rd, ?_⟩
    · show (putE _ _ v hp nx).tm = _
      rw [putE_put, tmW_snoc, if_pos rfl, ← h.tm, ← h.ntE]
    · rw [hD', Bool.or_eq_true] at hj
      rcases hj with hj | hj
      · obtain ⟨y, y1, y2⟩ := h.dn j hj
        exact ⟨y, by simp [y1], y2⟩
      · exact ⟨e, by simp, (by simpa using hj : j = e.i).symm⟩
    · rcases List.mem_append.1 hy with hy | hy
      · exact up _ (h.ef y hy he)
      · simp at hy; subst hy; rw [hD']; simp
    · rcases List.mem_append.1 hy with hy | hy
      · rw [hD', Bool.or_eq_true] at hd
        rcases hd with hd | hd
        · exact up j (h.cl y hy hd j hj)
        · exact absurd (by simpa using hd) (heC y hy)
      · simp at hy; subst hy; exact up j (hb j hj)
    · rcases List.mem_append.1 hp with hp | hp
      · obtain ⟨q, q1, q2, q3⟩ := h.pd p hp (dn _ hd)
        refine ⟨q, keepP_mem.2 ⟨q1, ?_⟩, q2, q3⟩
        cases hz : hasB e.bf q.dr.i with
        | false => rfl
        | true =>
          rw [hasB_eq] at hz
          have := hb _ hz
          rw [q2, dn _ hd] at this; cases this
      · simp at hp; subst hp
        rw [hD'] at hd; simp at hd
    · obtain ⟨q1, q2⟩ := keepP_mem.1 hq
      obtain ⟨p1, vs1, vs2, p2, p3⟩ := h.pf q q1
      refine ⟨?_, vs1, vs2 ++ [(e, v)], by rw [p2]; simp, p3⟩
      cases q with
      | sk f tm => exact p1
      | al f tm mk b o => exact p1
      | rd f tm u =>
        obtain ⟨o, z1, z2, _⟩ := p1
        refine ⟨o, z1, z2, ?_⟩
        obtain ⟨u', y1, y2⟩ := oc_true (x := ob (tryO T0 ops f tm hp (bumpE r nx)) asPv) (ckq _ hq)
        obtain ⟨out, y3, y4⟩ := ob_some y1
        rw [asPv_some y4] at y3
        rw [sameV_true u u' y2]; exact y3
    · refine ⟨hR.up hbl, m1.wE, m1.kE, m1.rE, fun f tm mk b o hin hd => m1.no f tm mk b o hin (dn _ hd), fun f tm mk b o hin hd => ?_, fun f tm mk b o hin => ?_, m1.uq, fun f tm mk b o f' tm' mk' b' o' i1 i2 hne d1 d2 l1 l2 y1 y2 => ?_, hbl, fun b hb' => hR.new b hb', fun b hb' => (hR.res b (m1.rE b hb')).2⟩
      · obtain ⟨l', obj, z1, z2, z3, z4⟩ := m1.yes f tm mk b o hin (back hin hd)
        exact ⟨l', obj, le _ _ z1, z2, z3, fun W ν le' hW => z4 W ν (le.trans le') hW⟩
      · obtain ⟨f1, f2, f3⟩ := m1.fr f tm mk b o hin
        cases hd : D f.i with
        | true =>
          obtain ⟨l', obj, z1, z2, z3, z4⟩ := m1.yes f tm mk b o hin hd
          have z1' := le _ _ z1
          refine ⟨?_, ?_, f3⟩
          · rcases Nat.lt_or_ge b.toN nx.toN with q | q
            · exact q
            · rw [hR.new b q] at z1'; cases z1'
          · show hp.get b = none
            cases hg : hp.get b with
            | none => rfl
            | some y => have := hR.base b y l' hg z1'; rw [z2] at this; cases this
        | false =>
          have := hR.res b (m1.no f tm mk b o hin hd)
          refine ⟨this.2, ?_, f3⟩
          show hp.get b = none
          cases hg : hp.get b with
          | none => rfl
          | some y =>
            obtain ⟨l', z1, _⟩ := hR.live b y hg
            rw [this.1] at z1; cases z1
      · obtain ⟨l', obj, z1, z2, _⟩ := m1.yes _ _ _ _ _ i1 (back i1 d1)
        obtain ⟨l'', obj', z1', z2', _⟩ := m1.yes _ _ _ _ _ i2 (back i2 d2)
        rw [le _ _ z1] at y1; cases y1
        rw [le _ _ z1'] at y2; cases y2
        exact m1.bq _ _ _ _ _ _ _ _ _ _ i1 i2 hne (back i1 d1) (back i2 d2) _ _ z1 z1'
  obtain ⟨C', rest', vs', σ', pend', nm', wD', g1, g2, g3⟩ := DI.layer hO r _ _ _ _ _ _ hDI (Nat.le_refl _) hrun
  exact hK C' rest' vs' σ' pend' nm' wD' g1 g2 g3
/-- One that may do anything comes up. -/
theorem DI.eff (hT : TabOk T0) {self deep : Self} (hS : SelfOk T0 self) (hDp : DeepOk T0 deep) {ops' : Array Oper} {k : AEx → AS → R} {Q : Exit → Act → World → Prop} {μ0 : Mu} (hO : Ord ops'.toList L) {e : Dr} {r : List Dr}
    (h : DI T0 ops'.toList L nt t0 w0 wD F rc rd C (e :: r) vs σ pend D a w μ nm) (hE : isE e = true) (hD : D e.i = false) (hb : ∀ j, e.bf.testBit j = true → D j = true) {D' : Nat → Bool} (hD' : ∀ j, D' j = (D j || decide (j = e.i)))
    (hrun : runD self deep T0 ops'.toList k (e :: r) σ nm pend = .ok) (le0 : Mu.le μ0 μ) (hk : KOk w0 F μ0 rc rd k Q) {K : Act → World → Prop}
    (hK : ∀ a' w' μ' C' rest' vs' σ' pend' nm' wD', Mu.le μ μ' → DI T0 ops'.toList L nt t0 w0 wD' F rc rd C' rest' vs' σ' pend' D' a' w' μ' nm' → runD self deep T0 ops'.toList k rest' σ' nm' pend' = .ok → (rest' = [] ∨ ∃ e r, rest' = e :: r ∧ isE e = true) → K a' w') :
    wpOpIn F 0 T0.P ops' Q e.i K a w := by
  have hrun : oc (nthO ops'.toList e.i) (.no "drawn") (fun o => tb (isE e) (effD self deep T0 ops'.toList k e o r (runD self deep T0 ops'.toList k r) σ pend) (quietD T0 ops'.toList e o (runD self deep T0 ops'.toList k r) σ nm pend)) = .ok := hrun
  obtain ⟨o, h1, h2⟩ := oc_ok hrun
  rw [hE, tb_true] at h2
  rw [nthO_eq] at h1
  have hio : ops'[e.i]? = some o := by simpa using h1
  have hdst : dstO ops'.toList e.i = o.dst := by unfold dstO; rw [h1]; rfl
  obtain ⟨wD1, m1⟩ := h.mem.mat h.nd (mask := e.bf) (fun f tm mk b o hin hm => hb _ (by rw [← hasB_eq]; exact hm))
  have hA : RT μ (restr e.rs σ.tm) a.tmps := by
    have hvs : (vs ++ [(e, AV.tup [])]).map (·.1) = C ++ [e] := by rw [List.map_append, h.hv]; rfl
    have hL' : L = (C ++ [e]) ++ r := by rw [h.hL]; simp
    rw [h.tm]
    refine reads_rt hO hL' hvs (vs1 := vs) (vs2 := []) (v := .tup []) rfl ?_ hD hb (fun y hy hd => ?_)
    · rw [tmW_snoc, if_neg (by rw [hD]; simp)]; exact h.rt
    · rcases List.mem_append.1 hy with hy | hy
      · exact h.cl y hy hd
      · simp at hy; subst hy; rw [hD] at hd; cases hd
  obtain ⟨b, h3, h4⟩ := oc_ok h2
  have hw := wantedE_sound (ops := ops') hA h3
  unfold wpOpIn
  simp only [hio]
  rcases tb_or (b := b) h4 with ⟨rfl, h5⟩ | ⟨rfl, h5⟩
  · rw [if_pos hw]
    obtain ⟨f, h6, h7⟩ := oc_ok h5
    refine ⟨fun f _ => h.fen.fn f, ?_⟩
    cases h8 : f (sigR (restr e.rs σ.tm) (matE e.bf pend σ.hp) σ.nx) with
    | none => rw [h8] at h7; cases h7
    | some out =>
      rw [h8] at h7
      have ho := op_sound (σ := sigR (restr e.rs σ.tm) (matE e.bf pend σ.hp) σ.nx) hT m1.hr hA h6 h8
      refine step_core (σ := withM σ (matE e.bf pend σ.hp) σ.nx) hT hS hDp m1.hr h.df h.fen (fun v x hp nx μ' w' g le hR hv => ?_) (fun v x hp nx l Dd μ' w' g le hR hv hdf => ?_) h7 ho (defer_out h6 h8)
      · refine hk (.panic v) _ μ' _ a w' g (le0.trans le) ⟨hR.weak m1.wE m1.kE m1.rE, fun t u hu => ?_, h.sz.trans h.ntE.symm, h.df.mono le, h.fen.mono le, h.rc, h.rd⟩ (.panic hv)
        have hu : (T.leaf : T AV).get (pOf t) = some u := hu
        rw [T.get_leaf] at hu; cases hu
      · rw [← hdst] at g ⊢
        exact h.after hO hD hb m1 hD' ⟨_, _, rfl⟩ g le hR hv hdf (fun C' rest' vs' σ' pend' nm' wD' g1 g2 g3 => hK _ _ μ' C' rest' vs' σ' pend' nm' wD' le g1 g2 g3)
  · rw [if_neg (by rw [hw]; simp)]
    refine ⟨fun f _ => h.fen.fn f, ?_⟩
    rw [← hdst] at h5 ⊢
    exact h.after hO hD hb m1 hD' (Dd := a.defers) (l := σ.df) ⟨σ.hp, σ.nx, rfl⟩ h5 (.refl μ) m1.hr (undef_rv μ) h.df (fun C' rest' vs' σ' pend' nm' wD' g1 g2 g3 => hK _ _ μ C' rest' vs' σ' pend' nm' wD' (.refl μ) g1 g2 g3)
end
end Ev
end Go.Proofs.YtpmjneggkccaiaaGreatDoor
