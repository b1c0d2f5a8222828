/- A region whose order is drawn: blocks that are made are looked at; an operation comes up. -/
import Derived.Test.YtdofhlmffponoaaEvA8
set_option linter.unusedVariables false
set_option linter.unusedSimpArgs false
namespace Go.Proofs.Ytdofhlmffponoaa
namespace Ev
theorem nd_eq {α : Type} {f : α → Nat} : ∀ {l : List α} {x y : α}, (l.map f).Nodup → x ∈ l → y ∈ l → f x = f y → x = y
  | z :: l, x, y, h, hx, hy, e => by
    rw [List.map_cons, List.nodup_cons] at h
    cases hx with
    | head => cases hy with
      | head => rfl
      | tail _ hy => exact absurd (List.mem_map.2 ⟨y, hy, e.symm⟩) h.1
    | tail _ hx => cases hy with
      | head => exact absurd (List.mem_map.2 ⟨x, hx, e⟩) h.1
      | tail _ hy => exact nd_eq h.2 hx hy e
/-- A block need no longer stay as it is. -/
def Fx.wo (F : Fx) (g : Nat) : Fx := { F with k := fun i => if i = g then none else F.k i }
theorem HR.mat {F : Fx} {μ : Mu} {H : T AO} {nx : Bn} {w : World} (h : HR F μ H nx w) {b : Bn} {l : Loc} {obj : Obj} {o : AO} (hl : μ b = some l) (hk : F.k l.blk = some obj) (hb : H.get b = none) (r : RO μ l w o) : HR (F.wo l.blk) μ (H.put b (some o)) nx w := by
  have old : ∀ {c : Bn} {y : AO}, c ≠ b → (H.put b (some o)).get c = some y → H.get c = some y := fun hc g => by rwa [T.put_get, if_neg hc] at g
  refine ⟨⟨h.ext.os, h.ext.tape, h.ext.out, fun i x hx => ?_⟩, fun c y m g e => ?_, fun c y g => ?_, fun c c' y y' m m' g g' hne e e' => ?_, h.new, h.res⟩
  · have hx : (if i = l.blk then none else F.k i) = some x := hx
    split at hx
    · cases hx
    · exact h.ext.kp i x hx
  · show (if m.blk = l.blk then none else F.k m.blk) = none
    by_cases q : c = b
    · subst q; rw [hl] at e; cases e; rw [if_pos rfl]
    · split
      · rfl
      · exact h.base c y m (old q g) e
  · by_cases q : c = b
    · subst q
      rw [T.put_get, if_pos rfl] at g; cases g
      exact ⟨l, hl, r⟩
    · exact h.live c y (old q g)
  · by_cases q : c = b
    · subst q
      rw [hl] at e; cases e
      have := h.base c' y' m' (old (Ne.symm hne) g') e'
      intro z; rw [← z, hk] at this; cases this
    · by_cases q' : c' = b
      · subst q'
        rw [hl] at e'; cases e'
        have := h.base c y m (old q g) e
        intro z; rw [z, hk] at this; cases this
      · exact h.sep c c' y y' m m' (old q g) (old q' g') hne e e'
theorem keepP_mem {mask : Nat} : ∀ {pend : List Pd} {q : Pd}, q ∈ keepP mask pend ↔ q ∈ pend ∧ hasB mask q.dr.i = false
  | [], q => by
    show q ∈ ([] : List Pd) ↔ _
    simp
  | p :: pend, q => by
    show q ∈ tb (hasB mask p.dr.i) (keepP mask pend) (p :: keepP mask pend) ↔ _
    cases hb : hasB mask p.dr.i with
    | true =>
      rw [tb_true, keepP_mem (pend := pend)]
      constructor
      · rintro ⟨h1, h2⟩; exact ⟨List.mem_cons_of_mem _ h1, h2⟩
      · rintro ⟨h1, h2⟩
        cases h1 with
        | head => rw [hb] at h2; cases h2
        | tail _ m => exact ⟨m, h2⟩
    | false =>
      rw [tb_false, List.mem_cons, keepP_mem (pend := pend), List.mem_cons]
      constructor
      · rintro (rfl | ⟨h1, h2⟩)
        · exact ⟨.inl rfl, hb⟩
        · exact ⟨.inr h1, h2⟩
      · rintro ⟨rfl | h1, h2⟩
        · exact .inl rfl
        · exact .inr ⟨h1, h2⟩
theorem keepP_nd {mask : Nat} : ∀ {pend : List Pd}, (pend.map (fun q => q.dr.i)).Nodup → ((keepP mask pend).map (fun q => q.dr.i)).Nodup
  | [], h => h
  | p :: pend, h => by
    rw [List.map_cons, List.nodup_cons] at h
    show ((tb (hasB mask p.dr.i) (keepP mask pend) (p :: keepP mask pend)).map (fun q => q.dr.i)).Nodup
    cases hasB mask p.dr.i with
    | true => exact keepP_nd h.2
    | false =>
      rw [tb_false, List.map_cons, List.nodup_cons]
      refine ⟨fun hin => h.1 ?_, keepP_nd h.2⟩
      obtain ⟨q, h1, h2⟩ := List.mem_map.1 hin
      exact List.mem_map.2 ⟨q, (keepP_mem.1 h1).1, h2⟩
/-- The blocks that were made by what has come up are looked at. -/
theorem mat_sound {w0 wD : Fx} {D : Nat → Bool} {pend : List Pd} {μ : Mu} {H : T AO} {nx nm : Bn} {w : World} (m : Mem w0 wD D pend μ H nx nm w) (nd : (pend.map (fun q => q.dr.i)).Nodup) {mask : Nat}
    (hm : ∀ e tm mk b o, Pd.al e tm mk b o ∈ pend → hasB mask e.i = true → D e.i = true) : ∀ (p' : List Pd), (∀ q ∈ p', q ∈ pend) → (p'.map (fun q => q.dr.i)).Nodup →
    ∃ wD1 : Fx, HR wD1 μ (matE mask p' H) nx w ∧ wD1.w = wD.w ∧ wD1.rs = wD.rs ∧ (∀ i, wD1.k i = wD.k i ∨ (wD1.k i = none ∧ ∃ e tm mk b o l, Pd.al e tm mk b o ∈ p' ∧ hasB mask e.i = true ∧ μ b = some l ∧ l.blk = i)) ∧
      ∀ c, (∀ e tm mk o, Pd.al e tm mk c o ∈ p' → hasB mask e.i = false) → (matE mask p' H).get c = H.get c
  | [], _, _ => ⟨wD, m.hr, rfl, rfl, fun _ => .inl rfl, fun _ _ => rfl⟩
  | p :: p', hsub, hnd => by
    rw [List.map_cons, List.nodup_cons] at hnd
    obtain ⟨wD1, h1, h2, h3, h4, h5⟩ := mat_sound m nd hm p' (fun q hq => hsub q (List.mem_cons_of_mem _ hq)) hnd.2
    have weaken : (matE mask (p :: p') H = matE mask p' H) → (∀ e tm mk b o, p = .al e tm mk b o → hasB mask e.i = false) → ∃ wD1 : Fx, HR wD1 μ (matE mask (p :: p') H) nx w ∧ wD1.w = wD.w ∧ wD1.rs = wD.rs ∧ (∀ i, wD1.k i = wD.k i ∨ (wD1.k i = none ∧ ∃ e tm mk b o l, Pd.al e tm mk b o ∈ p :: p' ∧ hasB mask e.i = true ∧ μ b = some l ∧ l.blk = i)) ∧
      ∀ c, (∀ e tm mk o, Pd.al e tm mk c o ∈ p :: p' → hasB mask e.i = false) → (matE mask (p :: p') H).get c = H.get c := by
      intro e1 _
      rw [e1]
      exact ⟨wD1, h1, h2, h3, fun i => (h4 i).imp id fun ⟨z, e, tm, mk, b, o, l, y1, y2⟩ => ⟨z, e, tm, mk, b, o, l, List.mem_cons_of_mem _ y1, y2⟩, fun c hc => h5 c (fun e tm mk o hin => hc e tm mk o (List.mem_cons_of_mem _ hin))⟩
    cases p with
    | sk e tm => exact weaken rfl (fun _ _ _ _ _ h => by cases h)
    | rd e tm v => exact weaken rfl (fun _ _ _ _ _ h => by cases h)
    | al e tm mk b o =>
      have e1 : matE mask (.al e tm mk b o :: p') H = tb (hasB mask e.i) ((matE mask p' H).put b (some o)) (matE mask p' H) := rfl
      cases hb : hasB mask e.i with
      | false => rw [hb] at e1; exact weaken e1 (fun _ _ _ _ _ h => by cases h; exact hb)
      | true =>
        rw [hb, tb_true] at e1
        rw [e1]
        have hin := hsub _ (List.mem_cons_self ..)
        have hD := hm e tm mk b o hin hb
        obtain ⟨l, obj, l1, l2, l3, l4⟩ := m.yes e tm mk b o hin hD
        have other : ∀ e' tm' mk' o', Pd.al e' tm' mk' b o' ∈ p' → False := fun e' tm' mk' o' h => by
          have := (m.uq _ _ _ _ _ _ _ _ _ hin (hsub _ (List.mem_cons_of_mem _ h))).1
          exact hnd.1 (List.mem_map.2 ⟨_, h, this.symm⟩)
        have hk : wD1.k l.blk = some obj := by
          rcases h4 l.blk with q | ⟨_, e', tm', mk', b', o', l', y1, y2, y3, y4⟩
          · rw [q]; exact l2
          · by_cases hbb : b = b'
            · subst hbb; exact (other _ _ _ _ y1).elim
            · exact absurd y4.symm (m.bq _ _ _ _ _ _ _ _ _ _ hin (hsub _ (List.mem_cons_of_mem _ y1)) hbb hD (hm _ _ _ _ _ (hsub _ (List.mem_cons_of_mem _ y1)) y2) l l' l1 y3)
        have hg : (matE mask p' H).get b = none := by
          rw [h5 b (fun e' tm' mk' o' h => (other _ _ _ _ h).elim)]
          exact (m.fr e tm mk b o hin).2.1
        have hkp := m.hr.ext.kp l.blk obj l2
        refine ⟨wD1.wo l.blk, h1.mat l1 hk hg (l4 w μ (.refl μ) hkp), h2, h3, fun i => ?_, fun c hc => ?_⟩
        · by_cases q : i = l.blk
          · exact .inr ⟨by show (if i = l.blk then none else _) = _; rw [if_pos q], e, tm, mk, b, o, l, List.mem_cons_self .., hb, l1, q.symm⟩
          · rcases h4 i with z | ⟨z, e', tm', mk', b', o', l', y1, y2⟩
            · exact .inl (by show (if i = l.blk then none else _) = _; rw [if_neg q]; exact z)
            · exact .inr ⟨by show (if i = l.blk then none else _) = _; rw [if_neg q]; exact z, e', tm', mk', b', o', l', List.mem_cons_of_mem _ y1, y2⟩
        · have hcb : c ≠ b := fun q => by subst q; have := hc e tm mk o (List.mem_cons_self ..); rw [hb] at this; cases this
          rw [T.put_get, if_neg hcb]
          exact h5 c (fun e' tm' mk' o' h => hc e' tm' mk' o' (List.mem_cons_of_mem _ h))
theorem Mem.mat {w0 wD : Fx} {D : Nat → Bool} {pend : List Pd} {μ : Mu} {H : T AO} {nx nm : Bn} {w : World} (m : Mem w0 wD D pend μ H nx nm w) (nd : (pend.map (fun q => q.dr.i)).Nodup) {mask : Nat}
    (hm : ∀ e tm mk b o, Pd.al e tm mk b o ∈ pend → hasB mask e.i = true → D e.i = true) : ∃ wD1, Mem w0 wD1 D (keepP mask pend) μ (matE mask pend H) nx nm w := by
  obtain ⟨wD1, h1, h2, h3, h4, h5⟩ := mat_sound m nd hm pend (fun q hq => hq) nd
  have sub : ∀ {e tm mk b o}, Pd.al e tm mk b o ∈ keepP mask pend → Pd.al e tm mk b o ∈ pend ∧ hasB mask e.i = false := fun {e tm mk b o} hin => keepP_mem.1 hin
  refine ⟨wD1, h1, h2.trans m.wE, fun i o hi => ?_, fun b hb => by rw [h3]; exact m.rE b hb, fun e tm mk b o hin hd => by rw [h3]; exact m.no e tm mk b o (sub hin).1 hd, fun e tm mk b o hin hd => ?_, fun e tm mk b o hin => ?_,
    fun e tm mk b o e' tm' mk' o' i1 i2 => m.uq _ _ _ _ _ _ _ _ _ (sub i1).1 (sub i2).1, fun e tm mk b o e' tm' mk' b' o' i1 i2 => m.bq _ _ _ _ _ _ _ _ _ _ (sub i1).1 (sub i2).1, m.nmx, m.nmf, m.rlt⟩
  · rcases h4 i with q | ⟨_, e, tm, mk, b, o', l, y1, y2, y3, y4⟩
    · rw [q]; exact m.kE i o hi
    · obtain ⟨l', obj, z1, z2, z3, _⟩ := m.yes e tm mk b o' y1 (hm _ _ _ _ _ y1 y2)
      rw [y3] at z1; cases z1
      rw [y4, hi] at z3; cases z3
  · obtain ⟨s1, s2⟩ := sub hin
    obtain ⟨l, obj, z1, z2, z3, z4⟩ := m.yes e tm mk b o s1 hd
    refine ⟨l, obj, z1, ?_, z3, z4⟩
    rcases h4 l.blk with q | ⟨_, e', tm', mk', b', o', l', y1, y2, y3, y4⟩
    · rw [q]; exact z2
    · by_cases hbb : b = b'
      · subst hbb
        have := (m.uq _ _ _ _ _ _ _ _ _ s1 y1).1
        rw [this, y2] at s2; cases s2
      · exact absurd y4.symm (m.bq _ _ _ _ _ _ _ _ _ _ s1 y1 hbb hd (hm _ _ _ _ _ y1 y2) l l' z1 y3)
  · obtain ⟨s1, s2⟩ := sub hin
    obtain ⟨f1, f2, f3⟩ := m.fr e tm mk b o s1
    refine ⟨f1, ?_, f3⟩
    rw [h5 b (fun e' tm' mk' o' y1 => ?_)]
    · exact f2
    · have := (m.uq _ _ _ _ _ _ _ _ _ s1 y1).1
      rw [← this]; exact s2
end Ev
end Go.Proofs.Ytdofhlmffponoaa
/- A region whose order is drawn: whatever comes up. -/
set_option linter.unusedVariables false
set_option linter.unusedSimpArgs false
namespace Go.Proofs.Ytdofhlmffponoaa
namespace Ev
section
variable {T0 : Tab} {ops : List Oper} {L : List Dr} {nt : Nat} {t0 : T AV} {w0 wD : Fx} {F : Fence} {rc : Option AV} {rd : Bool} {C rest : List Dr} {vs : Vs} {σ : AS} {pend : List Pd} {D : Nat → Bool} {a : Act} {w : World} {μ : Mu} {nm : Bn}
theorem put_df (a : Act) (dst : Option Tmp) (v : Value) : (a.put dst v).defers = a.defers := by cases dst <;> rfl
theorem put_sz (a : Act) (dst : Option Tmp) (v : Value) : (a.put dst v).tmps.size = a.tmps.size := by cases dst <;> simp [Act.put]
/-- One that the evaluator has looked at comes up. -/
theorem DI.came (hO : Ord ops L) (h : DI T0 ops L nt t0 w0 wD F rc rd C rest vs σ pend D a w μ nm) {x : Dr} {v : AV} {vs1 vs2 : Vs} (e : vs = vs1 ++ (x, v) :: vs2) (hx : D x.i = false) (hb : ∀ j, x.bf.testBit j = true → D j = true)
    {D' : Nat → Bool} (hD' : ∀ j, D' j = (D j || decide (j = x.i))) {ν : Mu} {xv : Value} {w' : World} {wD' : Fx} (le : Mu.le μ ν) (hr : RV ν v xv) (hm : Mem w0 wD' D' pend ν σ.hp σ.nx nm w') :
    DI T0 ops L nt t0 w0 wD' F rc rd C rest vs σ pend D' (a.put (dstO ops x.i) xv) w' ν nm := by
  have up : ∀ j, D j = true → D' j = true := fun j hj => by rw [hD', hj]; rfl
  have dn : ∀ j, D' j = false → D j = false := fun j hj => by
    cases hq : D j with
    | false => rfl
    | true => rw [up j hq] at hj; cases hj
  have hxC : x ∈ C := by rw [← h.hv, e]; simp
  have hxL : x ∈ L := by rw [h.hL]; exact List.mem_append_left _ hxC
  refine ⟨h.hL, h.hv, h.tm, h.ntE, fun j hj => ?_, fun y hy he => up _ (h.ef y hy he), fun y hy hd j hj => ?_, fun p hp hd => h.pd p hp (dn _ hd), h.pf, h.nd, put_rt hO h.hL h.hv e h.rt h.sz hx hb h.cl hD' le hr, by rw [put_sz]; exact h.sz, by rw [put_df]; exact h.df.mono le, h.fen.mono le, h.rc, h.rd, hm⟩
  · rw [hD', Bool.or_eq_true] at hj
    rcases hj with hj | hj
    · exact h.dn j hj
    · exact ⟨x, hxC, by simpa using Eq.symm (by simpa using hj)⟩
  · rw [hD', Bool.or_eq_true] at hd
    rcases hd with hd | hd
    · exact up j (h.cl y hy hd j hj)
    · have : y = x := hO.uniq (by rw [h.hL]; exact List.mem_append_left _ hy) hxL (by simpa using hd)
      subst this
      exact up j (hb j hj)
theorem uponIn_val {n : Nat} {P : Program} {o : Oper} {K : Act → World → Prop} {Q : Exit → Act → World → Prop} {v : Value} {w' : World} {r : Result Next} (hr : r = .ok (.value v) w') (h : K (a.put o.dst v) w') : o.uponIn F n P a K Q r := by
  subst hr; exact h
theorem not_defer {o : Op} (h : kindO o ≠ 2) : ∀ c, o ≠ .defer c := fun c e => h (by rw [e]; rfl)
theorem DI.come (hT : TabOk T0) {ops' : Array Oper} {Q : Exit → Act → World → Prop} (hO : Ord ops'.toList L) (h : DI T0 ops'.toList L nt t0 w0 wD F rc rd C rest vs σ pend D a w μ nm) {x : Dr} (hxC : x ∈ C) (hx : D x.i = false) (hb : ∀ j, x.bf.testBit j = true → D j = true)
    {D' : Nat → Bool} (hD' : ∀ j, D' j = (D j || decide (j = x.i))) {K : Act → World → Prop}
    (hK : ∀ a' w' ν wD', Mu.le μ ν → DI T0 ops'.toList L nt t0 w0 wD' F rc rd C rest vs σ pend D' a' w' ν nm → K a' w') : wpOpIn F 0 T0.P ops' Q x.i K a w := by
  have hxL : x ∈ L := by rw [h.hL]; exact List.mem_append_left _ hxC
  obtain ⟨p, hp, hpx⟩ : ∃ p ∈ vs, p.1 = x := by
    rw [← h.hv] at hxC
    obtain ⟨p, h1, h2⟩ := List.mem_map.1 hxC
    exact ⟨p, h1, h2⟩
  obtain ⟨q, hq, hq1, hq2⟩ := h.pd p hp (by rw [hpx]; exact hx)
  rw [hpx] at hq1
  obtain ⟨hpf, vs1, vs2, he, htm⟩ := h.pf q hq
  rw [hq1] at he htm
  have hA : RT μ q.tm a.tmps := by rw [htm]; exact reads_rt hO h.hL h.hv he h.rt hx hb h.cl
  have up : ∀ j, D j = true → D' j = true := fun j hj => by rw [hD', hj]; rfl
  have dn : ∀ j, D' j = false → D j = false ∧ j ≠ x.i := fun j hj => by
    rw [hD', Bool.or_eq_false_iff] at hj
    exact ⟨hj.1, by simpa using hj.2⟩
  have m := h.mem
  -- memory as it was
  have same : (∀ e tm mk b o, q ≠ .al e tm mk b o) → Mem w0 wD D' pend μ σ.hp σ.nx nm w := by
    intro hne
    have back : ∀ {e tm mk b o}, Pd.al e tm mk b o ∈ pend → D' e.i = true → D e.i = true := by
      intro e tm mk b o hin hd
      rw [hD', Bool.or_eq_true] at hd
      rcases hd with hd | hd
      · exact hd
      · exfalso
        have : q = .al e tm mk b o := nd_eq h.nd hq hin (by rw [hq1]; exact (by simpa using hd : e.i = x.i).symm)
        exact hne _ _ _ _ _ this
    exact ⟨m.hr, m.wE, m.kE, m.rE, fun e tm mk b o hin hd => m.no e tm mk b o hin (dn _ hd).1, fun e tm mk b o hin hd => m.yes e tm mk b o hin (back hin hd), m.fr, m.uq,
      fun e tm mk b o e' tm' mk' b' o' i1 i2 hne d1 d2 => m.bq _ _ _ _ _ _ _ _ _ _ i1 i2 hne (back i1 d1) (back i2 d2), m.nmx, m.nmf, m.rlt⟩
  obtain ⟨o0, hl1, hl2, _⟩ := hO.lt x hxL
  have hk2 : kindO o0.op ≠ 2 := by
    rw [← hl2]
    intro hc
    have : isE x = true := by show Nat.beq x.cl 2 = true; rw [hc]; rfl
    rw [h.ef x hxC this] at hx; cases hx
  have hio : ops'[x.i]? = some o0 := by simpa using hl1
  have hdst : dstO ops'.toList x.i = o0.dst := by unfold dstO; rw [hl1]; rfl
  have try_some : ∀ {out}, tryO T0 ops'.toList x q.tm σ.hp σ.nx = some out → ∃ f, opE T0 o0.op = some f ∧ f (sigR q.tm σ.hp σ.nx) = some out := by
    intro out ht
    unfold tryO at ht
    rw [nthO_eq, hl1] at ht
    obtain ⟨f, g1, g2⟩ := ob_some (show (ob (opE T0 o0.op) fun f => f (sigR q.tm σ.hp σ.nx)) = some out from ht)
    exact ⟨f, g1, g2⟩
  have sound : ∀ {out}, tryO T0 ops'.toList x q.tm σ.hp σ.nx = some out → OutOk T0 wD μ w ((execOp a.eval o0).run T0.P w) out := by
    intro out ht
    obtain ⟨f, g1, g2⟩ := try_some ht
    exact op_sound (σ := sigR q.tm σ.hp σ.nx) hT m.hr hA g1 g2
  unfold wpOpIn
  simp only [hio]
  cases q with
  | sk e tm =>
    have hq1 : e = x := hq1
    subst hq1
    obtain ⟨o, p1, p2⟩ := hpf
    rw [hl1] at p1; cases p1
    have hw := wantedE_sound (ops := ops') hA p2
    rw [if_neg (by rw [hw]; simp)]
    refine ⟨fun f _ => h.fen.fn f, ?_⟩
    have := h.came hO he hx hb hD' (.refl μ) (undef_rv μ) (same (fun _ _ _ _ _ hh => by cases hh))
    rw [hdst] at this
    exact hK _ _ _ _ (.refl μ) this
  | rd e tm v =>
    have hq1 : e = x := hq1
    subst hq1
    obtain ⟨o, p1, p2, p3⟩ := hpf
    rw [hl1] at p1; cases p1
    have hw := wantedE_sound (ops := ops') hA p2
    rw [if_pos hw]
    obtain ⟨xv, s1, s2⟩ := sound p3
    refine ⟨fun f _ => h.fen.fn f, ?_⟩
    rw [semAt_of (P := T0.P) (.inr (not_defer hk2))]
    have := h.came hO he hx hb hD' (.refl μ) s2 (same (fun _ _ _ _ _ hh => by cases hh))
    rw [hdst] at this
    exact uponIn_val s1 (hK _ _ _ _ (.refl μ) this)
  | al e tm mk b ao =>
    have hq1 : e = x := hq1
    subst hq1
    obtain ⟨o, p1, p2, p3⟩ := hpf
    rw [hl1] at p1; cases p1
    have hw := wantedE_sound (ops := ops') hA p2
    rw [if_pos hw]
    obtain ⟨xv, obj, cap, s1, s2⟩ := sound (p3 _ _)
    refine ⟨fun f _ => h.fen.fn f, ?_⟩
    rw [semAt_of (P := T0.P) (.inr (not_defer hk2))]
    have hres := m.hr.res b (m.no e tm mk b ao hq hx)
    obtain ⟨r1, r2⟩ := s2 b hres.1
    obtain ⟨f1, f2, f3⟩ := m.fr e tm mk b ao hq
    have le := Mu.le_put (l := ⟨w.heap.size, 0, cap⟩) hres.1
    have hkn : wD.k w.heap.size = none := m.hr.ext.none (Nat.le_refl _)
    have klt : ∀ {i y}, wD.k i = some y → i ≠ w.heap.size := fun hy hi => by rw [hi, hkn] at hy; cases hy
    have only : ∀ {e' tm' mk' b' o'}, Pd.al e' tm' mk' b' o' ∈ pend → e'.i = e.i → Pd.al e' tm' mk' b' o' = .al e tm mk b ao := fun hin hi => (nd_eq h.nd hq hin hi.symm).symm
    have keep : ∀ i, i < w.heap.size → ({ w with heap := w.heap.push obj } : World).heap[i]? = w.heap[i]? := fun i hi => by simp [Array.getElem?_push, Nat.ne_of_lt hi]
    have old : ∀ {e' tm' mk' b' o'}, Pd.al e' tm' mk' b' o' ∈ pend → D' e'.i = true → Pd.al e' tm' mk' b' o' = .al e tm mk b ao ∨ D e'.i = true := fun {e' _ _ _ _} hin hd => by
      rw [hD', Bool.or_eq_true] at hd
      rcases hd with hd | hd
      · exact .inr hd
      · exact .inl (only hin (by simpa using hd))
    have hmem : Mem w0 { wD with k := fun i => if i = w.heap.size then some obj else wD.k i, rs := fun c => wD.rs c && !decide (c = b) } D' pend (μ.put b ⟨w.heap.size, 0, cap⟩) σ.hp σ.nx nm { w with heap := w.heap.push obj } := by
      refine ⟨⟨⟨m.hr.ext.os, m.hr.ext.tape, m.hr.ext.out, fun i y hy => ?_⟩, fun c y l g e1 => ?_, fun c y g => ?_, fun c c' y y' l l' g g' hne e1 e2 => ?_, fun c hc => ?_, fun c hc => ?_⟩, m.wE, fun i y hy => ?_, fun c hc => ?_, fun e' tm' mk' b' o' hin hd => ?_, fun e' tm' mk' b' o' hin hd => ?_, m.fr, m.uq, fun e1 tm1 mk1 b1 o1 e2 tm2 mk2 b2 o2 i1 i2 hne d1 d2 l1 l2 y1 y2 => ?_, m.nmx, fun c hc => ?_, m.rlt⟩
      · have hy : (if i = w.heap.size then some obj else wD.k i) = some y := hy
        split at hy
        · rename_i q; cases hy; subst q; simp
        · have := m.hr.ext.kp i y hy
          have hlt : i < w.heap.size := by
            rcases Nat.lt_or_ge i w.heap.size with z | z
            · exact z
            · rw [Array.getElem?_eq_none z] at this; cases this
          rw [keep i hlt]
          exact this
      · have hcb : c ≠ b := fun q => by subst q; rw [f2] at g; cases g
        simp only [Mu.put, if_neg hcb] at e1
        show (if l.blk = w.heap.size then some obj else wD.k l.blk) = none
        obtain ⟨l', z1, z2⟩ := m.hr.live c y g
        rw [e1] at z1; cases z1
        rw [if_neg (Nat.ne_of_lt z2.lt)]
        exact m.hr.base c y l g e1
      · obtain ⟨l', z1, z2⟩ := m.hr.live c y g
        exact ⟨l', le _ _ z1, z2.keep le (keep _ z2.lt)⟩
      · have hcb : c ≠ b := fun q => by subst q; rw [f2] at g; cases g
        have hcb' : c' ≠ b := fun q => by subst q; rw [f2] at g'; cases g'
        simp only [Mu.put, if_neg hcb] at e1
        simp only [Mu.put, if_neg hcb'] at e2
        exact m.hr.sep c c' y y' l l' g g' hne e1 e2
      · have hcb : c ≠ b := fun q => by subst q; have := m.nmx; omega
        simp only [Mu.put, if_neg hcb]
        exact m.hr.new c hc
      · have hc : (wD.rs c && !decide (c = b)) = true := hc
        rw [Bool.and_eq_true] at hc
        have hcb : c ≠ b := by simpa using hc.2
        simp only [Mu.put, if_neg hcb]
        exact m.hr.res c hc.1
      · show (if i = w.heap.size then some obj else wD.k i) = some y
        have := m.kE i y hy
        rw [if_neg (klt this)]; exact this
      · show (wD.rs c && !decide (c = b)) = true
        have hcb : c ≠ b := fun q => by subst q; rw [f3] at hc; cases hc
        rw [m.rE c hc]; simp [hcb]
      · obtain ⟨d1, d2⟩ := dn _ hd
        show (wD.rs b' && !decide (b' = b)) = true
        have hbb : b' ≠ b := fun q => by subst q; exact d2 (m.uq _ _ _ _ _ _ _ _ _ hin hq).1
        rw [m.no e' tm' mk' b' o' hin d1]; simp [hbb]
      · rcases old hin hd with q | q
        · cases q
          refine ⟨⟨w.heap.size, 0, cap⟩, obj, Mu.put_same _ _ _, by show (if _ = _ then _ else _) = _; rw [if_pos rfl], ?_, fun W ν le' hW => r2.keep le' (by rw [hW]; simp)⟩
          cases hz : w0.k w.heap.size with
          | none => rfl
          | some y => rw [m.kE _ _ hz] at hkn; cases hkn
        · obtain ⟨l, y, z1, z2, z3, z4⟩ := m.yes e' tm' mk' b' o' hin q
          exact ⟨l, y, le _ _ z1, by show (if _ = _ then _ else _) = _; rw [if_neg (klt z2)]; exact z2, z3, fun W ν le' hW => z4 W ν (le.trans le') hW⟩
      · rcases old i1 d1 with q1 | q1
        · cases q1
          rcases old i2 d2 with q2 | q2
          · cases q2; exact absurd rfl hne
          · obtain ⟨l, y, z1, z2, _⟩ := m.yes _ _ _ _ _ i2 q2
            rw [Mu.put_same] at y1; cases y1
            rw [le _ _ z1] at y2; cases y2
            exact fun z => klt z2 z.symm
        · obtain ⟨l, y, z1, z2, _⟩ := m.yes _ _ _ _ _ i1 q1
          rw [le _ _ z1] at y1; cases y1
          rcases old i2 d2 with q2 | q2
          · cases q2
            rw [Mu.put_same] at y2; cases y2
            exact klt z2
          · obtain ⟨l', y', z1', z2', _⟩ := m.yes _ _ _ _ _ i2 q2
            rw [le _ _ z1'] at y2; cases y2
            exact m.bq _ _ _ _ _ _ _ _ _ _ i1 i2 hne q1 q2 _ _ z1 z1'
      · have hcb : c ≠ b := fun q => by subst q; omega
        simp only [Mu.put, if_neg hcb]
        exact m.nmf c hc
    have := h.came hO he hx hb hD' le r1 hmem
    rw [hdst] at this
    exact uponIn_val s1 (hK _ _ _ _ le this)
end
end Ev
end Go.Proofs.Ytdofhlmffponoaa
/- A region whose order is drawn: the evaluator's answer holds in whatever order. -/
set_option linter.unusedVariables false
set_option linter.unusedSimpArgs false
namespace Go.Proofs.Ytdofhlmffponoaa
namespace Ev
theorem HR.up {w0 : Fx} {μ : Mu} {H : T AO} {nx nx' : Bn} {w : World} (h : HR w0 μ H nx w) (hle : nx.toN ≤ nx'.toN) : HR w0 μ H nx' w :=
  ⟨h.ext, h.base, h.live, h.sep, fun b hb => h.new b (by omega), fun b hb => let ⟨h1, h2⟩ := h.res b hb; ⟨h1, by omega⟩⟩
theorem HR.weak {w0 wD : Fx} {μ : Mu} {H : T AO} {nx : Bn} {w : World} (h : HR wD μ H nx w) (hw : wD.w = w0.w) (hk : ∀ i o, w0.k i = some o → wD.k i = some o) (hr : ∀ b, w0.rs b = true → wD.rs b = true) : HR w0 μ H nx w := by
  refine ⟨⟨by rw [← hw]; exact h.ext.os, by rw [← hw]; exact h.ext.tape, by rw [← hw]; exact h.ext.out, fun i o hi => h.ext.kp i o (hk i o hi)⟩, fun b o l g m => ?_, h.live, h.sep, h.new, fun b hb => h.res b (hr b hb)⟩
  cases hz : w0.k l.blk with
  | none => rfl
  | some y =>
    have := h.base b o l g m
    rw [hk _ _ hz] at this; cases this
section
variable {T0 : Tab} {L : List Dr} {nt : Nat} {t0 : T AV} {w0 wD : Fx} {F : Fence} {rc : Option AV} {rd : Bool} {C rest : List Dr} {vs : Vs} {σ : AS} {pend : List Pd} {D : Nat → Bool} {a : Act} {w : World} {μ : Mu} {nm : Bn}
/-- All have come up. -/
theorem DI.last {ops : List Oper} {k : AEx → AS → R} {Q : Exit → Act → World → Prop} {μ0 : Mu} (h : DI T0 ops L nt t0 w0 wD F rc rd C [] vs σ pend D a w μ nm) (hall : ∀ x ∈ C, D x.i = true) (le : Mu.le μ0 μ)
    (hk : KOk w0 F μ0 rc rd k Q) {mask : Nat} (hr : k .normal (withM σ (matE mask pend σ.hp) σ.nx) = .ok) : Q .normal a w := by
  have hpD : ∀ q ∈ pend, D q.dr.i = true := fun q hq => by
    obtain ⟨_, vs1, vs2, e, _⟩ := h.pf q hq
    exact hall _ (by rw [← h.hv, e]; simp)
  obtain ⟨wD1, m1⟩ := h.mem.mat h.nd (mask := mask) (fun e tm mk b o hin _ => hpD _ hin)
  refine hk .normal _ μ .normal a w hr le ⟨m1.hr.weak m1.wE m1.kE m1.rE, fun t v ht => ?_, h.sz.trans h.ntE.symm, h.df, h.fen, h.rc, h.rd⟩ .normal
  have ht : σ.tm.get (pOf t) = some v := ht
  rw [h.tm] at ht
  refine h.rt t v ?_
  rw [← ht]
  exact tmW_congr rfl (fun p hp _ => hall p.1 (by rw [← h.hv]; exact List.mem_map.2 ⟨p, hp, rfl⟩))
/-- Behind one that may do anything. -/
theorem DI.after {ops : List Oper} (hO : Ord ops L) {e : Dr} {r : List Dr} (h : DI T0 ops L nt t0 w0 wD F rc rd C (e :: r) vs σ pend D a w μ nm) (hD : D e.i = false) (hb : ∀ j, e.bf.testBit j = true → D j = true)
    {wD1 : Fx} {H1 : T AO} (m1 : Mem w0 wD1 D (keepP e.bf pend) μ H1 σ.nx nm w) {D' : Nat → Bool} (hD' : ∀ j, D' j = (D j || decide (j = e.i))) {self deep : Self} {k : AEx → AS → R} {K : Act → World → Prop}
    {v : AV} {x : Value} {hp : T AO} {nx : Bn} {l : List AD} {Dd : List Deferred} {μ' : Mu} {w' : World} {σ1 : AS} (hσ : ∃ hp0 nx0, σ1 = putE ⟨σ.tm, σ.nt, l, σ.ro, σ.rc, σ.rd, hp0, nx0⟩ (dstO ops e.i) v hp nx)
    (hrun : behind T0 ops r (runD self deep T0 ops k r) (keepP e.bf pend) σ1 = .ok) (le : Mu.le μ μ') (hR : HR wD1 μ' hp nx w') (hv : RV μ' v x) (hdf : RDs μ' l Dd)
    (hK : ∀ C' rest' vs' σ' pend' nm' wD', DI T0 ops L nt t0 w0 wD' F rc rd C' rest' vs' σ' pend' D' (({ a with defers := Dd } : Act).put (dstO ops e.i) x) w' μ' nm' → runD self deep T0 ops k rest' σ' nm' pend' = .ok → (rest' = [] ∨ ∃ e r, rest' = e :: r ∧ isE e = true) →
      K (({ a with defers := Dd } : Act).put (dstO ops e.i) x) w') : K (({ a with defers := Dd } : Act).put (dstO ops e.i) x) w' := by
  obtain ⟨hp0, nx0, rfl⟩ := hσ
  obtain ⟨hck, hrun⟩ := cb'_ok hrun
  have up : ∀ j, D j = true → D' j = true := fun j hj => by rw [hD', hj]; rfl
  have dn : ∀ j, D' j = false → D j = false := fun j hj => by
    cases hq : D j with
    | false => rfl
    | true => rw [up j hq] at hj; cases hj
  have heC : ∀ y ∈ C, y.i ≠ e.i := (hO.pre C e r h.hL).1
  have inC : ∀ q ∈ pend, q.dr ∈ C := fun q hq => by
    obtain ⟨_, vs1, vs2, e1, _⟩ := h.pf q hq
    rw [← h.hv, e1]; simp
  have back : ∀ {q}, q ∈ keepP e.bf pend → D' q.dr.i = true → D q.dr.i = true := fun {q} hq hd => by
    rw [hD', Bool.or_eq_true] at hd
    rcases hd with hd | hd
    · exact hd
    · exact absurd (by simpa using hd) (heC _ (inC q (keepP_mem.1 hq).1))
  have hbl := bumpE_le r nx
  have hvs : (vs ++ [(e, v)]).map (·.1) = C ++ [e] := by rw [List.map_append, h.hv]; rfl
  have hL' : L = (C ++ [e]) ++ r := by rw [h.hL]; simp
  have hrt0 : RT μ (tmW ops nt t0 D (vs ++ [(e, v)])) ({ a with defers := Dd } : Act).tmps := by
    rw [tmW_snoc, if_neg (by rw [hD]; simp)]
    exact h.rt
  have hcl0 : ∀ y ∈ C ++ [e], D y.i = true → ∀ j, y.bf.testBit j = true → D j = true := fun y hy hd => by
    rcases List.mem_append.1 hy with hy | hy
    · exact h.cl y hy hd
    · simp at hy; subst hy; rw [hD] at hd; cases hd
  have ckq := allB_true hck
  -- what the evaluator has behind it
  have hDI : DI T0 ops L nt t0 w0 wD1 F rc rd (C ++ [e]) r (vs ++ [(e, v)]) (withM (putE ⟨σ.tm, σ.nt, l, σ.ro, σ.rc, σ.rd, hp0, nx0⟩ (dstO ops e.i) v hp nx) hp (bumpE r nx)) (keepP e.bf pend) D' (({ a with defers := Dd } : Act).put (dstO ops e.i) x) w' μ' nx := by
    refine ⟨hL', hvs, ?_, h.ntE, fun j hj => ?_, fun y hy he => ?_, fun y hy hd j hj => ?_, fun p hp hd => ?_, fun q hq => ?_, keepP_nd h.nd, put_rt hO hL' hvs (vs1 := vs) (vs2 := []) rfl hrt0 h.sz hD hb hcl0 hD' le hv, by rw [put_sz]; exact h.sz, by rw [put_df]; exact hdf, h.fen.mono le, h.rc, h.rd, ?_⟩
    · show (putE _ _ v hp nx).tm = _
      rw [putE_put, tmW_snoc, if_pos rfl, ← h.tm, ← h.ntE]
    · rw [hD', Bool.or_eq_true] at hj
      rcases hj with hj | hj
      · obtain ⟨y, y1, y2⟩ := h.dn j hj
        exact ⟨y, by simp [y1], y2⟩
      · exact ⟨e, by simp, (by simpa using hj : j = e.i).symm⟩
    · rcases List.mem_append.1 hy with hy | hy
      · exact up _ (h.ef y hy he)
      · simp at hy; subst hy; rw [hD']; simp
    · rcases List.mem_append.1 hy with hy | hy
      · rw [hD', Bool.or_eq_true] at hd
        rcases hd with hd | hd
        · exact up j (h.cl y hy hd j hj)
        · exact absurd (by simpa using hd) (heC y hy)
      · simp at hy; subst hy; exact up j (hb j hj)
    · rcases List.mem_append.1 hp with hp | hp
      · obtain ⟨q, q1, q2, q3⟩ := h.pd p hp (dn _ hd)
        refine ⟨q, keepP_mem.2 ⟨q1, ?_⟩, q2, q3⟩
        cases hz : hasB e.bf q.dr.i with
        | false => rfl
        | true =>
          rw [hasB_eq] at hz
          have := hb _ hz
          rw [q2, dn _ hd] at this; cases this
      · simp at hp; subst hp
        rw [hD'] at hd; simp at hd
    · obtain ⟨q1, q2⟩ := keepP_mem.1 hq
      obtain ⟨p1, vs1, vs2, p2, p3⟩ := h.pf q q1
      refine ⟨?_, vs1, vs2 ++ [(e, v)], by rw [p2]; simp, p3⟩
      cases q with
      | sk f tm => exact p1
      | al f tm mk b o => exact p1
      | rd f tm u =>
        obtain ⟨o, z1, z2, _⟩ := p1
        refine ⟨o, z1, z2, ?_⟩
        obtain ⟨u', y1, y2⟩ := oc_true (x := ob (tryO T0 ops f tm hp (bumpE r nx)) asPv) (ckq _ hq)
        obtain ⟨out, y3, y4⟩ := ob_some y1
        rw [asPv_some y4] at y3
        rw [sameV_true u u' y2]; exact y3
    · refine ⟨hR.up hbl, m1.wE, m1.kE, m1.rE, fun f tm mk b o hin hd => m1.no f tm mk b o hin (dn _ hd), fun f tm mk b o hin hd => ?_, fun f tm mk b o hin => ?_, m1.uq, fun f tm mk b o f' tm' mk' b' o' i1 i2 hne d1 d2 l1 l2 y1 y2 => ?_, hbl, fun b hb' => hR.new b hb', fun b hb' => (hR.res b (m1.rE b hb')).2⟩
      · obtain ⟨l', obj, z1, z2, z3, z4⟩ := m1.yes f tm mk b o hin (back hin hd)
        exact ⟨l', obj, le _ _ z1, z2, z3, fun W ν le' hW => z4 W ν (le.trans le') hW⟩
      · obtain ⟨f1, f2, f3⟩ := m1.fr f tm mk b o hin
        cases hd : D f.i with
        | true =>
          obtain ⟨l', obj, z1, z2, z3, z4⟩ := m1.yes f tm mk b o hin hd
          have z1' := le _ _ z1
          refine ⟨?_, ?_, f3⟩
          · rcases Nat.lt_or_ge b.toN nx.toN with q | q
            · exact q
            · rw [hR.new b q] at z1'; cases z1'
          · show hp.get b = none
            cases hg : hp.get b with
            | none => rfl
            | some y => have := hR.base b y l' hg z1'; rw [z2] at this; cases this
        | false =>
          have := hR.res b (m1.no f tm mk b o hin hd)
          refine ⟨this.2, ?_, f3⟩
          show hp.get b = none
          cases hg : hp.get b with
          | none => rfl
          | some y =>
            obtain ⟨l', z1, _⟩ := hR.live b y hg
            rw [this.1] at z1; cases z1
      · obtain ⟨l', obj, z1, z2, _⟩ := m1.yes _ _ _ _ _ i1 (back i1 d1)
        obtain ⟨l'', obj', z1', z2', _⟩ := m1.yes _ _ _ _ _ i2 (back i2 d2)
        rw [le _ _ z1] at y1; cases y1
        rw [le _ _ z1'] at y2; cases y2
        exact m1.bq _ _ _ _ _ _ _ _ _ _ i1 i2 hne (back i1 d1) (back i2 d2) _ _ z1 z1'
  obtain ⟨C', rest', vs', σ', pend', nm', wD', g1, g2, g3⟩ := DI.layer hO r _ _ _ _ _ _ hDI (Nat.le_refl _) hrun
  exact hK C' rest' vs' σ' pend' nm' wD' g1 g2 g3
/-- One that may do anything comes up. -/
theorem DI.eff (hT : TabOk T0) {self deep : Self} (hS : SelfOk T0 self) (hDp : DeepOk T0 deep) {ops' : Array Oper} {k : AEx → AS → R} {Q : Exit → Act → World → Prop} {μ0 : Mu} (hO : Ord ops'.toList L) {e : Dr} {r : List Dr}
    (h : DI T0 ops'.toList L nt t0 w0 wD F rc rd C (e :: r) vs σ pend D a w μ nm) (hE : isE e = true) (hD : D e.i = false) (hb : ∀ j, e.bf.testBit j = true → D j = true) {D' : Nat → Bool} (hD' : ∀ j, D' j = (D j || decide (j = e.i)))
    (hrun : runD self deep T0 ops'.toList k (e :: r) σ nm pend = .ok) (le0 : Mu.le μ0 μ) (hk : KOk w0 F μ0 rc rd k Q) {K : Act → World → Prop}
    (hK : ∀ a' w' μ' C' rest' vs' σ' pend' nm' wD', Mu.le μ μ' → DI T0 ops'.toList L nt t0 w0 wD' F rc rd C' rest' vs' σ' pend' D' a' w' μ' nm' → runD self deep T0 ops'.toList k rest' σ' nm' pend' = .ok → (rest' = [] ∨ ∃ e r, rest' = e :: r ∧ isE e = true) → K a' w') :
    wpOpIn F 0 T0.P ops' Q e.i K a w := by
  have hrun : oc (nthO ops'.toList e.i) (.no "drawn") (fun o => tb (isE e) (effD self deep T0 ops'.toList k e o r (runD self deep T0 ops'.toList k r) σ pend) (quietD T0 ops'.toList e o (runD self deep T0 ops'.toList k r) σ nm pend)) = .ok := hrun
  obtain ⟨o, h1, h2⟩ := oc_ok hrun
  rw [hE, tb_true] at h2
  rw [nthO_eq] at h1
  have hio : ops'[e.i]? = some o := by simpa using h1
  have hdst : dstO ops'.toList e.i = o.dst := by unfold dstO; rw [h1]; rfl
  obtain ⟨wD1, m1⟩ := h.mem.mat h.nd (mask := e.bf) (fun f tm mk b o hin hm => hb _ (by rw [← hasB_eq]; exact hm))
  have hA : RT μ (restr e.rs σ.tm) a.tmps := by
    have hvs : (vs ++ [(e, AV.tup [])]).map (·.1) = C ++ [e] := by rw [List.map_append, h.hv]; rfl
    have hL' : L = (C ++ [e]) ++ r := by rw [h.hL]; simp
    rw [h.tm]
    refine reads_rt hO hL' hvs (vs1 := vs) (vs2 := []) (v := .tup []) rfl ?_ hD hb (fun y hy hd => ?_)
    · rw [tmW_snoc, if_neg (by rw [hD]; simp)]; exact h.rt
    · rcases List.mem_append.1 hy with hy | hy
      · exact h.cl y hy hd
      · simp at hy; subst hy; rw [hD] at hd; cases hd
  obtain ⟨b, h3, h4⟩ := oc_ok h2
  have hw := wantedE_sound (ops := ops') hA h3
  unfold wpOpIn
  simp only [hio]
  rcases tb_or (b := b) h4 with ⟨rfl, h5⟩ | ⟨rfl, h5⟩
  · rw [if_pos hw]
    obtain ⟨f, h6, h7⟩ := oc_ok h5
    refine ⟨fun f _ => h.fen.fn f, ?_⟩
    cases h8 : f (sigR (restr e.rs σ.tm) (matE e.bf pend σ.hp) σ.nx) with
    | none => rw [h8] at h7; cases h7
    | some out =>
      rw [h8] at h7
      have ho := op_sound (σ := sigR (restr e.rs σ.tm) (matE e.bf pend σ.hp) σ.nx) hT m1.hr hA h6 h8
      refine step_core (σ := withM σ (matE e.bf pend σ.hp) σ.nx) hT hS hDp m1.hr h.df h.fen (fun v x hp nx μ' w' g le hR hv => ?_) (fun v x hp nx l Dd μ' w' g le hR hv hdf => ?_) h7 ho (defer_out h6 h8)
      · refine hk (.panic v) _ μ' _ a w' g (le0.trans le) ⟨hR.weak m1.wE m1.kE m1.rE, fun t u hu => ?_, h.sz.trans h.ntE.symm, h.df.mono le, h.fen.mono le, h.rc, h.rd⟩ (.panic hv)
        have hu : (T.leaf : T AV).get (pOf t) = some u := hu
        rw [T.get_leaf] at hu; cases hu
      · rw [← hdst] at g ⊢
        exact h.after hO hD hb m1 hD' ⟨_, _, rfl⟩ g le hR hv hdf (fun C' rest' vs' σ' pend' nm' wD' g1 g2 g3 => hK _ _ μ' C' rest' vs' σ' pend' nm' wD' le g1 g2 g3)
  · rw [if_neg (by rw [hw]; simp)]
    refine ⟨fun f _ => h.fen.fn f, ?_⟩
    rw [← hdst] at h5 ⊢
    exact h.after hO hD hb m1 hD' (Dd := a.defers) (l := σ.df) ⟨σ.hp, σ.nx, rfl⟩ h5 (.refl μ) m1.hr (undef_rv μ) h.df (fun C' rest' vs' σ' pend' nm' wD' g1 g2 g3 => hK _ _ μ C' rest' vs' σ' pend' nm' wD' (.refl μ) g1 g2 g3)
end
end Ev
end Go.Proofs.Ytdofhlmffponoaa
/- A region whose order is drawn is sound. -/
set_option linter.unusedVariables false
set_option linter.unusedSimpArgs false
namespace Go.Proofs.Ytdofhlmffponoaa
namespace Ev
def cntF (l : Array Bool) : Nat := (l.toList.filter (fun b => !b)).length
theorem cnt_set : ∀ {l : List Bool} {i : Nat}, l[i]? = some false → ((l.set i true).filter (fun b => !b)).length + 1 = (l.filter (fun b => !b)).length
  | [], i, h => by simp at h
  | b :: l, 0, h => by simp at h; subst h; simp
  | b :: l, i + 1, h => by
    simp at h
    have ih := cnt_set h
    rw [List.set_cons_succ, List.filter_cons, List.filter_cons]
    cases b <;> simp <;> omega
theorem cnt_pos : ∀ {l : List Bool} {i : Nat}, l[i]? = some false → 0 < (l.filter (fun b => !b)).length := fun h => by have := cnt_set h; omega
section
variable {T0 : Tab} {L : List Dr} {nt : Nat} {t0 : T AV} {w0 : Fx} {F : Fence} {rc : Option AV} {rd : Bool}
theorem all_up {ops' : Array Oper} (hO : Ord ops'.toList L) {listed : Array Bool} (hs : listed.size = ops'.size) (hr : Region.ready .any ops' listed = []) : ∀ (n : Nat) (C : List Dr) (x : Dr) (r : List Dr), L = C ++ x :: r → C.length = n → listed.getD x.i false = true := by
  intro n
  induction n using Nat.strongRecOn with
  | _ n ih =>
    intro C x r e hn
    cases hd : listed.getD x.i false with
    | true => rfl
    | false =>
      exfalso
      have hxL : x ∈ L := by rw [e]; simp
      obtain ⟨o, h1, _, _⟩ := hO.lt x hxL
      have hlt : x.i < ops'.size := by
        rcases Nat.lt_or_ge x.i ops'.size with z | z
        · exact z
        · rw [List.getElem?_eq_none (by simpa using z)] at h1; cases h1
      have hin : x.i ∈ Region.ready .any ops' listed := mem_ready.2 ⟨by
        have hlt' : x.i < listed.size := by omega
        simp only [Array.getD_eq_getD_getElem?, Array.getElem?_eq_getElem hlt', Option.getD_some] at hd ⊢
        exact hd, o, by simpa using h1, fun ed hed hb => by
        rw [binds_eq] at hb
        obtain ⟨y, y1, y2⟩ := (hO.pre C x r e).2.2.1 o h1 ed (by simpa using hed) hb
        obtain ⟨A, B, e2⟩ := List.append_of_mem y1
        rw [← y2]
        exact ih A.length (by rw [← hn, e2]; simp) A y (B ++ x :: r) (by rw [e, e2]; simp) rfl⟩
      rw [hr] at hin; cases hin
theorem drawn_any (hT : TabOk T0) {self deep : Self} (hS : SelfOk T0 self) (hDp : DeepOk T0 deep) {ops' : Array Oper} {k : AEx → AS → R} {Q : Exit → Act → World → Prop} {μ0 : Mu} (hO : Ord ops'.toList L) (hk : KOk w0 F μ0 rc rd k Q) :
    ∀ (fuel : Nat) (listed : Array Bool) (a : Act) (w : World), listed.size = ops'.size → cntF listed ≤ fuel → ∀ (C rest : List Dr) (vs : Vs) (σ : AS) (pend : List Pd) (μ : Mu) (nm : Bn) (wD : Fx), Mu.le μ0 μ →
      DI T0 ops'.toList L nt t0 w0 wD F rc rd C rest vs σ pend (fun j => listed.getD j false) a w μ nm → runD self deep T0 ops'.toList k rest σ nm pend = .ok → (rest = [] ∨ ∃ e r, rest = e :: r ∧ isE e = true) →
      wpAnyIn F 0 T0.P .any ops' Q fuel listed a w := by
  have fin : ∀ (listed : Array Bool) (a : Act) (w : World), listed.size = ops'.size → ∀ (C rest : List Dr) (vs : Vs) (σ : AS) (pend : List Pd) (μ : Mu) (nm : Bn) (wD : Fx), Mu.le μ0 μ →
      DI T0 ops'.toList L nt t0 w0 wD F rc rd C rest vs σ pend (fun j => listed.getD j false) a w μ nm → runD self deep T0 ops'.toList k rest σ nm pend = .ok → Region.ready .any ops' listed = [] → Q .normal a w := by
    intro listed a w hs C rest vs σ pend μ nm wD le h hrun hr
    have all : ∀ x ∈ L, listed.getD x.i false = true := fun x hx => by
      obtain ⟨A, B, e⟩ := List.append_of_mem hx
      exact all_up hO hs hr A.length A x B e rfl
    cases rest with
    | nil => exact h.last (fun x hx => all x (by rw [h.hL]; simp [hx])) le hk hrun
    | cons e r =>
      exfalso
      obtain ⟨x, x1, x2⟩ := h.dn e.i (all e (by rw [h.hL]; simp))
      exact (hO.pre C e r h.hL).1 x x1 x2
  intro fuel
  induction fuel with
  | zero =>
    intro listed a w hs hc C rest vs σ pend μ nm wD le h hrun hst
    have hnil : Region.ready .any ops' listed = [] := by
      cases hr : Region.ready .any ops' listed with
      | nil => rfl
      | cons i is =>
        exfalso
        have hin : i ∈ Region.ready .any ops' listed := by rw [hr]; simp
        have h1 := (mem_ready.1 hin).1
        have : listed.toList[i]? = some false := by
          rcases Nat.lt_or_ge i listed.size with z | z
          · simp only [Array.getD_eq_getD_getElem?, Array.getElem?_eq_getElem z, Option.getD_some] at h1
            simp [z, h1]
          · simp [Array.getD_eq_getD_getElem?, Array.getElem?_eq_none z] at h1
        have := cnt_pos this
        unfold cntF at hc; omega
    exact ⟨hnil, fin listed a w hs C rest vs σ pend μ nm wD le h hrun hnil⟩
  | succ fuel ih =>
    intro listed a w hs hc C rest vs σ pend μ nm wD le h hrun hst
    refine ⟨fin listed a w hs C rest vs σ pend μ nm wD le h hrun, fun i hi => ?_⟩
    obtain ⟨hu, o, ho, hed⟩ := mem_ready.1 hi
    have hlt : i < listed.size := by
      rcases Nat.lt_or_ge i listed.size with z | z
      · exact z
      · simp [Array.getD_eq_getD_getElem?, Array.getElem?_eq_none z] at hu
    have hDi : listed.getD i false = false := by
      simp only [Array.getD_eq_getD_getElem?, Array.getElem?_eq_getElem hlt, Option.getD_some] at hu ⊢
      exact hu
    have hli : listed.toList[i]? = some false := by
      simp only [Array.getD_eq_getD_getElem?, Array.getElem?_eq_getElem hlt, Option.getD_some] at hu
      simp [hlt, hu]
    obtain ⟨x, hxL, hxi⟩ := hO.all i (by simpa using (by omega : i < ops'.size))
    have hD' : ∀ j, (listed.setIfInBounds i true).getD j false = (listed.getD j false || decide (j = x.i)) := fun j => by
      rw [hxi]
      by_cases q : j = i
      · subst q; simp [hlt]
      · simp [q, Array.getElem?_setIfInBounds_ne (Ne.symm q)]
    have hs' : (listed.setIfInBounds i true).size = ops'.size := by simpa using hs
    have hc' : cntF (listed.setIfInBounds i true) ≤ fuel := by
      have := cnt_set hli
      unfold cntF at hc ⊢
      simp only [Array.toList_setIfInBounds]
      omega
    have inC : ∀ y ∈ L, listed.getD y.i false = true → y ∈ C := fun y hy hd => by
      obtain ⟨z, z1, z2⟩ := h.dn y.i hd
      have := hO.uniq (by rw [h.hL]; simp [z1]) hy z2
      subst this; exact z1
    have hb : ∀ j, x.bf.testBit j = true → listed.getD j false = true := fun j hj => by
      obtain ⟨o', h1, _, h3⟩ := hO.lt x hxL
      rw [hxi] at h1
      have h1 : ops'[i]? = some o' := by simpa using h1
      rw [ho] at h1; cases h1
      obtain ⟨ed, e1, e2, e3⟩ := h3 j hj
      have hon := hed ed (by simpa using e1) (by rw [binds_eq]; exact e2)
      rcases e3 with e3 | ⟨y, y1, y2, y3⟩
      · rw [e3]; exact hon
      · exact h.cl y (inC y y1 (by rw [y2]; exact hon)) (by rw [y2]; exact hon) j y3
    have hxD : (fun j => listed.getD j false) x.i = false := by rw [hxi]; exact hDi
    have hmem : x ∈ C ∨ x ∈ rest := by have := hxL; rw [h.hL] at this; exact List.mem_append.1 this
    rw [← hxi]
    rcases hmem with hx | hx
    · exact h.come hT hO hx hxD hb hD' (fun a' w' ν wD' le' g => by
        rw [hxi] at *
        exact ih _ a' w' hs' hc' C rest vs σ pend ν nm wD' (le.trans le') g hrun hst)
    · rcases hst with hst | ⟨e, r, hst, hE⟩
      · rw [hst] at hx; cases hx
      · subst hst
        have hpre := hO.pre C e r h.hL
        have hxe : x = e := by
          cases hx with
          | head => rfl
          | tail _ hx =>
            exfalso
            obtain ⟨q1, q2⟩ := hpre.2.2.2 hE x hx
            cases hz : isE x with
            | true =>
              obtain ⟨z, z1, z2⟩ := h.dn _ (hb _ (q1 hz))
              exact hpre.1 z z1 z2
            | false =>
              obtain ⟨j, j1, j2⟩ := q2 hz
              obtain ⟨z, z1, z2⟩ := h.dn _ (hb j j1)
              exact j2 z z1 z2
        subst hxe
        exact h.eff hT hS hDp hO hE hxD hb hD' hrun le hk (fun a' w' μ' C' rest' vs' σ' pend' nm' wD' le' g1 g2 g3 => by
          rw [hxi] at *
          exact ih _ a' w' hs' hc' C' rest' vs' σ' pend' μ' nm' wD' (le.trans le') g1 g2 g3)
end
theorem regD_sound {T0 : Tab} (hT : TabOk T0) {self deep : Self} (hS : SelfOk T0 self) (hD : DeepOk T0 deep) {w0 : Fx} {μ : Mu} {F : Fence} {rc : Option AV} {rd : Bool} {σ : AS} {a : Act} {w : World} {Q : Exit → Act → World → Prop} {k : AEx → AS → R}
    {id : Nat} {ops : Array Oper} (h : regD self deep T0 ops.toList k σ = .ok) (hr : SR w0 μ F rc rd σ a w) (hk : KOk w0 F μ rc rd k Q) : (Code.region id ops true).wpIn F 0 T0.P Q a w := by
  obtain ⟨h1, h2⟩ := cb'_ok h
  have hO := vOk_ord h1
  refine wpIn_region_any hT.mixed ?_
  have hle := bumpE_le (canonO ops.toList) σ.nx
  have hR1 : HR w0 μ σ.hp (bumpE (canonO ops.toList) σ.nx) { w with drawn := w.drawn + 1 } := (hr.hr.same (w' := { w with drawn := w.drawn + 1 }) rfl rfl rfl rfl).up hle
  have hDI : DI T0 ops.toList (canonO ops.toList) σ.nt σ.tm w0 w0 F rc rd [] (canonO ops.toList) [] (withM σ σ.hp (bumpE (canonO ops.toList) σ.nx)) [] (fun j => (Array.replicate ops.size false).getD j false) a { w with drawn := w.drawn + 1 } μ σ.nx := by
    refine ⟨rfl, rfl, rfl, rfl, fun j hj => ?_, fun x hx => (by cases hx), fun x hx => (by cases hx), fun p hp => (by cases hp), fun q hq => (by cases hq), List.Pairwise.nil, hr.rt, hr.sz, hr.df, hr.fen, hr.rc, hr.rd, ?_⟩
    · exfalso
      have hj : (Array.replicate ops.size false).getD j false = true := hj
      rw [Array.getD_eq_getD_getElem?, Array.getElem?_replicate] at hj
      split at hj <;> cases hj
    · exact ⟨hR1, rfl, fun _ _ h => h, fun _ h => h, fun _ _ _ _ _ h => (by cases h), fun _ _ _ _ _ h => (by cases h), fun _ _ _ _ _ h => (by cases h), fun _ _ _ _ _ _ _ _ _ h => (by cases h), fun _ _ _ _ _ _ _ _ _ _ h => (by cases h), hle, hr.hr.new, fun b hb => (hr.hr.res b hb).2⟩
  obtain ⟨C', rest', vs', σ', pend', nm', wD', g1, g2, g3⟩ := DI.layer hO _ _ _ _ _ _ _ hDI (Nat.le_refl _) h2
  exact drawn_any hT hS hD hO hk ops.size (Array.replicate ops.size false) a _ (by simp) (by unfold cntF; refine Nat.le_trans (List.length_filter_le _ _) (by simp)) C' rest' vs' σ' pend' μ nm' wD' (.refl μ) g1 g2 g3
end Ev
end Go.Proofs.Ytdofhlmffponoaa
