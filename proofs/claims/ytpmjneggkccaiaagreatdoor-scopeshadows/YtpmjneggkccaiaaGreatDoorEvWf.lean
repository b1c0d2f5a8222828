/- A region whose order is drawn: whatever comes up. -/
import Derived.Test.YtpmjneggkccaiaaGreatDoorEvWe
set_option linter.unusedVariables false
set_option linter.unusedSimpArgs false
namespace Go.Proofs.YtpmjneggkccaiaaGreatDoor
namespace Ev
section
variable {T0 : Tab} {ops : List Oper} {L : List Dr} {nt : Nat} {t0 : T AV} {w0 wD : Fx} {F : Fence} {rc : Option AV} {rd : Bool} {C rest : List Dr} {vs : Vs} {σ : AS} {pend : List Pd} {D : Nat → Bool} {a : Act} {w : World} {μ : Mu} {nm : Bn}
theorem put_df (a : Act) (dst : Option Tmp) (v : Value) : (a.put dst v).defers = a.defers := by cases dst <;> rfl
theorem put_sz (a : Act) (dst : Option Tmp) (v : Value) : (a.put dst v).tmps.size = a.tmps.size := by cases dst <;> simp [Act.put]
/-- One that the evaluator has looked at comes up. -/
theorem DI.came (hO : Ord ops L) (h : DI T0 ops L nt t0 w0 wD F rc rd C rest vs σ pend D a w μ nm) {x : Dr} {v : AV} {vs1 vs2 : Vs} (e : vs = vs1 ++ (x, v) :: vs2) (hx : D x.i = false) (hb : ∀ j, x.bf.testBit j = true → D j = true)
    {D' : Nat → Bool} (hD' : ∀ j, D' j = (D j || decide (j = x.i))) {ν : Mu} {xv : Value} {w' : World} {wD' : Fx} (le : Mu.le μ ν) (hr : RV ν v xv) (hm : Mem w0 wD' D' pend ν σ.hp σ.nx nm w') :
    DI T0 ops L nt t0 w0 wD' F rc rd C rest vs σ pend D' (a.put (dstO ops x.i) xv) w' ν nm := by
  have up : ∀ j, D j = true → D' j = true := fun j hj => by rw [hD', hj]; rfl
  have dn : ∀ j, D' j = false → D j = false := fun j hj => by
    cases hq : D j with
    | false => rfl
    | true => rw [up j hq] at hj; cases hj
  have hxC : x ∈ C := by rw [← h.hv, e]; simp
  have hxL : x ∈ L := by rw [h.hL]; exact List.mem_append_left _ hxC
  refine ⟨h.hL, h.hv, h.tm, h.ntE, fun j hj => ?_, fun y hy he => up _ (h.ef y hy he), fun y hy hd j hj => ?_, fun p hp hd => h.pd p hp (dn _ hd), h.pf, h.nd, put_rt hO h.hL h.hv e h.rt h.sz hx hb h.cl hD' le hr, by rw [put_sz]; exact h.sz, by rw [put_df]; exact h.df.mono le, h.fen.mono le, h.rc, h.rd, hm⟩
  · rw [hD', Bool.or_eq_true] at hj
    rcases hj with hj | hj
    · exact h.dn j hj
    · exact ⟨x, hxC, by simpa using Eq.symm (by simpa using hj)⟩
  · rw [hD', Bool.or_eq_true] at hd
    rcases hd with hd | hd
    · exact up j (h.cl y hy hd j hj)
    · have : y = x := hO.uniq (by rw [h.hL]; exact List.mem_append_left _ hy) hxL (by simpa using hd)
      subst this
      exact up j (hb j hj)
theorem uponIn_val {n : Nat} {P : Program} {o : Oper} {K : Act → World → Prop} {Q : Exit → Act → World → Prop} {v : Value} {w' : World} {r : Result Next} (hr : r = .ok (.value v) w') (h : K (a.put o.dst v) w') : o.uponIn F n P a K Q r := by
  subst hr; exact h
theorem not_defer {o : Op} (h : kindO o ≠ 2) : ∀ c, o ≠ .defer c := fun c e => h (by rw [e]; rfl)
theorem DI.come (hT : TabOk T0) {ops' : Array Oper} {Q : Exit → Act → World → Prop} (hO : Ord ops'.toList L) (h : DI T0 ops'.toList L nt t0 w0 wD F rc rd C rest vs σ pend D a w μ nm) {x : Dr} (hxC : x ∈ C) (hx : D x.i = false) (hb : ∀ j, x.bf.testBit j = true → D j = true)
    {D' : Nat → Bool} (hD' : ∀ j, D' j = (D j || decide (j = x.i))) {K : Act → World → Prop}
    (hK : ∀ a' w' ν wD', Mu.le μ ν → DI T0 ops'.toList L nt t0 w0 wD' F rc rd C rest vs σ pend D' a' w' ν nm → K a' w') : wpOpIn F 0 T0.P ops' Q x.i K a w := by
  have hxL : x ∈ L := by rw [h.hL]; exact List.mem_append_left _ hxC
  obtain ⟨p, hp, hpx⟩ : ∃ p ∈ vs, p.1 = x := by
    rw [← h.hv] at hxC
    obtain ⟨p, h1, h2⟩ := List.mem_map.1 hxC
    exact ⟨p, h1, h2⟩
  obtain ⟨q, hq, hq1, hq2⟩ := h.pd p hp (by rw [hpx]; exact hx)
  rw [hpx] at hq1
  obtain ⟨hpf, vs1, vs2, he, htm⟩ := h.pf q hq
  rw [hq1] at he htm
  have hA : RT μ q.tm a.tmps := by rw [htm]; exact reads_rt hO h.hL h.hv he h.rt hx hb h.cl
  have up : ∀ j, D j = true → D' j = true := fun j hj => by rw [hD', hj]; rfl
  have dn : ∀ j, D' j = false → D j = false ∧ j ≠ x.i := fun j hj => by
    rw [hD', Bool.or_eq_false_iff] at hj
    exact ⟨hj.1, by simpa using hj.2⟩
  have m := h.mem
  -- memory as it was
  have same : (∀ e tm mk b o, q ≠ .al e tm mk b o) → Mem w0 wD D' pend μ σ.hp σ.nx nm w := by
    intro hne
    have back : ∀ {e tm mk b o}, Pd.al e tm mk b o ∈ pend → D' e.i = true → D e.i = true := by
      intro e tm mk b o hin hd
      rw [hD', Bool.or_eq_true] at hd
      rcases hd with hd | hd
      · exact hd
      · exfalso
        have : q = .al e tm mk b o := nd_eq h.nd hq hin (by rw [hq1]; exact (by simpa using hd : e.i = x.i).symm)
        exact hne _ _ _ _ _ this
    exact ⟨m.hr, m.wE, m.kE, m.rE, fun e tm mk b o hin hd => m.no e tm mk b o hin (dn _ hd).1, fun e tm mk b o hin hd => m.yes e tm mk b o hin (back hin hd), m.fr, m.uq,
      fun e tm mk b o e' tm' mk' b' o' i1 i2 hne d1 d2 => m.bq _ _ _ _ _ _ _ _ _ _ i1 i2 hne (back i1 d1) (back i2 d2), m.nmx, m.nmf, m.rlt⟩
  obtain ⟨o0, hl1, hl2, _⟩ := hO.lt x hxL
  have hk2 : kindO o0.op ≠ 2 := by
    rw [← hl2]
    intro hc
    have : isE x = true := by show Nat.beq x.cl 2 = true; rw [hc]; rfl
    rw [h.ef x hxC this] at hx; cases hx
  have hio : ops'[x.i]? = some o0 := by simpa using hl1
  have hdst : dstO ops'.toList x.i = o0.dst := by unfold dstO; rw [hl1]; rfl
  have try_some : ∀ {out}, tryO T0 ops'.toList x q.tm σ.hp σ.nx = some out → ∃ f, opE T0 o0.op = some f ∧ f (sigR q.tm σ.hp σ.nx) = some out := by
    intro out ht
    unfold tryO at ht
    rw [nthO_eq, hl1] at ht
    obtain ⟨f, g1, g2⟩ := ob_some (show (ob (opE T0 o0.op) fun f => f (sigR q.tm σ.hp σ.nx)) = some out from ht)
    exact ⟨f, g1, g2⟩
  have sound : ∀ {out}, tryO T0 ops'.toList x q.tm σ.hp σ.nx = some out → OutOk T0 wD μ w ((execOp a.eval o0).run T0.P w) out := by
    intro out ht
    obtain ⟨f, g1, g2⟩ := try_some ht
    exact op_sound (σ := sigR q.tm σ.hp σ.nx) hT m.hr hA g1 g2
  unfold wpOpIn
  simp only [hio]
  cases q with
  | sk e tm =>
    have hq1 : e = x := hq1
    subst hq1
    obtain ⟨o, p1, p2⟩ := hpf
    rw [hl1] at p1; cases p1
    have hw := wantedE_sound (ops := ops') hA p2
    rw [if_neg (by rw [hw]; simp)]
    refine ⟨fun f _ => h.fen.fn f, ?_⟩
    have := h.came hO he hx hb hD' (.refl μ) (undef_rv μ) (same (fun _ _ _ _ _ hh => by cases hh))
    rw [hdst] at this
    exact hK _ _ _ _ (.refl μ) this
  | rd e tm v =>
    have hq1 : e = x := hq1
    subst hq1
    obtain ⟨o, p1, p2, p3⟩ := hpf
    rw [hl1] at p1; cases p1
    have hw := wantedE_sound (ops := ops') hA p2
    rw [if_pos hw]
    obtain ⟨xv, s1, s2⟩ := sound p3
    refine ⟨fun f _ => h.fen.fn f, ?_⟩
    rw [semAt_of (P := T0.P) (.inr (not_defer hk2))]
    have := h.came hO he hx hb hD' (.refl μ) s2 (same (fun _ _ _ _ _ hh => by cases hh))
    rw [hdst] at this
    exact uponIn_val s1 (hK _ _ _ _ (.refl μ) this)
  | al e tm mk b ao =>
    have hq1 : e = x := hq1
    subst hq1
    obtain ⟨o, p1, p2, p3⟩ := hpf
    rw [hl1] at p1; cases p1
    have hw := wantedE_sound (ops := ops') hA p2
    rw [if_pos hw]
    obtain ⟨xv, obj, cap, s1, s2⟩ := sound (p3 _ _)
    refine ⟨fun f _ => h.fen.fn f, ?_⟩
    rw [semAt_of (P := T0.P) (.inr (not_defer hk2))]
    have hres := m.hr.res b (m.no e tm mk b ao hq hx)
    obtain ⟨r1, r2⟩ := s2 b hres.1
    obtain ⟨f1, f2, f3⟩ := m.fr e tm mk b ao hq
    have le := Mu.le_put (l := ⟨w.heap.size, 0, cap⟩) hres.1
    have hkn : wD.k w.heap.size = none := m.hr.ext.none (Nat.le_refl _)
    have klt : ∀ {i y}, wD.k i = some y → i ≠ w.heap.size := fun hy hi => by rw [hi, hkn] at hy; cases hy
    have only : ∀ {e' tm' mk' b' o'}, Pd.al e' tm' mk' b' o' ∈ pend → e'.i = e.i → Pd.al e' tm' mk' b' o' = .al e tm mk b ao := fun hin hi => (nd_eq h.nd hq hin hi.symm).symm
    have keep : ∀ i, i < w.heap.size → ({ w with heap := w.heap.push obj } : World).heap[i]? = w.heap[i]? := fun i hi => by simp [Array.getElem?_push, Nat.ne_of_lt hi]
    have old : ∀ {e' tm' mk' b' o'}, Pd.al e' tm' mk' b' o' ∈ pend → D' e'.i = true → Pd.al e' tm' mk' b' o' = .al e tm mk b ao ∨ D e'.i = true := fun {e' _ _ _ _} hin hd => by
      rw [hD', Bool.or_eq_true] at hd
      rcases hd with hd | hd
      · exact .inr hd
      · exact .inl (only hin (by simpa using hd))
    have hmem : Mem w0 { wD with k := fun i => if i = w.heap.size then some obj else wD.k i, rs := fun c => wD.rs c && !decide (c = b) } D' pend (μ.put b ⟨w.heap.size, 0, cap⟩) σ.hp σ.nx nm { w with heap := w.heap.push obj } := by
      refine ⟨⟨⟨m.hr.ext.os, m.hr.ext.tape, m.hr.ext.out, fun i y hy => ?_⟩, fun c y l g e1 => ?_, fun c y g => ?_, fun c c' y y' l l' g g' hne e1 e2 => ?_, fun c hc => ?_, fun c hc => ?_⟩, m.wE, fun i y hy => ?_, fun c hc => ?_, fun e' tm' mk' b' o' hin hd => ?_, fun e' tm' mk' b' o' hin hd => ?_, m.fr, m.uq, fun e1 tm1 mk1 b1 o1 e2 tm2 mk2 b2 o2 i1 i2 hne d1 d2 l1 l2 y1 y2 => ?_, m.nmx, fun c hc => ?_, m.rlt⟩
      · have hy : (if i = w.heap.size then some obj else wD.k i) = some y := hy
        split at hy
        · rename_i q; cases hy; subst q; simp
        · have := m.hr.ext.kp i y hy
          have hlt : i < w.heap.size := by
            rcases Nat.lt_or_ge i w.heap.size with z | z
            · exact z
            · rw [Array.getElem?_eq_none z] at this; cases this
          rw [keep i hlt]
          exact this
      · have hcb : c ≠ b := fun q => by subst q; rw [f2] at g; cases g
        simp only [Mu.put, if_neg hcb] at e1
        show (if l.blk = w.heap.size then some obj else wD.k l.blk) = none
        obtain ⟨l', z1, z2⟩ := m.hr.live c y g
        rw [e1] at z1; cases z1
        rw [if_neg (Nat.ne_of_lt z2.lt)]
        exact m.hr.base c y l g e1
      · obtain ⟨l', z1, z2⟩ := m.hr.live c y g
        exact ⟨l', le _ _ z1, z2.keep le (keep _ z2.lt)⟩
      · have hcb : c ≠ b := fun q => by subst q; rw [f2] at g; cases g
        have hcb' : c' ≠ b := fun q => by subst q; rw [f2] at g'; cases g'
        simp only [Mu.put, if_neg hcb] at e1
        simp only [Mu.put, if_neg hcb'] at e2
        exact m.hr.sep c c' y y' l l' g g' hne e1 e2
      · have hcb : c ≠ b := fun q => by subst q; have := m.nmx; omega
        simp only [Mu.put, if_neg hcb]
        exact m.hr.new c hc
      · have hc : (wD.rs c && !decide (c = b)) = true := hc
        rw [Bool.and_eq_true] at hc
        have hcb : c ≠ b := by simpa using hc.2
        simp only [Mu.put, if_neg hcb]
        exact m.hr.res c hc.1
      · show (if i = w.heap.size then some obj else wD.k i) = some y
        have := m.kE i y hy
        rw [if_neg (klt this)]; exact this
      · show (wD.rs c && !decide (c = b)) = true
        have hcb : c ≠ b := fun q => by subst q; rw [f3] at hc; cases hc
        rw [m.rE c hc]; simp [hcb]
      · obtain ⟨d1, d2⟩ := dn _ hd
        show (wD.rs b' && !decide (b' = b)) = true
        have hbb : b' ≠ b := fun q => by subst q; exact d2 (m.uq _ _ _ _ _ _ _ _ _ hin hq).1
        rw [m.no e' tm' mk' b' o' hin d1]; simp [hbb]
      · rcases old hin hd with q | q
        · cases q
          refine ⟨⟨w.heap.size, 0, cap⟩, obj, Mu.put_same _ _ _, by show (if _ = _ then _ else _) = _; rw [if_pos rfl], ?_, fun W ν le' hW => r2.keep le' (by rw [hW]; simp)⟩
          cases hz : w0.k w.heap.size with
          | none => rfl
          | some y => rw [m.kE _ _ hz] at hkn; cases hkn
        · obtain ⟨l, y, z1, z2, z3, z4⟩ := m.yes e' tm' mk' b' o' hin q
          exact ⟨l, y, le _ _ z1, by show (if _ = _ then _ else _) = _; rw [if_neg (klt z2)]; exact z2, z3, fun W ν le' hW => z4 W ν (le.trans le') hW⟩
      · rcases old i1 d1 with q1 | q1
        · cases q1
          rcases old i2 d2 with q2 | q2
          · cases q2; exact absurd rfl hne
          · obtain ⟨l, y, z1, z2, _⟩ := m.yes _ _ _ _ _ i2 q2
            rw [Mu.put_same] at y1; cases y1
            rw [le _ _ z1] at y2; cases y2
            exact fun z => klt z2 z.symm
        · obtain ⟨l, y, z1, z2, _⟩ := m.yes _ _ _ _ _ i1 q1
          rw [le _ _ z1] at y1; cases y1
          rcases old i2 d2 with q2 | q2
          · cases q2
            rw [Mu.put_same] at y2; cases y2
            exact klt z2
          · obtain ⟨l', y', z1', z2', _⟩ := m.yes _ _ _ _ _ i2 q2
            rw [le _ _ z1'] at y2; cases y2
            exact m.bq _ _ _ _ _ _ _ _ _ _ i1 i2 hne q1 q2 _ _ z1 z1'
      · have hcb : c ≠ b := fun q => by subst q; omega
        simp only [Mu.put, if_neg hcb]
        exact m.nmf c hc
    have := h.came hO he hx hb hD' le r1 hmem
    rw [hdst] at this
    exact uponIn_val s1 (hK _ _ _ _ le this)
end
end Ev
end Go.Proofs.YtpmjneggkccaiaaGreatDoor
