/- A region whose order is drawn: the evaluator goes on; an operation comes up. -/
import Derived.Test.YtpmjneggkccaiaaGreatDoorEvWc
set_option linter.unusedVariables false
set_option linter.unusedSimpArgs false
namespace Go.Proofs.YtpmjneggkccaiaaGreatDoor
namespace Ev
theorem bumpE_succ : ∀ (r : List Dr) (nm : Bn), (bumpE r nm.succ).toN = (bumpE r nm).toN + 1
  | [], nm => Bn.toN_succ nm
  | e :: r, nm => by
    show (tb (isE e) nm.succ (tb (Nat.beq e.cl 1) (bumpE r nm.succ).succ (bumpE r nm.succ))).toN = (tb (isE e) nm (tb (Nat.beq e.cl 1) (bumpE r nm).succ (bumpE r nm))).toN + 1
    cases isE e with
    | true => exact Bn.toN_succ nm
    | false =>
      simp only [tb_false]
      cases Nat.beq e.cl 1 with
      | true => simp only [tb_true, Bn.toN_succ, bumpE_succ r nm]
      | false => simp only [tb_false]; exact bumpE_succ r nm
theorem bumpE_le : ∀ (r : List Dr) (nm : Bn), nm.toN ≤ (bumpE r nm).toN
  | [], nm => Nat.le_refl _
  | e :: r, nm => by
    show nm.toN ≤ (tb (isE e) nm (tb (Nat.beq e.cl 1) (bumpE r nm).succ (bumpE r nm))).toN
    have ih := bumpE_le r nm
    cases isE e with
    | true => exact Nat.le_refl _
    | false =>
      simp only [tb_false]
      cases Nat.beq e.cl 1 with
      | true => simp only [tb_true, Bn.toN_succ]; omega
      | false => simp only [tb_false]; exact ih
/-- More names are told to be kept for later. -/
def Fx.keep (F : Fx) (b : Bn) : Fx := { F with rs := fun c => F.rs c || decide (c = b) }
theorem HR.keepB {w0 : Fx} {μ : Mu} {H : T AO} {nx : Bn} {w : World} (h : HR w0 μ H nx w) {b : Bn} (h1 : μ b = none) (h2 : b.toN < nx.toN) : HR (w0.keep b) μ H nx w :=
  ⟨⟨h.ext.os, h.ext.tape, h.ext.out, h.ext.kp⟩, h.base, h.live, h.sep, h.new, fun c hc => by
    have hc : (w0.rs c || decide (c = b)) = true := hc
    rw [Bool.or_eq_true] at hc
    rcases hc with hc | hc
    · exact h.res c hc
    · have : c = b := by simpa using hc
      subst this
      exact ⟨h1, h2⟩⟩
theorem asPv_some {r : Out} {v : AV} (h : asPv r = some v) : r = .pv v := by cases r <;> cases h; rfl
theorem asNw_some {r : Out} {q : Nw} (h : asNw r = some q) : r = .nw q.f q.o := by cases r <;> cases h; rfl
theorem kind1 {o : Op} (h : kindO o = 1) : (∃ el, o = .alloc el) ∨ (∃ el x, o = .box el x) ∨ (∃ t n ps, o = .buildSlice t n ps) ∨ (∃ t x y, o = .makeSlice t x y) ∨ (∃ t r, o = .makeMap t r) := by
  cases o <;> first
    | exact .inl ⟨_, rfl⟩
    | exact .inr (.inl ⟨_, _, rfl⟩)
    | exact .inr (.inr (.inl ⟨_, _, _, rfl⟩))
    | exact .inr (.inr (.inr (.inl ⟨_, _, _, rfl⟩)))
    | exact .inr (.inr (.inr (.inr ⟨_, _, rfl⟩)))
    | (exfalso; revert h; simp only [kindO]; decide)
    | (exfalso; revert h; simp only [kindO, callK]; split <;> decide)
/-- Those that make blocks do not look at memory. -/
theorem tryO_any {T0 : Tab} {ops : List Oper} {e : Dr} {o : Oper} {tm : T AV} {hp : T AO} {nx : Bn} {out : Out} (ho : ops[e.i]? = some o) (hk : kindO o.op = 1) (h : tryO T0 ops e tm hp nx = some out) (hp' : T AO) (nx' : Bn) : tryO T0 ops e tm hp' nx' = some out := by
  unfold tryO at h ⊢
  rw [nthO_eq, ho] at h ⊢
  have h : (ob (opE T0 o.op) fun f => f (sigR tm hp nx)) = some out := h
  show (ob (opE T0 o.op) fun f => f (sigR tm hp' nx')) = some out
  obtain ⟨f, h1, h2⟩ := ob_some h
  rw [h1]
  show f (sigR tm hp' nx') = some out
  rcases kind1 hk with ⟨el, e1⟩ | ⟨el, x, e1⟩ | ⟨t, n, ps, e1⟩ | ⟨t, x, y, e1⟩ | ⟨t, r, e1⟩ <;> rw [e1] at h1
  · obtain ⟨i, g1, g2⟩ := ob_some (show (ob (T0.t el) _) = some f from h1)
    cases g2; exact h2
  · cases h1; exact h2
  · obtain ⟨i, g1, g2⟩ := ob_some (show (ob (elemI T0 t) _) = some f from h1)
    cases g2; exact h2
  · obtain ⟨i, g1, g2⟩ := ob_some (show (ob (elemI T0 t) _) = some f from h1)
    cases g2; exact h2
  · obtain ⟨i, g1, g2⟩ := ob_some (show (ob (keyT T0 t) _) = some f from h1)
    cases g2; exact h2
section
variable {T0 : Tab} {ops : List Oper} {L : List Dr} {nt : Nat} {t0 : T AV} {w0 wD : Fx} {F : Fence} {rc : Option AV} {rd : Bool} {C rest : List Dr} {vs : Vs} {σ : AS} {pend : List Pd} {D : Nat → Bool} {a : Act} {w : World} {μ : Mu} {nm : Bn}
theorem putE_put (σ : AS) (dst : Option Tmp) (v : AV) (hp : T AO) (nx : Bn) : (putE σ dst v hp nx).tm = putT σ.nt σ.tm dst v := by
  rw [putE_tm]; cases dst <;> rfl
/-- One operation more has been looked at by the evaluator. -/
theorem DI.more (hO : Ord ops L) {en : Dr} {r : List Dr} (h : DI T0 ops L nt t0 w0 wD F rc rd C (en :: r) vs σ pend D a w μ nm) (hE : isE en = false) {o : Oper} (ho : ops[en.i]? = some o) {q : Pd} {nm' : Bn} {wD' : Fx}
    (hq : q.dr = en) (hqt : q.tm = restr en.rs σ.tm) (hqf : PF T0 ops σ.hp σ.nx q) (hm : Mem w0 wD' D (q :: pend) μ σ.hp σ.nx nm' w) :
    DI T0 ops L nt t0 w0 wD' F rc rd (C ++ [en]) r (vs ++ [(en, q.val)]) (putE σ o.dst q.val σ.hp σ.nx) (q :: pend) D a w μ nm' := by
  have hdst : dstO ops en.i = o.dst := by unfold dstO; rw [ho]; rfl
  have hD : D en.i = false := by
    cases hd : D en.i with
    | false => rfl
    | true =>
      obtain ⟨x, x1, x2⟩ := h.dn _ hd
      exact absurd x2 ((hO.pre C en r h.hL).1 x x1)
  refine ⟨by rw [h.hL]; simp, by rw [List.map_append, h.hv]; rfl, ?_, h.ntE, fun j hj => ?_, fun x hx he => ?_, fun x hx hd => ?_, fun p hp hd => ?_, fun p hp => ?_, ?_, ?_, h.sz, h.df, h.fen, h.rc, h.rd, hm⟩
  · rw [putE_put, tmW_snoc, if_pos rfl, hdst, h.ntE, h.tm]
  · obtain ⟨x, x1, x2⟩ := h.dn j hj
    exact ⟨x, by simp [x1], x2⟩
  · rcases List.mem_append.1 hx with hx | hx
    · exact h.ef x hx he
    · simp at hx; subst hx; rw [hE] at he; cases he
  · rcases List.mem_append.1 hx with hx | hx
    · exact h.cl x hx hd
    · simp at hx; subst hx; rw [hD] at hd; cases hd
  · rcases List.mem_append.1 hp with hp | hp
    · obtain ⟨q', h1, h2⟩ := h.pd p hp hd
      exact ⟨q', by simp [h1], h2⟩
    · simp at hp; subst hp
      exact ⟨q, by simp, hq, rfl⟩
  · cases hp with
    | head => exact ⟨hqf, vs, [], by rw [hq], by rw [hqt, hq, h.tm]⟩
    | tail _ hp =>
      obtain ⟨h1, vs1, vs2, h2, h3⟩ := h.pf p hp
      exact ⟨h1, vs1, vs2 ++ [(en, q.val)], by rw [h2]; simp, h3⟩
  · rw [List.map_cons, List.nodup_cons]
    refine ⟨fun hin => ?_, h.nd⟩
    obtain ⟨q', h1, h2⟩ := List.mem_map.1 hin
    obtain ⟨_, vs1, vs2, h3, _⟩ := h.pf q' h1
    have : q'.dr ∈ C := by rw [← h.hv, h3]; simp
    exact (hO.pre C en r h.hL).1 q'.dr this (by rw [h2, hq])
  · rw [tmW_snoc, if_neg (by rw [hD]; simp)]
    exact h.rt
/-- The evaluator goes on to the next one that may do anything. -/
theorem DI.layer (hO : Ord ops L) {self deep : Self} {k : AEx → AS → R} : ∀ (rest C : List Dr) (vs : Vs) (σ : AS) (pend : List Pd) (nm : Bn) (wD : Fx), DI T0 ops L nt t0 w0 wD F rc rd C rest vs σ pend D a w μ nm → (bumpE rest nm).toN ≤ σ.nx.toN → runD self deep T0 ops k rest σ nm pend = .ok →
    ∃ C' rest' vs' σ' pend' nm' wD', DI T0 ops L nt t0 w0 wD' F rc rd C' rest' vs' σ' pend' D a w μ nm' ∧ runD self deep T0 ops k rest' σ' nm' pend' = .ok ∧ (rest' = [] ∨ ∃ e r, rest' = e :: r ∧ isE e = true)
  | [], C, vs, σ, pend, nm, wD, h, _, hr => ⟨C, [], vs, σ, pend, nm, wD, h, hr, .inl rfl⟩
  | en :: r, C, vs, σ, pend, nm, wD, h, hb, hr => by
    have hr0 := hr
    have hr : oc (nthO ops en.i) (.no "drawn") (fun o => tb (isE en) (effD self deep T0 ops k en o r (runD self deep T0 ops k r) σ pend) (quietD T0 ops en o (runD self deep T0 ops k r) σ nm pend)) = .ok := hr
    obtain ⟨o, h1, h2⟩ := oc_ok hr
    rw [nthO_eq] at h1
    rcases tb_or (b := isE en) h2 with ⟨hE, _⟩ | ⟨hE, h2⟩
    · exact ⟨C, en :: r, vs, σ, pend, nm, wD, h, hr0, .inr ⟨en, r, rfl, hE⟩⟩
    have hbump : (tb (Nat.beq en.cl 1) (bumpE r nm).succ (bumpE r nm)).toN ≤ σ.nx.toN := by
      have e : bumpE (en :: r) nm = tb (isE en) nm (tb (Nat.beq en.cl 1) (bumpE r nm).succ (bumpE r nm)) := rfl
      rw [e, hE] at hb; exact hb
    have hbump0 : (bumpE r nm).toN ≤ σ.nx.toN := by
      cases hc : Nat.beq en.cl 1 with
      | true => rw [hc, tb_true, Bn.toN_succ] at hbump; omega
      | false => rw [hc] at hbump; exact hbump
    obtain ⟨b, h3, h4⟩ := oc_ok h2
    have same : ∀ q : Pd, (∀ e tm mk b o, q ≠ .al e tm mk b o) → Mem w0 wD D (q :: pend) μ σ.hp σ.nx nm w := by
      intro q hq
      have old : ∀ {e tm mk b o}, Pd.al e tm mk b o ∈ q :: pend → Pd.al e tm mk b o ∈ pend := fun {e tm mk b o} hin => by
        cases hin with
        | head => exact absurd rfl (hq e tm mk b o)
        | tail _ m => exact m
      have m := h.mem
      exact ⟨m.hr, m.wE, m.kE, m.rE, fun e tm mk b o hin => m.no e tm mk b o (old hin), fun e tm mk b o hin => m.yes e tm mk b o (old hin), fun e tm mk b o hin => m.fr e tm mk b o (old hin),
        fun e tm mk b o e' tm' mk' o' h1 h2 => m.uq e tm mk b o e' tm' mk' o' (old h1) (old h2), fun e tm mk b o e' tm' mk' b' o' h1 h2 => m.bq e tm mk b o e' tm' mk' b' o' (old h1) (old h2), m.nmx, m.nmf, m.rlt⟩
    have hD : D en.i = false := by
      cases hd : D en.i with
      | false => rfl
      | true =>
        obtain ⟨x, x1, x2⟩ := h.dn _ hd
        exact absurd x2 ((hO.pre C en r h.hL).1 x x1)
    rcases tb_or (b := b) h4 with ⟨rfl, h5⟩ | ⟨rfl, h5⟩
    · obtain ⟨out, h6, h7⟩ := oc_ok h5
      rcases oc_or (x := asPv out) h7 with ⟨_, h8⟩ | ⟨v, h8, h9⟩
      · obtain ⟨q, h9, h10⟩ := oc_ok h8
        obtain ⟨h11, h12⟩ := cb'_ok h10
        rw [asNw_some h9] at h6
        have hcl : en.cl = 1 := beq_true h11
        have henL : en ∈ L := by rw [h.hL]; simp
        have hk : kindO o.op = 1 := by
          obtain ⟨o', q1, q2, _⟩ := hO.lt en henL
          rw [h1] at q1; cases q1
          rw [← q2, hcl]
        rw [h11, tb_true, Bn.toN_succ] at hbump
        have hle := bumpE_le r nm
        have hnm : nm.toN < σ.nx.toN := by omega
        have m := h.mem
        have hμ := m.nmf nm (Nat.le_refl _)
        have hmem : Mem w0 (wD.keep nm) D (.al en (restr en.rs σ.tm) q.f nm q.o :: pend) μ σ.hp σ.nx nm.succ w := by
          refine ⟨m.hr.keepB hμ hnm, m.wE, m.kE, fun b hb => ?_, fun e tm mk b o hin hd => ?_, fun e tm mk b o hin hd => ?_, fun e tm mk b o hin => ?_, fun e tm mk b o e' tm' mk' o' i1 i2 => ?_, fun e tm mk b o e' tm' mk' b' o' i1 i2 hne d1 d2 => ?_, by rw [Bn.toN_succ]; omega, fun b hb => m.nmf b (by rw [Bn.toN_succ] at hb; omega), fun b hb => by have := m.rlt b hb; rw [Bn.toN_succ]; omega⟩
          · show (wD.rs b || decide (b = nm)) = true
            rw [m.rE b hb]; rfl
          · cases hin with
            | head => show (wD.rs nm || decide (nm = nm)) = true; simp
            | tail _ hin => show (wD.rs b || decide (b = nm)) = true; rw [m.no e tm mk b o hin hd]; rfl
          · cases hin with
            | head => rw [hD] at hd; cases hd
            | tail _ hin => exact m.yes e tm mk b o hin hd
          · cases hin with
            | head =>
              refine ⟨by rw [Bn.toN_succ]; omega, ?_, ?_⟩
              · cases hg : σ.hp.get nm with
                | none => rfl
                | some x =>
                  obtain ⟨l, l1, _⟩ := m.hr.live nm x hg
                  rw [hμ] at l1; cases l1
              · cases hg : w0.rs nm with
                | false => rfl
                | true => have := m.rlt nm hg; omega
            | tail _ hin =>
              obtain ⟨f1, f2, f3⟩ := m.fr e tm mk b o hin
              exact ⟨by rw [Bn.toN_succ]; omega, f2, f3⟩
          · cases i1 with
            | head =>
              cases i2 with
              | head => exact ⟨rfl, rfl⟩
              | tail _ i2 => have := (m.fr _ _ _ _ _ i2).1; omega
            | tail _ i1 =>
              cases i2 with
              | head => have := (m.fr _ _ _ _ _ i1).1; omega
              | tail _ i2 => exact m.uq _ _ _ _ _ _ _ _ _ i1 i2
          · cases i1 with
            | head => rw [hD] at d1; cases d1
            | tail _ i1 =>
              cases i2 with
              | head => rw [hD] at d2; cases d2
              | tail _ i2 => exact m.bq _ _ _ _ _ _ _ _ _ _ i1 i2 hne d1 d2
        have hnext := h.more hO hE h1 (q := .al en (restr en.rs σ.tm) q.f nm q.o) rfl rfl ⟨o, h1, h3, fun hp nx => tryO_any h1 hk h6 hp nx⟩ hmem
        exact DI.layer hO r _ _ _ _ _ _ hnext (by rw [bumpE_succ]; exact hbump) h12
      · rw [asPv_some h8] at h6
        have hnext := h.more hO hE h1 (q := .rd en (restr en.rs σ.tm) v) rfl rfl ⟨o, h1, h3, h6⟩ (same _ (fun e tm mk b o hq => by cases hq))
        exact DI.layer hO r _ _ _ _ _ _ hnext hbump0 h9
    · have hnext := h.more hO hE h1 (q := .sk en (restr en.rs σ.tm)) rfl rfl ⟨o, h1, h3⟩ (same _ (fun e tm mk b o hq => by cases hq))
      exact DI.layer hO r _ _ _ _ _ _ hnext hbump0 h5
end
end Ev
end Go.Proofs.YtpmjneggkccaiaaGreatDoor
