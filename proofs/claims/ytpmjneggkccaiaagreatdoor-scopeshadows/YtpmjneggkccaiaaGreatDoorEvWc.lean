/- A region whose order is drawn: what holds while it is carried out. -/
import Derived.Test.YtpmjneggkccaiaaGreatDoorEvWb
set_option linter.unusedVariables false
set_option linter.unusedSimpArgs false
namespace Go.Proofs.YtpmjneggkccaiaaGreatDoor
namespace Ev
def Pd.tm : Pd → T AV
  | .sk _ tm => tm
  | .rd _ tm _ => tm
  | .al _ tm _ _ _ => tm
def Pd.val : Pd → AV
  | .sk _ _ => .tup []
  | .rd _ _ v => v
  | .al _ _ mk b _ => mk b
/-- What is known of an operation that may not have come up yet. -/
def PF (T0 : Tab) (ops : List Oper) (hp : T AO) (nx : Bn) : Pd → Prop
  | .sk e tm => ∃ o, ops[e.i]? = some o ∧ wantedE ops tm o = some false
  | .rd e tm v => ∃ o, ops[e.i]? = some o ∧ wantedE ops tm o = some true ∧ tryO T0 ops e tm hp nx = some (.pv v)
  | .al e tm mk _ ao => ∃ o, ops[e.i]? = some o ∧ wantedE ops tm o = some true ∧ ∀ hp nx, tryO T0 ops e tm hp nx = some (.nw mk ao)
structure Mem (w0 wD : Fx) (D : Nat → Bool) (pend : List Pd) (μ : Mu) (H : T AO) (nx nm : Bn) (w : World) : Prop where
  hr : HR wD μ H nx w
  wE : wD.w = w0.w
  kE : ∀ i o, w0.k i = some o → wD.k i = some o
  rE : ∀ b, w0.rs b = true → wD.rs b = true
  no : ∀ e tm mk b o, Pd.al e tm mk b o ∈ pend → D e.i = false → wD.rs b = true
  yes : ∀ e tm mk b o, Pd.al e tm mk b o ∈ pend → D e.i = true → ∃ l obj, μ b = some l ∧ wD.k l.blk = some obj ∧ w0.k l.blk = none ∧ ∀ (W : World) ν, Mu.le μ ν → W.heap[l.blk]? = some obj → RO ν l W o
  fr : ∀ e tm mk b o, Pd.al e tm mk b o ∈ pend → b.toN < nm.toN ∧ H.get b = none ∧ w0.rs b = false
  uq : ∀ e tm mk b o e' tm' mk' o', Pd.al e tm mk b o ∈ pend → Pd.al e' tm' mk' b o' ∈ pend → e.i = e'.i ∧ o = o'
  bq : ∀ e tm mk b o e' tm' mk' b' o', Pd.al e tm mk b o ∈ pend → Pd.al e' tm' mk' b' o' ∈ pend → b ≠ b' → D e.i = true → D e'.i = true → ∀ l l', μ b = some l → μ b' = some l' → l.blk ≠ l'.blk
  nmx : nm.toN ≤ nx.toN
  nmf : ∀ b, nm.toN ≤ b.toN → μ b = none
  rlt : ∀ b, w0.rs b = true → b.toN < nm.toN
structure DI (T0 : Tab) (ops : List Oper) (L : List Dr) (nt : Nat) (t0 : T AV) (w0 wD : Fx) (F : Fence) (rc : Option AV) (rd : Bool) (C rest : List Dr) (vs : Vs) (σ : AS) (pend : List Pd) (D : Nat → Bool) (a : Act) (w : World) (μ : Mu) (nm : Bn) : Prop where
  hL : L = C ++ rest
  hv : vs.map (·.1) = C
  tm : σ.tm = tmW ops nt t0 (fun _ => true) vs
  ntE : σ.nt = nt
  dn : ∀ j, D j = true → ∃ x ∈ C, x.i = j
  ef : ∀ x ∈ C, isE x = true → D x.i = true
  cl : ∀ x ∈ C, D x.i = true → ∀ j, x.bf.testBit j = true → D j = true
  pd : ∀ p ∈ vs, D p.1.i = false → ∃ q ∈ pend, q.dr = p.1 ∧ q.val = p.2
  pf : ∀ q ∈ pend, PF T0 ops σ.hp σ.nx q ∧ ∃ vs1 vs2, vs = vs1 ++ (q.dr, q.val) :: vs2 ∧ q.tm = restr q.dr.rs (tmW ops nt t0 (fun _ => true) vs1)
  nd : (pend.map (fun q => q.dr.i)).Nodup
  rt : RT μ (tmW ops nt t0 D vs) a.tmps
  sz : a.tmps.size = nt
  df : RDs μ σ.df a.defers
  fen : Fen μ F σ.ro
  rc : σ.rc = rc
  rd : σ.rd = rd
  mem : Mem w0 wD D pend μ σ.hp σ.nx nm w
section
variable {ops : List Oper} {L : List Dr} {nt : Nat} {t0 : T AV}
/-- Of two the one that stands ahead neither is the other nor waits for it. -/
theorem Ord.before (h : Ord ops L) {A B : List Dr} {x y : Dr} (e : L = A ++ x :: B) (hy : y ∈ B) : x.i ≠ y.i ∧ x.bf.testBit y.i = false := by
  obtain ⟨B1, B2, e2⟩ := List.append_of_mem hy
  have e3 : L = (A ++ x :: B1) ++ y :: B2 := by rw [e, e2]; simp
  have hpre := (h.pre _ y B2 e3).1
  refine ⟨hpre x (by simp), ?_⟩
  cases hb : x.bf.testBit y.i with
  | false => rfl
  | true =>
    obtain ⟨z, z1, z2⟩ := (h.pre A x B e).2.1 y.i hb
    exact absurd z2 (hpre z (by simp [z1]))
theorem map_split {vs vs1 vs2 : Vs} {p : Dr × AV} {C rest : List Dr} (hL : L = C ++ rest) (hv : vs.map (·.1) = C) (e : vs = vs1 ++ p :: vs2) : L = vs1.map (·.1) ++ p.1 :: (vs2.map (·.1) ++ rest) := by
  rw [hL, ← hv, e]; simp
/-- What one reads that has not come up yet stands in its temporaries. -/
theorem reads_rt (hO : Ord ops L) {vs vs1 vs2 : Vs} {x : Dr} {v : AV} {C rest : List Dr} {D : Nat → Bool} {μ : Mu} {tmps : Array Value} (hL : L = C ++ rest) (hv : vs.map (·.1) = C) (e : vs = vs1 ++ (x, v) :: vs2)
    (hrt : RT μ (tmW ops nt t0 D vs) tmps) (hx : D x.i = false) (hb : ∀ j, x.bf.testBit j = true → D j = true) (hcl : ∀ x ∈ C, D x.i = true → ∀ j, x.bf.testBit j = true → D j = true) :
    RT μ (restr x.rs (tmW ops nt t0 (fun _ => true) vs1)) tmps := by
  have hL' := map_split hL hv e
  intro t u hu
  rw [restr_get] at hu
  split at hu
  · rename_i ht
    refine hrt t u ?_
    rw [e, tmW_agree ?_ ?_]
    · exact hu
    · intro p hp hd
      have hpL : p.1 ∈ L := by rw [hL']; exact List.mem_append_left _ (List.mem_map.2 ⟨p, hp, rfl⟩)
      have hxL : x ∈ L := by rw [hL']; simp
      obtain ⟨A, B, e2⟩ := List.append_of_mem (List.mem_map.2 ⟨p, hp, rfl⟩ : p.1 ∈ vs1.map (·.1))
      have hbef := hO.before (A := A) (x := p.1) (B := B ++ x :: (vs2.map (·.1) ++ rest)) (y := x) (by rw [hL', e2]; simp) (by simp)
      rcases hO.race x hxL t (.inl ht) p.1 hpL hd with q | q | q
      · exact absurd q.symm hbef.1
      · exact hb _ q
      · rw [hbef.2] at q; cases q
    · intro p hp hd
      cases hp with
      | head => exact hx
      | tail _ hp =>
        have hpL : p.1 ∈ L := by rw [hL']; exact List.mem_append_right _ (List.mem_cons_of_mem _ (List.mem_append_left _ (List.mem_map.2 ⟨p, hp, rfl⟩)))
        have hxL : x ∈ L := by rw [hL']; simp
        have hbef := hO.before hL' (y := p.1) (List.mem_append_left _ (List.mem_map.2 ⟨p, hp, rfl⟩))
        rcases hO.race x hxL t (.inl ht) p.1 hpL hd with q | q | q
        · exact absurd q hbef.1
        · rw [hbef.2] at q; cases q
        · cases hD : D p.1.i with
          | false => rfl
          | true =>
            have := hcl p.1 (by rw [← hv, e]; simp; exact .inr (.inr ⟨p.2, hp⟩)) hD _ q
            rw [hx] at this; cases this
  · cases hu
/-- Its value is put in. -/
theorem put_rt (hO : Ord ops L) {vs vs1 vs2 : Vs} {x : Dr} {v : AV} {C rest : List Dr} {D D' : Nat → Bool} {μ ν : Mu} {a : Act} {xv : Value} (hL : L = C ++ rest) (hv : vs.map (·.1) = C) (e : vs = vs1 ++ (x, v) :: vs2)
    (hrt : RT μ (tmW ops nt t0 D vs) a.tmps) (hsz : a.tmps.size = nt) (hx : D x.i = false) (hb : ∀ j, x.bf.testBit j = true → D j = true) (hcl : ∀ x ∈ C, D x.i = true → ∀ j, x.bf.testBit j = true → D j = true)
    (hD' : ∀ j, D' j = (D j || decide (j = x.i))) (le : Mu.le μ ν) (hr : RV ν v xv) : RT ν (tmW ops nt t0 D' vs) (a.put (dstO ops x.i) xv).tmps := by
  have hL' := map_split hL hv e
  have hxL : x ∈ L := by rw [hL']; simp
  intro t u hu
  by_cases hd : dstO ops x.i = some t
  · have e' : vs = (vs1 ++ [(x, v)]) ++ vs2 := by rw [e]; simp
    rw [e', tmW_agree ?_ ?_, tmW_snoc] at hu
    · simp only [if_true] at hu
      rw [putT_get, if_pos hd] at hu
      rcases tb_or hu with ⟨h1, h2⟩ | ⟨_, h2⟩
      · cases h2
        rw [blt_eq] at h1
        have ht : t < a.tmps.size := by rw [hsz]; simpa using h1
        rw [hd]
        simp [Act.put, ht]
        exact hr
      · cases h2
    · intro p hp hpd
      rw [hD']
      rcases List.mem_append.1 hp with hp | hp
      · have hpL : p.1 ∈ L := by rw [hL']; exact List.mem_append_left _ (List.mem_map.2 ⟨p, hp, rfl⟩)
        obtain ⟨A, B, e2⟩ := List.append_of_mem (List.mem_map.2 ⟨p, hp, rfl⟩ : p.1 ∈ vs1.map (·.1))
        have hbef := hO.before (A := A) (x := p.1) (B := B ++ x :: (vs2.map (·.1) ++ rest)) (y := x) (by rw [hL', e2]; simp) (by simp)
        rcases hO.race x hxL t (.inr hd) p.1 hpL hpd with q | q | q
        · exact absurd q.symm hbef.1
        · simp [hb _ q]
        · rw [hbef.2] at q; cases q
      · simp at hp; subst hp; simp
    · intro p hp hpd
      have hpL : p.1 ∈ L := by rw [hL']; exact List.mem_append_right _ (List.mem_cons_of_mem _ (List.mem_append_left _ (List.mem_map.2 ⟨p, hp, rfl⟩)))
      have hbef := hO.before hL' (y := p.1) (List.mem_append_left _ (List.mem_map.2 ⟨p, hp, rfl⟩))
      rw [hD']
      have hne : ¬ p.1.i = x.i := fun q => hbef.1 q.symm
      simp only [hne, decide_false, Bool.or_false]
      rcases hO.race x hxL t (.inr hd) p.1 hpL hpd with q | q | q
      · exact absurd q hbef.1
      · rw [hbef.2] at q; cases q
      · cases hDp : D p.1.i with
        | false => rfl
        | true =>
          have := hcl p.1 (by rw [← hv, e]; simp; exact .inr (.inr ⟨p.2, hp⟩)) hDp _ q
          rw [hx] at this; cases this
  · have e2 : (tmW ops nt t0 D' vs).get (pOf t) = (tmW ops nt t0 D vs).get (pOf t) := tmW_congr rfl (fun p hp hpd => by
      rw [hD']
      have hne : ¬ p.1.i = x.i := fun q => hd (by rw [← q]; exact hpd)
      simp [hne])
    rw [e2] at hu
    have := (hrt t u hu).mono le
    cases hdx : dstO ops x.i with
    | none => exact this
    | some d =>
      have hne : d ≠ t := fun q => hd (by rw [hdx, q])
      simp only [Act.put, Array.getD_eq_getD_getElem?, Array.getElem?_setIfInBounds_ne hne] at this ⊢
      exact this
end
end Ev
end Go.Proofs.YtpmjneggkccaiaaGreatDoor
