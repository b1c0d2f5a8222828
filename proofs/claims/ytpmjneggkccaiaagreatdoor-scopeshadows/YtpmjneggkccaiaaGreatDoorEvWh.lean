/- A region whose order is drawn is sound. -/
import Derived.Test.YtpmjneggkccaiaaGreatDoorEvWg
set_option linter.unusedVariables false
set_option linter.unusedSimpArgs false
namespace Go.Proofs.YtpmjneggkccaiaaGreatDoor
namespace Ev
def cntF (l : Array Bool) : Nat := (l.toList.filter (fun b => !b)).length
theorem cnt_set : ∀ {l : List Bool} {i : Nat}, l[i]? = some false → ((l.set i true).filter (fun b => !b)).length + 1 = (l.filter (fun b => !b)).length
  | [], i, h => by simp at h
  | b :: l, 0, h => by simp at h; subst h; simp
  | b :: l, i + 1, h => by
    simp at h
    have ih := cnt_set h
    rw [List.set_cons_succ, List.filter_cons, List.filter_cons]
    cases b <;> simp <;> omega
theorem cnt_pos : ∀ {l : List Bool} {i : Nat}, l[i]? = some false → 0 < (l.filter (fun b => !b)).length := fun h => by have := cnt_set h; omega
section
variable {T0 : Tab} {L : List Dr} {nt : Nat} {t0 : T AV} {w0 : Fx} {F : Fence} {rc : Option AV} {rd : Bool}
theorem all_up {ops' : Array Oper} (hO : Ord ops'.toList L) {listed : Array Bool} (hs : listed.size = ops'.size) (hr : Region.ready .any ops' listed = []) : ∀ (n : Nat) (C : List Dr) (x : Dr) (r : List Dr), L = C ++ x :: r → C.length = n → listed.getD x.i false = true := by
  intro n
  induction n using Nat.strongRecOn with
  | _ n ih =>
    intro C x r e hn
    cases hd : listed.getD x.i false with
    | true => rfl
    | false =>
      exfalso
      have hxL : x ∈ L := by rw [e]; simp
      obtain ⟨o, h1, _, _⟩ := hO.lt x hxL
      have hlt : x.i < ops'.size := by
        rcases Nat.lt_or_ge x.i ops'.size with z | z
        · exact z
        · rw [List.getElem?_eq_none (by simpa using z)] at h1; cases h1
      have hin : x.i ∈ Region.ready .any ops' listed := mem_ready.2 ⟨by
        have hlt' : x.i < listed.size := by omega
        simp only [Array.getD_eq_getD_getElem?, Array.getElem?_eq_getElem hlt', Option.getD_some] at hd ⊢
        exact hd, o, by simpa using h1, fun ed hed hb => by
        rw [binds_eq] at hb
        obtain ⟨y, y1, y2⟩ := (hO.pre C x r e).2.2.1 o h1 ed (by simpa using hed) hb
        obtain ⟨A, B, e2⟩ := List.append_of_mem y1
        rw [← y2]
        exact ih A.length (by rw [← hn, e2]; simp) A y (B ++ x :: r) (by rw [e, e2]; simp) rfl⟩
      rw [hr] at hin; cases hin
theorem drawn_any (hT : TabOk T0) {self deep : Self} (hS : SelfOk T0 self) (hDp : DeepOk T0 deep) {ops' : Array Oper} {k : AEx → AS → R} {Q : Exit → Act → World → Prop} {μ0 : Mu} (hO : Ord ops'.toList L) (hk : KOk w0 F μ0 rc rd k Q) :
    ∀ (fuel : Nat) (listed : Array Bool) (a : Act) (w : World), listed.size = ops'.size → cntF listed ≤ fuel → ∀ (C rest : List Dr) (vs : Vs) (σ : AS) (pend : List Pd) (μ : Mu) (nm : Bn) (wD : Fx), Mu.le μ0 μ →
      DI T0 ops'.toList L nt t0 w0 wD F rc rd C rest vs σ pend (fun j => listed.getD j false) a w μ nm → runD self deep T0 ops'.toList k rest σ nm pend = .ok → (rest = [] ∨ ∃ e r, rest = e :: r ∧ isE e = true) →
      wpAnyIn F 0 T0.P .any ops' Q fuel listed a w := by
  have fin : ∀ (listed : Array Bool) (a : Act) (w : World), listed.size = ops'.size → ∀ (C rest : List Dr) (vs : Vs) (σ : AS) (pend : List Pd) (μ : Mu) (nm : Bn) (wD : Fx), Mu.le μ0 μ →
      DI T0 ops'.toList L nt t0 w0 wD F rc rd C rest vs σ pend (fun j => listed.getD j false) a w μ nm → runD self deep T0 ops'.toList k rest σ nm pend = .ok → Region.ready .any ops' listed = [] → Q .normal a w := by
    intro listed a w hs C rest vs σ pend μ nm wD le h hrun hr
    have all : ∀ x ∈ L, listed.getD x.i false = true := fun x hx => by
      obtain ⟨A, B, e⟩ := List.append_of_mem hx
      exact all_up hO hs hr A.length A x B e rfl
    cases rest with
    | nil => exact h.last (fun x hx => all x (by rw [h.hL]; simp [hx])) le hk hrun
    | cons e r =>
      exfalso
      obtain ⟨x, x1, x2⟩ := h.dn e.i (all e (by rw [h.hL]; simp))
      exact (hO.pre C e r h.hL).1 x x1 x2
  intro fuel
  induction fuel with
  | zero =>
    intro listed a w hs hc C rest vs σ pend μ nm wD le h hrun hst
    have hnil : Region.ready .any ops' listed = [] := by
      cases hr : Region.ready .any ops' listed with
      | nil => rfl
      | cons i is =>
        exfalso
        have hin : i ∈ Region.ready .any ops' listed := by rw [hr]; simp
        have h1 := (mem_ready.1 hin).1
        have : listed.toList[i]? = some false := by
          rcases Nat.lt_or_ge i listed.size with z | z
          · simp only [Array.getD_eq_getD_getElem?, Array.getElem?_eq_getElem z, Option.getD_some] at h1
            simp [z, h1]
          · simp [Array.getD_eq_getD_getElem?, Array.getElem?_eq_none z] at h1
        have := cnt_pos this
        unfold cntF at hc; omega
    exact ⟨hnil, fin listed a w hs C rest vs σ pend μ nm wD le h hrun hnil⟩
  | succ fuel ih =>
    intro listed a w hs hc C rest vs σ pend μ nm wD le h hrun hst
    refine ⟨fin listed a w hs C rest vs σ pend μ nm wD le h hrun, fun i hi => ?_⟩
    obtain ⟨hu, o, ho, hed⟩ := mem_ready.1 hi
    have hlt : i < listed.size := by
      rcases Nat.lt_or_ge i listed.size with z | z
      · exact z
      · simp [Array.getD_eq_getD_getElem?, Array.getElem?_eq_none z] at hu
    have hDi : listed.getD i false = false := by
      simp only [Array.getD_eq_getD_getElem?, Array.getElem?_eq_getElem hlt, Option.getD_some] at hu ⊢
      exact hu
    have hli : listed.toList[i]? = some false := by
      simp only [Array.getD_eq_getD_getElem?, Array.getElem?_eq_getElem hlt, Option.getD_some] at hu
      simp [hlt, hu]
    obtain ⟨x, hxL, hxi⟩ := hO.all i (by simpa using (by omega : i < ops'.size))
    have hD' : ∀ j, (listed.setIfInBounds i true).getD j false = (listed.getD j false || decide (j = x.i)) := fun j => by
      rw [hxi]
      by_cases q : j = i
      · subst q; simp [hlt]
      · simp [q, Array.getElem?_setIfInBounds_ne (Ne.symm q)]
    have hs' : (listed.setIfInBounds i true).size = ops'.size := by simpa using hs
    have hc' : cntF (listed.setIfInBounds i true) ≤ fuel := by
      have := cnt_set hli
      unfold cntF at hc ⊢
      simp only [Array.toList_setIfInBounds]
      omega
    have inC : ∀ y ∈ L, listed.getD y.i false = true → y ∈ C := fun y hy hd => by
      obtain ⟨z, z1, z2⟩ := h.dn y.i hd
      have := hO.uniq (by rw [h.hL]; simp [z1]) hy z2
      subst this; exact z1
    have hb : ∀ j, x.bf.testBit j = true → listed.getD j false = true := fun j hj => by
      obtain ⟨o', h1, _, h3⟩ := hO.lt x hxL
      rw [hxi] at h1
      have h1 : ops'[i]? = some o' := by simpa using h1
      rw [ho] at h1; cases h1
      obtain ⟨ed, e1, e2, e3⟩ := h3 j hj
      have hon := hed ed (by simpa using e1) (by rw [binds_eq]; exact e2)
      rcases e3 with e3 | ⟨y, y1, y2, y3⟩
      · rw [e3]; exact hon
      · exact h.cl y (inC y y1 (by rw [y2]; exact hon)) (by rw [y2]; exact hon) j y3
    have hxD : (fun j => listed.getD j false) x.i = false := by rw [hxi]; exact hDi
    have hmem : x ∈ C ∨ x ∈ rest := by have := hxL; rw [h.hL] at this; exact List.mem_append.1 this
    rw [← hxi]
    rcases hmem with hx | hx
    · exact h.come hT hO hx hxD hb hD' (fun a' w' ν wD' le' g => by
        rw [hxi] at *
        exact ih _ a' w' hs' hc' C rest vs σ pend ν nm wD' (le.trans le') g hrun hst)
    · rcases hst with hst | ⟨e, r, hst, hE⟩
      · rw [hst] at hx; cases hx
      · subst hst
        have hpre := hO.pre C e r h.hL
        have hxe : x = e := by
          cases hx with
          | head => rfl
          | tail _ hx =>
            exfalso
            obtain ⟨q1, q2⟩ := hpre.2.2.2 hE x hx
            cases hz : isE x with
            | true =>
              obtain ⟨z, z1, z2⟩ := h.dn _ (hb _ (q1 hz))
              exact hpre.1 z z1 z2
            | false =>
              obtain ⟨j, j1, j2⟩ := q2 hz
              obtain ⟨z, z1, z2⟩ := h.dn _ (hb j j1)
              exact j2 z z1 z2
        subst hxe
        exact h.eff hT hS hDp hO hE hxD hb hD' hrun le hk (fun a' w' μ' C' rest' vs' σ' pend' nm' wD' le' g1 g2 g3 => by
          rw [hxi] at *
          exact ih _ a' w' hs' hc' C' rest' vs' σ' pend' μ' nm' wD' (le.trans le') g1 g2 g3)
end
theorem regD_sound {T0 : Tab} (hT : TabOk T0) {self deep : Self} (hS : SelfOk T0 self) (hD : DeepOk T0 deep) {w0 : Fx} {μ : Mu} {F : Fence} {rc : Option AV} {rd : Bool} {σ : AS} {a : Act} {w : World} {Q : Exit → Act → World → Prop} {k : AEx → AS → R}
    {id : Nat} {ops : Array Oper} (h : regD self deep T0 ops.toList k σ = .ok) (hr : SR w0 μ F rc rd σ a w) (hk : KOk w0 F μ rc rd k Q) : (Code.region id ops true).wpIn F 0 T0.P Q a w := by
  obtain ⟨h1, h2⟩ := cb'_ok h
  have hO := vOk_ord h1
  refine wpIn_region_any hT.mixed ?_
  have hle := bumpE_le (canonO ops.toList) σ.nx
  have hR1 : HR w0 μ σ.hp (bumpE (canonO ops.toList) σ.nx) { w with drawn := w.drawn + 1 } := (hr.hr.same (w' := { w with drawn := w.drawn + 1 }) rfl rfl rfl rfl).up hle
  have hDI : DI T0 ops.toList (canonO ops.toList) σ.nt σ.tm w0 w0 F rc rd [] (canonO ops.toList) [] (withM σ σ.hp (bumpE (canonO ops.toList) σ.nx)) [] (fun j => (Array.replicate ops.size false).getD j false) a { w with drawn := w.drawn + 1 } μ σ.nx := by
    refine ⟨rfl, rfl, rfl, rfl, fun j hj => ?_, fun x hx => (by cases hx), fun x hx => (by cases hx), fun p hp => (by cases hp), fun q hq => (by cases hq), List.Pairwise.nil, hr.rt, hr.sz, hr.df, hr.fen, hr.rc, hr.rd, ?_⟩
    · exfalso
      have hj : (Array.replicate ops.size false).getD j false = true := hj
      rw [Array.getD_eq_getD_getElem?, Array.getElem?_replicate] at hj
      split at hj <;> cases hj
    · exact ⟨hR1, rfl, fun _ _ h => h, fun _ h => h, fun _ _ _ _ _ h => (by cases h), fun _ _ _ _ _ h => (by cases h), fun _ _ _ _ _ h => (by cases h), fun _ _ _ _ _ _ _ _ _ h => (by cases h), fun _ _ _ _ _ _ _ _ _ _ h => (by cases h), hle, hr.hr.new, fun b hb => (hr.hr.res b hb).2⟩
  obtain ⟨C', rest', vs', σ', pend', nm', wD', g1, g2, g3⟩ := DI.layer hO _ _ _ _ _ _ _ hDI (Nat.le_refl _) h2
  exact drawn_any hT hS hD hO hk ops.size (Array.replicate ops.size false) a _ (by simp) (by unfold cntF; refine Nat.le_trans (List.length_filter_le _ _) (by simp)) C' rest' vs' σ' pend' μ nm' wD' (.refl μ) g1 g2 g3
end Ev
end Go.Proofs.YtpmjneggkccaiaaGreatDoor
