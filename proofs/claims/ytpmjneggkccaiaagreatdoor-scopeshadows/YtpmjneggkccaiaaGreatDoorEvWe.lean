/- A region whose order is drawn: blocks that are made are looked at; an operation comes up. -/
import Derived.Test.YtpmjneggkccaiaaGreatDoorEvWd
set_option linter.unusedVariables false
set_option linter.unusedSimpArgs false
namespace Go.Proofs.YtpmjneggkccaiaaGreatDoor
namespace Ev
theorem nd_eq {α : Type} {f : α → Nat} : ∀ {l : List α} {x y : α}, (l.map f).Nodup → x ∈ l → y ∈ l → f x = f y → x = y
  | z :: l, x, y, h, hx, hy, e => by
    rw [List.map_cons, List.nodup_cons] at h
    cases hx with
    | head => cases hy with
      | head => rfl
      | tail _ hy => exact absurd (List.mem_map.2 ⟨y, hy, e.symm⟩) h.1
    | tail _ hx => cases hy with
      | head => exact absurd (List.mem_map.2 ⟨x, hx, e⟩) h.1
      | tail _ hy => exact nd_eq h.2 hx hy e
/-- A block need no longer stay as it is. -/
def Fx.wo (F : Fx) (g : Nat) : Fx := { F with k := fun i => if i = g then none else F.k i }
theorem HR.mat {F : Fx} {μ : Mu} {H : T AO} {nx : Bn} {w : World} (h : HR F μ H nx w) {b : Bn} {l : Loc} {obj : Obj} {o : AO} (hl : μ b = some l) (hk : F.k l.blk = some obj) (hb : H.get b = none) (r : RO μ l w o) : HR (F.wo l.blk) μ (H.put b (some o)) nx w := by
  have old : ∀ {c : Bn} {y : AO}, c ≠ b → (H.put b (some o)).get c = some y → H.get c = some y := fun hc g => by rwa [T.put_get, if_neg hc] at g
  refine ⟨⟨h.ext.os, h.ext.tape, h.ext.out, fun i x hx => ?_⟩, fun c y m g e => ?_, fun c y g => ?_, fun c c' y y' m m' g g' hne e e' => ?_, h.new, h.res⟩
  · have hx : (if i = l.blk then none else F.k i) = some x := hx
    split at hx
    · cases hx
    · exact h.ext.kp i x hx
  · show (if m.blk = l.blk then none else F.k m.blk) = none
    by_cases q : c = b
    · subst q; rw [hl] at e; cases e; rw [if_pos rfl]
    · split
      · rfl
      · exact h.base c y m (old q g) e
  · by_cases q : c = b
    · subst q
      rw [T.put_get, if_pos rfl] at g; cases g
      exact ⟨l, hl, r⟩
    · exact h.live c y (old q g)
  · by_cases q : c = b
    · subst q
      rw [hl] at e; cases e
      have := h.base c' y' m' (old (Ne.symm hne) g') e'
      intro z; rw [← z, hk] at this; cases this
    · by_cases q' : c' = b
      · subst q'
        rw [hl] at e'; cases e'
        have := h.base c y m (old q g) e
        intro z; rw [z, hk] at this; cases this
      · exact h.sep c c' y y' m m' (old q g) (old q' g') hne e e'
theorem keepP_mem {mask : Nat} : ∀ {pend : List Pd} {q : Pd}, q ∈ keepP mask pend ↔ q ∈ pend ∧ hasB mask q.dr.i = false
  | [], q => by
    show q ∈ ([] : List Pd) ↔ _
    simp
  | p :: pend, q => by
    show q ∈ tb (hasB mask p.dr.i) (keepP mask pend) (p :: keepP mask pend) ↔ _
    cases hb : hasB mask p.dr.i with
    | true =>
      rw [tb_true, keepP_mem (pend := pend)]
      constructor
      · rintro ⟨h1, h2⟩; exact ⟨List.mem_cons_of_mem _ h1, h2⟩
      · rintro ⟨h1, h2⟩
        cases h1 with
        | head => rw [hb] at h2; cases h2
        | tail _ m => exact ⟨m, h2⟩
    | false =>
      rw [tb_false, List.mem_cons, keepP_mem (pend := pend), List.mem_cons]
      constructor
      · rintro (rfl | ⟨h1, h2⟩)
        · exact ⟨.inl rfl, hb⟩
        · exact ⟨.inr h1, h2⟩
      · rintro ⟨rfl | h1, h2⟩
        · exact .inl rfl
        · exact .inr ⟨h1, h2⟩
theorem keepP_nd {mask : Nat} : ∀ {pend : List Pd}, (pend.map (fun q => q.dr.i)).Nodup → ((keepP mask pend).map (fun q => q.dr.i)).Nodup
  | [], h => h
  | p :: pend, h => by
    rw [List.map_cons, List.nodup_cons] at h
    show ((tb (hasB mask p.dr.i) (keepP mask pend) (p :: keepP mask pend)).map (fun q => q.dr.i)).Nodup
    cases hasB mask p.dr.i with
    | true => exact keepP_nd h.2
    | false =>
      rw [tb_false, List.map_cons, List.nodup_cons]
      refine ⟨fun hin => h.1 ?_, keepP_nd h.2⟩
      obtain ⟨q, h1, h2⟩ := List.mem_map.1 hin
      exact List.mem_map.2 ⟨q, (keepP_mem.1 h1).1, h2⟩
/-- The blocks that were made by what has come up are looked at. -/
theorem mat_sound {w0 wD : Fx} {D : Nat → Bool} {pend : List Pd} {μ : Mu} {H : T AO} {nx nm : Bn} {w : World} (m : Mem w0 wD D pend μ H nx nm w) (nd : (pend.map (fun q => q.dr.i)).Nodup) {mask : Nat}
    (hm : ∀ e tm mk b o, Pd.al e tm mk b o ∈ pend → hasB mask e.i = true → D e.i = true) : ∀ (p' : List Pd), (∀ q ∈ p', q ∈ pend) → (p'.map (fun q => q.dr.i)).Nodup →
    ∃ wD1 : Fx, HR wD1 μ (matE mask p' H) nx w ∧ wD1.w = wD.w ∧ wD1.rs = wD.rs ∧ (∀ i, wD1.k i = wD.k i ∨ (wD1.k i = none ∧ ∃ e tm mk b o l, Pd.al e tm mk b o ∈ p' ∧ hasB mask e.i = true ∧ μ b = some l ∧ l.blk = i)) ∧
      ∀ c, (∀ e tm mk o, Pd.al e tm mk c o ∈ p' → hasB mask e.i = false) → (matE mask p' H).get c = H.get c
  | [], _, _ => ⟨wD, m.hr, rfl, rfl, fun _ => .inl rfl, fun _ _ => rfl⟩
  | p :: p', hsub, hnd => by
    rw [List.map_cons, List.nodup_cons] at hnd
    obtain ⟨wD1, h1, h2, h3, h4, h5⟩ := mat_sound m nd hm p' (fun q hq => hsub q (List.mem_cons_of_mem _ hq)) hnd.2
    have weaken : (matE mask (p :: p') H = matE mask p' H) → (∀ e tm mk b o, p = .al e tm mk b o → hasB mask e.i = false) → ∃ wD1 : Fx, HR wD1 μ (matE mask (p :: p') H) nx w ∧ wD1.w = wD.w ∧ wD1.rs = wD.rs ∧ (∀ i, wD1.k i = wD.k i ∨ (wD1.k i = none ∧ ∃ e tm mk b o l, Pd.al e tm mk b o ∈ p :: p' ∧ hasB mask e.i = true ∧ μ b = some l ∧ l.blk = i)) ∧
      ∀ c, (∀ e tm mk o, Pd.al e tm mk c o ∈ p :: p' → hasB mask e.i = false) → (matE mask (p :: p') H).get c = H.get c := by
      intro e1 _
      rw [e1]
      exact ⟨wD1, h1, h2, h3, fun i => (h4 i).imp id fun ⟨z, e, tm, mk, b, o, l, y1, y2⟩ => ⟨z, e, tm, mk, b, o, l, List.mem_cons_of_mem _ y1, y2⟩, fun c hc => h5 c (fun e tm mk o hin => hc e tm mk o (List.mem_cons_of_mem _ hin))⟩
    cases p with
    | sk e tm => exact weaken rfl (fun _ _ _ _ _ h => by cases h)
    | rd e tm v => exact weaken rfl (fun _ _ _ _ _ h => by cases h)
    | al e tm mk b o =>
      have e1 : matE mask (.al e tm mk b o :: p') H = tb (hasB mask e.i) ((matE mask p' H).put b (some o)) (matE mask p' H) := rfl
      cases hb : hasB mask e.i with
      | false => rw [hb] at e1; exact weaken e1 (fun _ _ _ _ _ h => by cases h; exact hb)
      | true =>
        rw [hb, tb_true] at e1
        rw [e1]
        have hin := hsub _ (List.mem_cons_self ..)
        have hD := hm e tm mk b o hin hb
        obtain ⟨l, obj, l1, l2, l3, l4⟩ := m.yes e tm mk b o hin hD
        have other : ∀ e' tm' mk' o', Pd.al e' tm' mk' b o' ∈ p' → False := fun e' tm' mk' o' h => by
          have := (m.uq _ _ _ _ _ _ _ _ _ hin (hsub _ (List.mem_cons_of_mem _ h))).1
          exact hnd.1 (List.mem_map.2 ⟨_, h, this.symm⟩)
        have hk : wD1.k l.blk = some obj := by
          rcases h4 l.blk with q | ⟨_, e', tm', mk', b', o', l', y1, y2, y3, y4⟩
          · rw [q]; exact l2
          · by_cases hbb : b = b'
            · subst hbb; exact (other _ _ _ _ y1).elim
            · exact absurd y4.symm (m.bq _ _ _ _ _ _ _ _ _ _ hin (hsub _ (List.mem_cons_of_mem _ y1)) hbb hD (hm _ _ _ _ _ (hsub _ (List.mem_cons_of_mem _ y1)) y2) l l' l1 y3)
        have hg : (matE mask p' H).get b = none := by
          rw [h5 b (fun e' tm' mk' o' h => (other _ _ _ _ h).elim)]
          exact (m.fr e tm mk b o hin).2.1
        have hkp := m.hr.ext.kp l.blk obj l2
        refine ⟨wD1.wo l.blk, h1.mat l1 hk hg (l4 w μ (.refl μ) hkp), h2, h3, fun i => ?_, fun c hc => ?_⟩
        · by_cases q : i = l.blk
          · exact .inr ⟨by show (if i = l.blk then none else _) = _; rw [if_pos q], e, tm, mk, b, o, l, List.mem_cons_self .., hb, l1, q.symm⟩
          · rcases h4 i with z | ⟨z, e', tm', mk', b', o', l', y1, y2⟩
            · exact .inl (by show (if i = l.blk then none else _) = _; rw [if_neg q]; exact z)
            · exact .inr ⟨by show (if i = l.blk then none else _) = _; rw [if_neg q]; exact z, e', tm', mk', b', o', l', List.mem_cons_of_mem _ y1, y2⟩
        · have hcb : c ≠ b := fun q => by subst q; have := hc e tm mk o (List.mem_cons_self ..); rw [hb] at this; cases this
          rw [T.put_get, if_neg hcb]
          exact h5 c (fun e' tm' mk' o' h => hc e' tm' mk' o' (List.mem_cons_of_mem _ h))
theorem Mem.mat {w0 wD : Fx} {D : Nat → Bool} {pend : List Pd} {μ : Mu} {H : T AO} {nx nm : Bn} {w : World} (m : Mem w0 wD D pend μ H nx nm w) (nd : (pend.map (fun q => q.dr.i)).Nodup) {mask : Nat}
    (hm : ∀ e tm mk b o, Pd.al e tm mk b o ∈ pend → hasB mask e.i = true → D e.i = true) : ∃ wD1, Mem w0 wD1 D (keepP mask pend) μ (matE mask pend H) nx nm w := by
  obtain ⟨wD1, h1, h2, h3, h4, h5⟩ := mat_sound m nd hm pend (fun q hq => hq) nd
  have sub : ∀ {e tm mk b o}, Pd.al e tm mk b o ∈ keepP mask pend → Pd.al e tm mk b o ∈ pend ∧ hasB mask e.i = false := fun {e tm mk b o} hin => keepP_mem.1 hin
  refine ⟨wD1, h1, h2.trans m.wE, fun i o hi => ?_, fun b hb => by rw [h3]; exact m.rE b hb, fun e tm mk b o hin hd => by rw [h3]; exact m.no e tm mk b o (sub hin).1 hd, fun e tm mk b o hin hd => ?_, fun e tm mk b o hin => ?_,
    fun e tm mk b o e' tm' mk' o' i1 i2 => m.uq _ _ _ _ _ _ _ _ _ (sub i1).1 (sub i2).1, fun e tm mk b o e' tm' mk' b' o' i1 i2 => m.bq _ _ _ _ _ _ _ _ _ _ (sub i1).1 (sub i2).1, m.nmx, m.nmf, m.rlt⟩
  · rcases h4 i with q | ⟨_, e, tm, mk, b, o', l, y1, y2, y3, y4⟩
    · rw [q]; exact m.kE i o hi
    · obtain ⟨l', obj, z1, z2, z3, _⟩ := m.yes e tm mk b o' y1 (hm _ _ _ _ _ y1 y2)
      rw [y3] at z1; cases z1
      rw [y4, hi] at z3; cases z3
  · obtain ⟨s1, s2⟩ := sub hin
    obtain ⟨l, obj, z1, z2, z3, z4⟩ := m.yes e tm mk b o s1 hd
    refine ⟨l, obj, z1, ?_, z3, z4⟩
    rcases h4 l.blk with q | ⟨_, e', tm', mk', b', o', l', y1, y2, y3, y4⟩
    · rw [q]; exact z2
    · by_cases hbb : b = b'
      · subst hbb
        have := (m.uq _ _ _ _ _ _ _ _ _ s1 y1).1
        rw [this, y2] at s2; cases s2
      · exact absurd y4.symm (m.bq _ _ _ _ _ _ _ _ _ _ s1 y1 hbb hd (hm _ _ _ _ _ y1 y2) l l' z1 y3)
  · obtain ⟨s1, s2⟩ := sub hin
    obtain ⟨f1, f2, f3⟩ := m.fr e tm mk b o s1
    refine ⟨f1, ?_, f3⟩
    rw [h5 b (fun e' tm' mk' o' y1 => ?_)]
    · exact f2
    · have := (m.uq _ _ _ _ _ _ _ _ _ s1 y1).1
      rw [← this]; exact s2
end Ev
end Go.Proofs.YtpmjneggkccaiaaGreatDoor
