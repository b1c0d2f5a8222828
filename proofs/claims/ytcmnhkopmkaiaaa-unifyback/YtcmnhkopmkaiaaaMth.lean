/-
  What matches, with what is known put in, is the same type: in plain Lean.
-/
import Derived.Test.YtcmnhkopmkaiaaaMtp
import Derived.Test.YtcmnhkopmkaiaaaSbw
namespace Go.Proofs.Ytcmnhkopmkaiaaa
open Go.RowKit
mutual
/-- has a type a part of kind 0? -/
def Ty.unk : Ty → Bool
  | .mk k _ _ _ _ _ ks => unkL ks || decide (k = 0)
def unkL : List Ty → Bool
  | [] => false
  | x :: r => x.unk || unkL r
end
theorem unkL_mem {l : List Ty} (h : unkL l = false) : ∀ x ∈ l, x.unk = false := by
  induction l with
  | nil => intro x hx; cases hx
  | cons y r ih =>
    simp only [unkL, Bool.or_eq_false_iff] at h
    intro x hx
    rcases List.mem_cons.1 hx with rfl | hx
    · exact h.1
    · exact ih h.2 x hx
theorem Ty.unk_kids {t : Ty} (h : t.unk = false) : unkL t.kids = false := by
  cases t; simp only [Ty.unk, Bool.or_eq_false_iff] at h; exact h.1
theorem Ty.unk_kind {t : Ty} (h : t.unk = false) : t.kind ≠ 0 := by
  cases t; simp only [Ty.unk, Bool.or_eq_false_iff, decide_eq_false_iff_not] at h; exact h.2
/-- what is known stays -/
def Ext (xs zs : List Ty) : Prop := zs.length = xs.length ∧ ∀ i (h : i < xs.length) (h' : i < zs.length), (xs[i]).kind ≠ 0 → zs[i] = xs[i]
theorem Ext.refl (xs : List Ty) : Ext xs xs := ⟨rfl, fun _ _ _ _ => rfl⟩
theorem Ext.trans {xs ys zs : List Ty} (h : Ext xs ys) (k : Ext ys zs) : Ext xs zs := by
  refine ⟨k.1.trans h.1, fun i hi hi' hn => ?_⟩
  have h1 := h.2 i hi (by rw [h.1]; exact hi) hn
  rw [k.2 i (by rw [h.1]; exact hi) hi' (by rw [h1]; exact hn), h1]
theorem idn_self : ∀ t : Ty, t.idn t = true :=
  Ty.ind fun k nm n f ns ms ks ih => by
    simp only [Ty.idn, decide_true, Bool.true_and, Bool.or_eq_true]
    refine .inr ((idnL_iff ks ks).2 ⟨rfl, fun i h _ => ih _ (List.getElem_mem h)⟩)
mutual
theorem Ty.mt_ext : ∀ (a b : Ty) (xs : List Ty), Ext xs (a.mt b xs).2
  | .mk k nm n f ns ms ks, b, xs => by
    unfold Ty.mt
    split
    · rename_i hc
      split
      · exact Ext.refl xs
      · split
        · rename_i h0
          refine ⟨by simp, fun i hi hi' hn => ?_⟩
          by_cases e : n.toNat = i
          · subst e
            rw [List.getD_eq_getElem?_getD, List.getElem?_eq_getElem hi] at h0
            exact absurd h0 hn
          · simp [e]
        · exact Ext.refl xs
    · split
      · exact mtL_ext ks b.kids xs
      · exact Ext.refl xs
theorem mtL_ext : ∀ (r s xs : List Ty), Ext xs (mtL r s xs).2
  | [], s, xs => by rw [mtL_nil]; exact Ext.refl xs
  | _ :: _, [], xs => by simp only [mtL]; exact Ext.refl xs
  | x :: r, y :: s, xs => by
    rw [mtL_cons]
    split
    · exact (Ty.mt_ext x y xs).trans (mtL_ext r s _)
    · exact Ty.mt_ext x y xs
end
mutual
theorem Ty.mt_back : ∀ (a b : Ty) (xs zs : List Ty), b.unk = false → (a.mt b xs).1 = true → Ext (a.mt b xs).2 zs → (a.sbc zs).idn b = true
  | .mk k nm n f ns ms ks, b, xs, zs => by
    intro hb h1 h2
    have hlen : zs.length = xs.length := h2.1.trans (Ty.mt_len _ _ _)
    unfold Ty.mt at h1 h2
    split at h1
    · rename_i hc
      rw [if_pos hc] at h2
      obtain ⟨rfl, hn, hl⟩ := hc
      have hz : n.toNat < zs.length := by omega
      have hs : Ty.sbc zs (.mk 9 nm n f ns ms ks) = zs[n.toNat] := Ty.sbc_put (q := n.toNat) rfl (by simp only [Ty.n]; omega) hz
      rw [hs]
      split at h1
      · cases h1
      · rename_i ho
        rw [if_neg ho] at h2
        split at h1
        · rename_i h0
          rw [if_pos h0] at h2
          have := h2.2 n.toNat (by simp; exact hl) hz (by simp; exact Ty.unk_kind hb)
          rw [this]
          simp [idn_self]
        · rename_i h0
          rw [if_neg h0] at h2
          rw [List.getD_eq_getElem?_getD, List.getElem?_eq_getElem hl] at h0 h1
          rw [h2.2 n.toNat hl hz h0]
          exact h1
    · rename_i hc
      rw [if_neg hc] at h2
      split at h1
      · rename_i he
        rw [if_pos he] at h2
        obtain ⟨e1, e2, e3, e4, e5, e6, e7⟩ := he
        rw [Ty.sbc_keep (by simp only [Ty.kind, Ty.n]; intro h; exact hc ⟨h.1, h.2.1, by omega⟩)]
        have hL := mtL_back ks b.kids xs zs e7 (Ty.unk_kids hb) h1 h2
        obtain ⟨bk, bnm, bn, bf, bns, bms, bks⟩ := b
        simp only [Ty.kind, Ty.name, Ty.n, Ty.flag, Ty.names, Ty.marks, Ty.kids] at *
        subst e1 e2 e3 e4 e5 e6
        simp only [Ty.idn, decide_true, Bool.true_and, Bool.or_eq_true]
        exact .inr hL
      · cases h1
theorem mtL_back : ∀ (r s xs zs : List Ty), r.length = s.length → unkL s = false → (mtL r s xs).1 = true → Ext (mtL r s xs).2 zs → idnL (r.map (Ty.sbc zs)) s = true
  | [], [], xs, zs => by intro _ _ _ _; simp [idnL]
  | [], _ :: _, xs, zs => by intro h; simp at h
  | _ :: _, [], xs, zs => by intro h; simp at h
  | x :: r, y :: s, xs, zs => by
    intro hl hu h1 h2
    simp only [unkL, Bool.or_eq_false_iff] at hu
    rw [mtL_cons] at h1 h2
    split at h1
    · rename_i hx
      rw [if_pos hx] at h2
      have h3 := Ty.mt_back x y xs zs hu.1 hx ((mtL_ext r s _).trans h2)
      have h4 := mtL_back r s _ zs (by simpa using hl) hu.2 h1 h2
      simp only [List.map_cons, idnL, h3, h4, Bool.and_self]
    · cases h1
end
end Go.Proofs.Ytcmnhkopmkaiaaa

