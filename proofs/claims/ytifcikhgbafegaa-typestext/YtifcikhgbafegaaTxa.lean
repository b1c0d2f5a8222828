/-
  The document's Text and sig, walked: every type that is shaped and small.
-/
import Derived.Test.YtifcikhgbafegaaTxs
import Derived.Test.YtifcikhgbafegaaSbp
namespace Go.Proofs.Ytifcikhgbafegaa
open Go.RowKit
theorem wtL_mem : ∀ {ks : List Ty} {x : Ty}, x ∈ ks → x.wt ≤ wtL ks
  | y :: r, x, h => by
    rcases List.mem_cons.1 h with rfl | h
    · simp only [wtL]; omega
    · have := wtL_mem h
      simp only [wtL]; omega
theorem rtext_all : ∀ t : Ty, Shp t → Sml t → t.wt ≤ 50000000 → TxC t t.txt ∧ (t.kind = 13 → SgC t t.sgt) :=
  Ty.ind fun k nm n f ns ms ks ih hs hm hw => by
    have hs2 : ks.length ≤ 1000 ∧ ∀ x ∈ ks, Sml x := by cases hm with | mk _ h1 h2 => exact ⟨h1, h2⟩
    have hkd : ∀ x ∈ ks, Shp x := hs.kids
    have hhd := hs.hd
    obtain ⟨w1, w2⟩ := wtL_sum ks (fun x _ => txt_len x)
    have hf1 := fldS_len (ns.map LB) ms (txtL ks)
    have hf2 := fldI_len (ns.map LB) (sgL ks)
    have htl := txtL_len ks
    have hsl := sgL_len ks
    simp only [Ty.wt] at hw
    have hx : ∀ x ∈ ks, TxC x x.txt ∧ (x.kind = 13 → SgC x x.sgt) := fun x hx => ih x hx (hkd x hx) (hs2.2 x hx) (by have := wtL_mem hx; omega)
    have hT : ∀ i (h : i < ks.length) (h' : i < (txtL ks).length), TxC ks[i] (txtL ks)[i] := fun i h h' => by
      rw [txtL_get ks i h h']; exact (hx _ (List.getElem_mem _)).1
    have hsg : k = 13 → SgC (.mk k nm n f ns ms ks) (sgB n.toNat f (kdL ks) (txtL ks)) := fun e => by
      obtain ⟨h1, h2, _⟩ := hhd.fn e
      simp only [Ty.n, Ty.kids] at h1 h2
      obtain ⟨q, rfl⟩ : ∃ q : Nat, n = (q : Int) := ⟨n.toNat, by omega⟩
      exact rsig_of k nm q f ns ms ks (by omega) hs2.1 hT (by omega)
    refine ⟨?_, fun e => by simpa only [Ty.sgt] using hsg e⟩
    by_cases c14 : k = 14
    · subst c14
      exact rtext_str nm n f ns ms ks hs2.1 (by simpa [Ty.names, Ty.kids] using (hhd.str rfl).1) hT (by omega)
    by_cases c15 : k = 15
    · subst c15
      refine rtext_itf nm n f ns ms ks hs2.1 (by simpa [Ty.names, Ty.kids] using (hhd.ifc rfl).1) (fun i h h' => ?_) (by omega)
      rw [sgL_get ks i h h']
      exact (hx _ (List.getElem_mem _)).2 ((hhd.ifc rfl).2 _ (List.getElem_mem _))
    exact rtext_low k nm n f ns ms ks c14 c15 hhd hs2.1 hT hsg (by omega)
end Go.Proofs.Ytifcikhgbafegaa
