/- 'append': what the evaluator says of it. -/
import Derived.Test.YtpmjneggkccaiaaGreatDoorEvN
set_option linter.unusedVariables false
set_option linter.unusedSimpArgs false
namespace Go.Proofs.YtpmjneggkccaiaaGreatDoor
namespace Ev
/-- A block is no longer looked at. -/
theorem HR.drop {w0 : Fx} {μ : Mu} {H : T AO} {nx : Bn} {w : World} (h : HR w0 μ H nx w) (b : Bn) : HR w0 μ (H.put b none) nx w := by
  have old : ∀ {c : Bn} {y : AO}, (H.put b none).get c = some y → H.get c = some y := by
    intro c y g
    rw [T.put_get] at g
    split at g
    · cases g
    · exact g
  exact ⟨h.ext, fun c o l g => h.base c o l (old g), fun c o g => h.live c o (old g), fun c c' o o' l l' g g' => h.sep c c' o o' l l' (old g) (old g'), h.new, h.res⟩
/-- A block goes on under another name. -/
theorem HR.move {w0 : Fx} {μ : Mu} {H : T AO} {nx : Bn} {w w' : World} (h : HR w0 μ H nx w) {b : Bn} {o a : AO} {l l' : Loc} (hb : H.get b = some o) (hl : μ b = some l) (hbk : l'.blk = l.blk)
    (e1 : w'.os = w.os) (e2 : w'.tape = w.tape) (e3 : w'.output = w.output) (hs : w'.heap.size = w.heap.size)
    (hk : ∀ i, i ≠ l.blk → w'.heap[i]? = w.heap[i]?) (r : RO (μ.put nx l') l' w' a) : HR w0 (μ.put nx l') ((H.put b none).put nx (some a)) nx.succ w' := by
  have hn : μ nx = none := h.new nx (Nat.le_refl _)
  have old : ∀ {c : Bn} {y : AO}, c ≠ nx → ((H.put b none).put nx (some a)).get c = some y → H.get c = some y ∧ c ≠ b := by
    intro c y hc g
    rw [T.put_get, if_neg hc, T.put_get] at g
    split at g
    · cases g
    · rename_i q; exact ⟨g, q⟩
  have mold : ∀ {c : Bn} {k : Loc}, c ≠ nx → μ.put nx l' c = some k → μ c = some k := fun hc e => by simpa only [Mu.put, if_neg hc] using e
  refine ⟨h.ext.to e1 e2 e3 (fun i _ hs' => hk i (fun e => by rw [e, h.base b o l hb hl] at hs'; cases hs')), fun c y k g e => ?_, fun c x g => ?_, fun c c' x x' k k' g g' hne m m' => ?_, fun c hc => ?_, fun c hc => ?_⟩
  · by_cases q : c = nx
    · subst q; rw [Mu.put_same] at e; cases e; rw [hbk]; exact h.base b o l hb hl
    · exact h.base c y k (old q g).1 (mold q e)
  · by_cases q : c = nx
    · subst q
      rw [T.put_get, if_pos rfl] at g; cases g
      exact ⟨l', Mu.put_same _ _ _, r⟩
    · obtain ⟨g1, g2⟩ := old q g
      obtain ⟨k, m, z⟩ := h.live c x g1
      exact ⟨k, Mu.le_put hn _ _ m, z.keep (Mu.le_put hn) (hk _ (fun e => h.sep c b x o k l g1 hb g2 m hl e))⟩
  · by_cases q : c = nx
    · subst q
      rw [Mu.put_same] at m; cases m
      obtain ⟨g1, g2⟩ := old (Ne.symm hne) g'
      rw [hbk]
      exact h.sep b c' o x' l k' hb g1 (Ne.symm g2) hl (mold (Ne.symm hne) m')
    · obtain ⟨g1, g2⟩ := old q g
      by_cases q' : c' = nx
      · subst q'
        rw [Mu.put_same] at m'; cases m'
        rw [hbk]
        exact h.sep c b x o k l g1 hb g2 (mold q m) hl
      · obtain ⟨g3, _⟩ := old q' g'
        exact h.sep c c' x x' k k' g1 g3 hne (mold q m) (mold q' m')
  · have : c ≠ nx := fun e => by subst e; rw [Bn.toN_succ] at hc; omega
    simp only [Mu.put, if_neg this]
    exact h.new c (by rw [Bn.toN_succ] at hc; omega)
  · obtain ⟨h1, h2⟩ := h.res c hc
    have : c ≠ nx := fun e => by subst e; omega
    simp only [Mu.put, if_neg this]
    exact ⟨h1, by rw [Bn.toN_succ]; omega⟩
/-- A new row, of which only the beginning is known. -/
theorem RO.newX {μ : Mu} {w : World} {t : T AV} {l : List AV} {xs ext : List Value} {n es cap : Nat} {el : TypeId} (h : RVs μ l xs) (hn : n = l.length) (ht : ∀ k, k < n → t.getN k = l[k]?)
    (hc : cap * es ≤ (xs ++ ext).length ∧ n ≤ cap * es) :
    RO μ ⟨w.heap.size, 0, cap⟩ { w with heap := w.heap.push (.cells (xs ++ ext).toArray el (0, 0)) } (.cells t n es el) := by
  have hl := h.length
  refine ⟨(xs ++ ext).toArray, by simp, ?_, ⟨by simpa using hc.1, .inr hc.2⟩, fun i v hi hv => ?_⟩
  · simp [hn, hl]
  · rw [ht i hi] at hv
    obtain ⟨x, hx, hr⟩ := h.get hv
    have hi' : i < xs.length := by omega
    refine ⟨x, ?_, hr⟩
    simp only [Nat.zero_add, List.getElem?_toArray]
    rw [List.getElem?_append_left hi']; exact hx
section
variable {T0 : Tab} {w0 : Fx} {μ : Mu} {σ : AS} {a : Act} {w : World} {o : Oper}
/-- A row is made anew by 'append'. -/
theorem ok_grow {H : T AO} (hR : HR w0 μ H σ.nx w) {r : Result Next} {t : T AV} {l : List AV} {xs ext : List Value} {n nc size : Nat} {el : TypeId}
    (hr : r = .ok (.value (.slice (some ⟨w.heap.size, 0, none⟩) n nc)) { w with drawn := w.drawn + 1, heap := w.heap.push (.cells (xs ++ ext).toArray el (0, 0)) })
    (hl : RVs μ l xs) (hn : l.length = n * size) (ht : ∀ k, k < n * size → t.getN k = l[k]?) (hnc : n ≤ nc) (he : ext.length = (nc - n) * size) :
    OutOk T0 w0 μ w r (.val (.slu σ.nx 0 n 0) (H.put σ.nx (some (.cells t (n * size) size el))) σ.nx.succ) := by
  have hR1 : HR w0 μ H σ.nx { w with drawn := w.drawn + 1 } := hR.same rfl rfl rfl rfl
  have hn0 := hR.new σ.nx (Nat.le_refl _)
  have hxl := hl.length
  have hlen : (xs ++ ext).length = nc * size := by
    rw [List.length_append, hxl, hn, he, ← Nat.add_mul]; congr 1; omega
  refine ⟨_, _, _, .inl hr, Mu.le_put hn0, hR1.alloc (.cells (xs ++ ext).toArray el (0, 0)) _ nc (RO.newX (hl.mono (Mu.le_put hn0)) hn.symm ht ⟨by rw [hlen]; exact Nat.le_refl _, Nat.mul_le_mul_right _ hnc⟩), ?_⟩
  have := RV.slu (μ := μ.put σ.nx ⟨w.heap.size, 0, nc⟩) (b := σ.nx) (off := 0) (len := n) (less := 0) (l := ⟨w.heap.size, 0, nc⟩) (Mu.put_same _ _ _) (by simpa using hnc)
  simpa using this
end
end Ev
end Go.Proofs.YtpmjneggkccaiaaGreatDoor
