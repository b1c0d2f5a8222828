/- Structs, arrays and slices that are written out; slices that are made. -/
import Derived.Test.YtpmjneggkccaiaaGreatDoorEvG
set_option linter.unusedVariables false
set_option linter.unusedSimpArgs false
namespace Go.Proofs.YtpmjneggkccaiaaGreatDoor
namespace Ev
theorem over0_eq : ∀ (vs cs : List AV), vs.length ≤ cs.length → over0 cs vs = vs ++ cs.drop vs.length
  | [], cs, _ => by show cs = _; simp
  | v :: vs, [], h => by simp at h
  | v :: vs, c :: cs, h => by
    show v :: over0 cs vs = _
    rw [over0_eq vs cs (by simpa using h)]; simp
theorem over_eq : ∀ (o : Nat) (cs vs : List AV), o + vs.length ≤ cs.length → over cs o vs = cs.take o ++ (vs ++ cs.drop (o + vs.length))
  | 0, cs, vs, h => by
    show over0 cs vs = _
    rw [over0_eq vs cs (by omega)]; simp
  | o + 1, [], vs, h => by simp at h
  | o + 1, c :: cs, vs, h => by
    show c :: over cs o vs = _
    rw [over_eq o cs vs (by simp at h; omega), show o + 1 + vs.length = (o + vs.length) + 1 by omega]; simp
theorem foldl_set : ∀ (vs : List Value) (k o : Nat) (arr : Array Value), o + k + vs.length ≤ arr.size →
    ((vs.zipIdx k).foldl (fun cs (p : Value × Nat) => cs.setIfInBounds (o + p.2) p.1) arr).toList = arr.toList.take (o + k) ++ (vs ++ arr.toList.drop (o + k + vs.length))
  | [], k, o, arr, _ => by simp
  | v :: vs, k, o, arr, h => by
    simp only [List.zipIdx_cons, List.foldl_cons]
    rw [foldl_set vs (k + 1) o _ (by simp at h ⊢; omega)]
    simp only [Array.toList_setIfInBounds, List.length_cons] at h ⊢
    have hl : o + k < arr.toList.length := by simp; omega
    rw [show o + (k + 1) = (o + k) + 1 by omega]
    rw [List.take_succ_eq_append_getElem (by simp; omega)]
    simp only [List.getElem_set_self, List.append_assoc, List.cons_append]
    rw [List.take_set_of_le (by omega), List.drop_set_of_lt (by omega)]
    simp [show o + k + 1 + vs.length = o + k + (vs.length + 1) by omega]
/-- Parts of a literal. -/
inductive PV (μ : Mu) : List (Nat × AV) → List (Nat × Value) → Prop
  | nil : PV μ [] []
  | cons {i : Nat} {v : AV} {x : Value} {l : List (Nat × AV)} {m : List (Nat × Value)} : RV μ v x → PV μ l m → PV μ ((i, v) :: l) ((i, x) :: m)
theorem parts_sound {μ : Mu} {tm : T AV} {a : Act} (h : RT μ tm a.tmps) : ∀ {ps : List (Nat × Operand)} {l : List (Nat × AV)}, parts tm ps = some l → PV μ l (ps.map fun p => (p.1, a.eval p.2))
  | [], _, e => by cases e; exact .nil
  | (i, x) :: ps, l, e => by
    obtain ⟨v, h1, h2⟩ := ob_some (x := opnd tm x) e
    obtain ⟨r, h3, h4⟩ := ob_some (x := parts tm ps) h2
    cases h4
    exact .cons (opnd_sound h h1) (parts_sound h h3)
theorem fillA_sound {μ : Mu} {place place' : Nat → Option (Nat × Nat)} (hp : ∀ i q, place i = some q → place' i = some q) : ∀ {l : List (Nat × AV)} {m : List (Nat × Value)} {cs cs' : List AV} {xs : List Value}, PV μ l m → RVs μ cs xs →
    fillA place l cs = some cs' → ∃ xs', Instr.fill place' ⟨xs⟩ m = some ⟨xs'⟩ ∧ RVs μ cs' xs'
  | [], _, cs, cs', xs, .nil, h, e => by cases e; exact ⟨xs, rfl, h⟩
  | (i, v) :: l, _, cs, cs', xs, .cons hv hm, h, e => by
    rename_i x m
    obtain ⟨q, h1, h2⟩ := ob_some (x := place i) e
    obtain ⟨h3, h4⟩ := cb_some h2
    obtain ⟨h5, h6⟩ := cb_some h4
    have h3 : lenN v.cells = q.2 := beq_true h3
    have h5 : q.1 + q.2 ≤ lenN cs := ble_true h5
    rw [lenN_eq] at h3 h5
    have hc := hv.cells
    have hxl := h.length
    have hcl := hc.length
    have h7 : RVs μ (over cs q.1 v.cells) (xs.take q.1 ++ (x.cells.toList ++ xs.drop (q.1 + x.cells.toList.length))) := by
      rw [over_eq q.1 cs v.cells (by omega), hcl]
      exact (h.take _).append (hc.append (h.drop _))
    obtain ⟨xs', g1, g2⟩ := fillA_sound hp hm h7 h6
    refine ⟨xs', ?_, g2⟩
    have hsz : x.cells.size = q.2 := by rw [← Array.length_toList, hcl, h3]
    have e1 : x.cells.zipIdx.foldl (fun cs (c, j) => cs.setIfInBounds (q.1 + j) c) (⟨xs⟩ : Array Value) = ⟨xs.take q.1 ++ (x.cells.toList ++ xs.drop (q.1 + x.cells.toList.length))⟩ := by
      apply Array.ext'
      rw [← Array.foldl_toList, Array.toList_zipIdx]
      have := foldl_set x.cells.toList 0 q.1 ⟨xs⟩ (by simp only [Array.length_toList, hsz]; show q.1 + 0 + q.2 ≤ xs.length; omega)
      simpa using this
    simp only [Instr.fill, hp i q h1]
    rw [if_neg (by simp only [hsz]; show ¬ ((decide (q.2 ≠ q.2) || decide (q.1 + q.2 > xs.length)) = true); simp; omega), e1]
    exact g1
theorem repN_get {α : Type} (l : List α) : ∀ (n j : Nat), j < n * l.length → (repN l n)[j]? = l[j % l.length]?
  | 0, j, h => by simp at h
  | n + 1, j, h => by
    show (appN l (repN l n))[j]? = _
    rw [appN_eq]
    by_cases q : j < l.length
    · rw [List.getElem?_append_left q, Nat.mod_eq_of_lt q]
    · rw [List.getElem?_append_right (by omega), repN_get l n _ (by rw [Nat.add_mul] at h; omega)]
      rw [show j % l.length = (j - l.length) % l.length from by rw [Nat.mod_eq_sub_mod (by omega)]]
theorem repN_len {α : Type} (l : List α) : ∀ n, (repN l n).length = n * l.length
  | 0 => by show ([] : List α).length = _; simp
  | n + 1 => by
    show (appN l (repN l n)).length = _
    rw [appN_eq, List.length_append, repN_len l n, Nat.add_mul]; omega
theorem RVs.rep {μ : Mu} {l : List AV} {xs : List Value} (h : RVs μ l xs) : ∀ n, RVs μ (repN l n) (repN xs n)
  | 0 => .nil
  | n + 1 => by
    show RVs μ (appN l (repN l n)) (appN xs (repN xs n))
    rw [appN_eq, appN_eq]
    exact h.append (h.rep n)
/-- Zero elements, as the model lays them. -/
theorem zeros_eq (z : Array Value) (n : Nat) : ((Array.range (n * z.size)).map (fun i => z[i % z.size]!)) = ⟨repN z.toList n⟩ := by
  apply Array.ext'
  apply List.ext_getElem?
  intro j
  by_cases h : j < n * z.size
  · rw [repN_get _ _ _ (by simpa using h)]
    have hz : 0 < z.size := by
      rcases Nat.eq_zero_or_pos z.size with e | e
      · rw [e] at h; simp at h
      · exact e
    have hm : j % z.size < z.size := Nat.mod_lt _ hz
    simp [h, hm]
  · rw [List.getElem?_eq_none (by simp; omega), List.getElem?_eq_none (by rw [repN_len]; simpa using Nat.le_of_not_lt h)]
end Ev
end Go.Proofs.YtpmjneggkccaiaaGreatDoor
