/-
  Sorted edits, path by path: what the next path's edits are, and what making them does to the files.
-/
import Derived.Test.YtbgkdofjndocfabGroup
namespace Go.Proofs.Ytbgkdofjndocfab
open Go.RowKit Go.Maps
theorem idx_spec (p : Ed → Bool) : ∀ (l : List Ed) (i : Nat), (Lib.idxByFrom (fun _ y => p y) default l i = -1 ∧ ∀ j, j < l.length → p (l.getD j default) = false) ∨ ∃ k, k < l.length ∧ Lib.idxByFrom (fun _ y => p y) default l i = ((i + k : Nat) : Int) ∧ p (l.getD k default) = true ∧ ∀ j, j < k → p (l.getD j default) = false
  | [], i => .inl ⟨rfl, fun j hj => by simp at hj⟩
  | x :: r, i => by
    cases hx : p x
    · rcases idx_spec p r (i + 1) with ⟨h1, h2⟩ | ⟨k, hk, h1, h2, h3⟩
      · refine .inl ⟨by simp [Lib.idxByFrom, hx, h1], fun j hj => ?_⟩
        match j, hj with
        | 0, _ => exact hx
        | j + 1, hj => exact h2 j (by simpa using hj)
      · refine .inr ⟨k + 1, by simpa using hk, by simp [Lib.idxByFrom, hx, h1]; omega, h2, fun j hj => ?_⟩
        match j, hj with
        | 0, _ => exact hx
        | j + 1, hj => exact h3 j (by omega)
    · exact .inr ⟨0, by simp, by simp [Lib.idxByFrom, hx], hx, fun j hj => by omega⟩
theorem ofOne_spec (zs : List Ed) (h0 : 0 < zs.length) : ∃ m : Nat, ofOne zs = m ∧ 1 ≤ m ∧ m ≤ zs.length ∧ (∀ j, j < m → (zs.getD j default).1 = (zs.getD 0 default).1) ∧ (m < zs.length → (zs.getD m default).1 ≠ (zs.getD 0 default).1) := by
  have e0 : zs[0]! = zs.getD 0 default := by simp [List.getD_eq_getElem?_getD, h0]
  have hP : ∀ x, othP zs[0]!.1 x = false ↔ x.1 = (zs.getD 0 default).1 := fun x => by
    unfold othP
    rw [e0]
    constructor
    · intro h; exact toList_inj (by simpa using h)
    · intro h; rw [h]; simp
  have hP' : ∀ x, othP zs[0]!.1 x = true → x.1 ≠ (zs.getD 0 default).1 := fun x h e => by rw [(hP x).2 e] at h; cases h
  unfold ofOne Lib.idxBy
  rcases idx_spec (othP zs[0]!.1) zs 0 with ⟨h1, h2⟩ | ⟨k, hk, h1, h2, h3⟩
  · rw [h1]
    exact ⟨zs.length, by simp, h0, Nat.le_refl _, fun j hj => (hP _).1 (h2 j hj), fun h => by omega⟩
  · rw [h1]
    have hk0 : k ≠ 0 := by
      rintro rfl
      exact hP' _ h2 rfl
    exact ⟨k, by rw [if_neg (by omega)]; simp, by omega, by omega, fun j hj => (hP _).1 (h3 j hj), fun _ => hP' _ h2⟩
theorem drop_getD' (out : List Ed) (c j : Nat) : (out.drop c).getD j default = out.getD (c + j) default := by
  simp [List.getD_eq_getElem?_getD]
theorem mem_getD {l : List Ed} {x : Ed} (h : x ∈ l) : ∃ j, j < l.length ∧ l.getD j default = x := by
  obtain ⟨j, hj, e⟩ := List.getElem_of_mem h
  exact ⟨j, hj, by simp [List.getD_eq_getElem?_getD, hj, e]⟩
structure Grp (out : List Ed) (c m : Nat) (P : ByteArray) : Prop where
  pos : 1 ≤ m
  le : c + m ≤ out.length
  same : ∀ j, j < m → (out.getD (c + j) default).1 = P
  next : c + m < out.length → (out.getD (c + m) default).1 ≠ P
def Sep (out : List Ed) (c : Nat) : Prop := ∀ x ∈ out.take c, ∀ y ∈ out.drop c, x.1 ≠ y.1
theorem grp_of (out : List Ed) (c : Nat) (hc : c < out.length) : ∃ m : Nat, ofOne (out.drop c) = m ∧ Grp out c m (out.getD c default).1 := by
  obtain ⟨m, h1, h2, h3, h4, h5⟩ := ofOne_spec (out.drop c) (by simp; omega)
  simp only [drop_getD', Nat.add_zero, List.length_drop] at h3 h4 h5
  exact ⟨m, h1, h2, by omega, h4, fun h => h5 (by omega)⟩
theorem Grp.mem {out : List Ed} {c m : Nat} {P : ByteArray} (h : Grp out c m P) {x : Ed} (hx : x ∈ (out.drop c).take m) : x.1 = P := by
  obtain ⟨j, hj, e⟩ := mem_getD hx
  simp at hj
  have := h.same j (by omega)
  rw [← drop_getD'] at this
  rw [← e]
  simpa [List.getD_eq_getElem?_getD, List.getElem?_take, (by omega : j < m)] using this
theorem Grp.after {l out : List Ed} {c m : Nat} {P : ByteArray} (h : Grp out c m P) (hs : Srt l out) {y : Ed} (hy : y ∈ out.drop (c + m)) : y.1 ≠ P := by
  obtain ⟨j, hj, e⟩ := mem_getD hy
  simp at hj
  rw [drop_getD'] at e
  have hn := h.next (by omega)
  rcases Nat.eq_zero_or_pos j with rfl | hj0
  · rw [← e]; exact hn
  · have hx := h.same 0 h.pos
    have h0 := h.pos
    have a1 := pw_getD out hs.pw (c + 0) (c + m) (by omega) (by omega)
    have a2 := pw_getD out hs.pw (c + m) (c + m + j) (by omega) (by omega)
    rw [e] at a2
    intro hyP
    rcases a1 with a1 | a1
    · rw [hx] at a1
      rcases a2 with a2 | a2
      · rw [hyP, bl_asymm a1] at a2; cases a2
      · exact hn (a2.1.trans hyP)
    · exact hn (a1.1.symm.trans hx)
theorem Sep.grp {l out : List Ed} {c m : Nat} {P : ByteArray} (hg : Grp out c m P) (hs : Srt l out) (h : Sep out c) : Sep out (c + m) := by
  intro x hx y hy
  rw [List.take_add] at hx
  rcases List.mem_append.1 hx with hx | hx
  · refine h x hx y ?_
    rw [← List.drop_drop] at hy
    exact List.mem_of_mem_drop hy
  · rw [hg.mem hx]
    exact fun e => hg.after hs hy e.symm
theorem ofP_app (p : ByteArray) (a b : List Ed) : ofP p (a ++ b) = ofP p a ++ ofP p b := by simp [ofP]
theorem ofP_none {p : ByteArray} {a : List Ed} (h : ∀ x ∈ a, x.1 ≠ p) : ofP p a = [] := by
  unfold ofP
  rw [List.filter_eq_nil_iff]
  intro x hx hb
  exact h x hx (toList_inj (by simpa using hb))
theorem ofP_all {p : ByteArray} {a : List Ed} (h : ∀ x ∈ a, x.1 = p) : ofP p a = a := by
  unfold ofP
  rw [List.filter_eq_self]
  intro x hx
  rw [h x hx]; simp
theorem ofP_here {out : List Ed} {c m : Nat} {P : ByteArray} (hc : c < out.length) (hP : (out.getD c default).1 = P) (hg : Grp out c m P) (h : Sep out c) : ofP P (out.take (c + m)) = (out.drop c).take m := by
  rw [List.take_add, ofP_app, ofP_all fun x hx => hg.mem hx, ofP_none fun x hx => ?_, List.nil_append]
  have := h x hx (out.getD c default) (by rw [drop_getD out c hc]; simp)
  rwa [hP] at this
theorem ofP_else {out : List Ed} {c m : Nat} {P Q : ByteArray} (hg : Grp out c m P) (hne : Q ≠ P) : ofP Q (out.take (c + m)) = ofP Q (out.take c) := by
  rw [List.take_add, ofP_app, ofP_none (a := (out.drop c).take m) fun x hx => by rw [hg.mem hx]; exact hne.symm, List.append_nil]
theorem map_step {out : List Ed} {c m i : Nat} {P : ByteArray} {fs : List Fi} (hc : c < out.length) (hP : (out.getD c default).1 = P) (hg : Grp out c m P) (h : Sep out c) (ha : Apart fs fs.length) (hi : i < fs.length) (hf : (fs.getD i default).1 = P) :
    fs.map (newF (out.take (c + m))) = (fs.map (newF (out.take c))).set i (P, ⟨(repL (fs.getD i default).2.data.toList 0 ((out.drop c).take m)).toArray⟩) := by
  apply List.ext_getElem?
  intro k
  rw [List.getElem?_set, List.getElem?_map, List.getElem?_map]
  by_cases hk : i = k
  · subst hk
    have e : fs[i]? = some (fs.getD i default) := by simp [List.getD_eq_getElem?_getD, hi]
    rw [if_pos rfl, if_pos (by simpa using hi), e]
    simp only [Option.map_some, newF]
    rw [hf, ofP_here hc hP hg h]
  · rw [if_neg hk]
    rcases Nat.lt_or_ge k fs.length with hkl | hkl
    · have e : fs[k]? = some (fs.getD k default) := by simp [List.getD_eq_getElem?_getD, hkl]
      rw [e]
      simp only [Option.map_some, newF]
      have hne : (fs.getD k default).1 ≠ P := by
        rw [← hf]
        rcases Nat.lt_or_gt_of_ne hk with h1 | h1
        · exact (ha i k h1 hkl).symm
        · exact ha k i h1 hi
      rw [ofP_else hg hne]
    · rw [List.getElem?_eq_none hkl]; rfl
theorem Grp.fits {l out : List Ed} {c m : Nat} {P : ByteArray} (hg : Grp out c m P) (hs : Srt l out) {z : Int} (hl : (out.getD (c + (m - 1)) default).2.2.1 ≤ z) : ∀ j, j < m → (out.getD (c + j) default).2.2.1 ≤ z := by
  intro j hj
  have h1 := hg.pos
  have h2 := hg.le
  rcases Nat.lt_or_ge j (m - 1) with h | h
  · rcases pw_getD out hs.pw (c + j) (c + (m - 1)) (by omega) (by omega) with a | a
    · rw [hg.same j hj, hg.same (m - 1) (by omega), bl_irrefl] at a; cases a
    · have := (hs.good.1 _ ((hs.mem _).1 (getD_mem out (c + (m - 1)) (by omega)))).2
      omega
  · obtain rfl : j = m - 1 := by omega
    exact hl
theorem map_nil_new (fs : List Fi) : fs.map (newF []) = fs := by
  rw [List.map_congr_left (g := id)]
  · simp
  · intro f _
    simp [newF, ofP, repL]
end Go.Proofs.Ytbgkdofjndocfab
