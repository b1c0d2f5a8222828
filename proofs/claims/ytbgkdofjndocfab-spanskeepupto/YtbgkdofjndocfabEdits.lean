/-
  Edits in plain words: their order is a strict weak order; which edits may stand together; the one sorted list of them; what a sorted row, compacted, tells; what inserting one more does.
-/
import Derived.Test.YtbgkdofjndocfabWalkB
import Derived.Sort.Walk0
namespace Go.Proofs.Ytbgkdofjndocfab
open Go.Sort Go.Shelf Go.Lib
theorem toList_inj {a b : ByteArray} (h : a.toList = b.toList) : a = b := by
  rw [Lib.toList_data, Lib.toList_data] at h
  cases a; cases b
  simpa using h
theorem bl_irrefl (a : ByteArray) : Op.bytesLess a.toList a.toList = false := by
  rw [bytesLess_eq]; exact decide_eq_false (List.lt_irrefl _)
theorem bl_trans {a b c : ByteArray} (h : Op.bytesLess a.toList b.toList = true) (h2 : Op.bytesLess b.toList c.toList = true) : Op.bytesLess a.toList c.toList = true := by
  rw [bytesLess_eq] at *; exact decide_eq_true (List.lt_trans (of_decide_eq_true h) (of_decide_eq_true h2))
theorem bl_tri {a b : ByteArray} (h : Op.bytesLess a.toList b.toList = false) (h2 : Op.bytesLess b.toList a.toList = false) : a = b := by
  rw [bytesLess_eq] at *
  exact toList_inj (List.le_antisymm (List.not_lt.1 (of_decide_eq_false h2)) (List.not_lt.1 (of_decide_eq_false h)))
theorem bl_asymm {a b : ByteArray} (h : Op.bytesLess a.toList b.toList = true) : Op.bytesLess b.toList a.toList = false := by
  cases h2 : Op.bytesLess b.toList a.toList
  · rfl
  · have := bl_trans h h2
    rw [bl_irrefl] at this
    cases this
/-- The order of edits by path, From and To. -/
def KL (x y : Ed) : Prop := Op.bytesLess x.1.toList y.1.toList = true ∨ (x.1 = y.1 ∧ (x.2.1 < y.2.1 ∨ x.2.1 = y.2.1 ∧ x.2.2.1 < y.2.2.1))
theorem cfE_lt (x y : Ed) : cfE x y < 0 ↔ KL x y := by
  unfold cfE inOrd orI cmpS cmpI KL
  obtain ⟨p, a, b, t⟩ := x
  obtain ⟨p', a', b', t'⟩ := y
  simp only
  by_cases h : Op.bytesLess p.toList p'.toList = true
  · simp [h]
  · by_cases he : p = p'
    · subst he
      simp [h]
      by_cases h1 : a < a'
      · simp [h1]
      · by_cases h2 : a' < a
        · simp [h1, h2]; omega
        · have : a = a' := by omega
          subst this
          simp
          by_cases h3 : b < b'
          · simp [h3]
          · by_cases h4 : b' < b <;> simp [h3, h4]
    · have hn : ¬ p.toList = p'.toList := fun e => he (toList_inj e)
      simp [h, he, hn]
theorem kl_irrefl (x : Ed) : ¬ KL x x := by
  rintro (h | ⟨_, h | h⟩)
  · rw [bl_irrefl] at h; cases h
  · omega
  · omega
theorem kl_trans {x y z : Ed} (h : KL x y) (h2 : KL y z) : KL x z := by
  rcases h with h | ⟨e, h⟩
  · rcases h2 with h2 | ⟨e2, h2⟩
    · exact .inl (bl_trans h h2)
    · exact .inl (e2 ▸ h)
  · rcases h2 with h2 | ⟨e2, h2⟩
    · exact .inl (by rw [e]; exact h2)
    · exact .inr ⟨e.trans e2, by omega⟩
theorem kl_tri (x y : Ed) : KL x y ∨ KL y x ∨ (x.1 = y.1 ∧ x.2.1 = y.2.1 ∧ x.2.2.1 = y.2.2.1) := by
  unfold KL
  cases h1 : Op.bytesLess x.1.toList y.1.toList
  · cases h2 : Op.bytesLess y.1.toList x.1.toList
    · have he := bl_tri h1 h2
      rw [he]
      simp
      omega
    · simp
  · simp
theorem swoE : SWO (ltOf cfE) where
  irrefl x := decide_eq_false fun h => kl_irrefl x ((cfE_lt x x).1 h)
  trans x y z h1 h2 := decide_eq_true ((cfE_lt x z).2 (kl_trans ((cfE_lt x y).1 (of_decide_eq_true h1)) ((cfE_lt y z).1 (of_decide_eq_true h2))))
  ntrans x y z h1 h2 := by
    have k1 : ¬ KL x y := fun h => of_decide_eq_false h1 ((cfE_lt x y).2 h)
    have k2 : ¬ KL y z := fun h => of_decide_eq_false h2 ((cfE_lt y z).2 h)
    refine decide_eq_false fun h => ?_
    have k3 := (cfE_lt x z).1 h
    rcases kl_tri x y with h | h | ⟨e1, e2, e3⟩
    · exact k1 h
    · exact k2 (kl_trans h k3)
    · apply k2
      unfold KL at k3 ⊢
      rw [← e1, ← e2, ← e3]
      exact k3
/-- An edit ahead of another one, sharing nothing with it. -/
def AH (x y : Ed) : Prop := Op.bytesLess x.1.toList y.1.toList = true ∨ (x.1 = y.1 ∧ x.2.1 < y.2.1 ∧ x.2.2.1 ≤ y.2.1)
def okSp (x : Ed) : Prop := 0 ≤ x.2.1 ∧ x.2.1 ≤ x.2.2.1
theorem noSp_ok (x : Ed) : noSp x.2.1 x.2.2.1 = false ↔ okSp x := by unfold noSp okSp; simp
theorem ah_irrefl (x : Ed) : ¬ AH x x := by
  rintro (h | ⟨_, h⟩)
  · rw [bl_irrefl] at h; cases h
  · omega
theorem ah_trans {x y z : Ed} (hy : okSp y) (h : AH x y) (h2 : AH y z) : AH x z := by
  have := hy.2
  rcases h with h | ⟨e, h⟩
  · rcases h2 with h2 | ⟨e2, h2⟩
    · exact .inl (bl_trans h h2)
    · exact .inl (e2 ▸ h)
  · rcases h2 with h2 | ⟨e2, h2⟩
    · exact .inl (by rw [e]; exact h2)
    · exact .inr ⟨e.trans e2, by omega⟩
theorem ah_asymm {x y : Ed} (h : AH x y) (h2 : AH y x) : False := by
  rcases h with h | ⟨e, h⟩
  · rcases h2 with h2 | ⟨e2, h2⟩
    · rw [bl_asymm h] at h2; cases h2
    · rw [e2, bl_irrefl] at h; cases h
  · rcases h2 with h2 | ⟨e2, h2⟩
    · rw [e, bl_irrefl] at h2; cases h2
    · omega
theorem ah_kl {x y : Ed} (h : AH x y) : KL x y := by
  rcases h with h | ⟨e, h⟩
  · exact .inl h
  · exact .inr ⟨e, .inl h.1⟩
/-- The document's clash of two edits of one path. -/
def clR (x y : Ed) : Bool :=
  if x.2.1 = x.2.2.1 ∧ y.2.1 = y.2.2.1 then decide (x.2.1 = y.2.1)
  else if x.2.1 = x.2.2.1 then decide (y.2.1 ≤ x.2.1) && decide (x.2.1 < y.2.2.1)
  else if y.2.1 = y.2.2.1 then decide (x.2.1 ≤ y.2.1) && decide (y.2.1 < x.2.2.1)
  else decide (x.2.1 < y.2.2.1) && decide (y.2.1 < x.2.2.1)
theorem ah_clR {x y : Ed} (_hx : okSp x) (_hy : okSp y) (h : AH x y) (e : x.1 = y.1) : clR x y = false ∧ clR y x = false := by
  rcases h with h | ⟨_, h⟩
  · rw [e, bl_irrefl] at h; cases h
  · unfold clR
    unfold okSp at *
    constructor <;> (repeat' split) <;> simp <;> omega
theorem clR_ah {x y : Ed} (hx : okSp x) (hy : okSp y) (h : ¬ (x.1 = y.1 ∧ clR x y = true)) : AH x y ∨ AH y x := by
  unfold AH
  cases h1 : Op.bytesLess x.1.toList y.1.toList
  · cases h2 : Op.bytesLess y.1.toList x.1.toList
    · have he := bl_tri h1 h2
      have hc : clR x y = false := by simpa [he] using h
      unfold clR at hc
      unfold okSp at *
      rw [he]
      simp
      revert hc
      (repeat' split) <;> simp <;> omega
    · simp
  · simp
/-- Edits that may stand together. -/
def Good (l : List Ed) : Prop := (∀ x ∈ l, okSp x) ∧ ∀ x ∈ l, ∀ y ∈ l, x ≠ y → ¬ (x.1 = y.1 ∧ clR x y = true)
structure Srt (l out : List Ed) : Prop where
  good : Good l
  pw : out.Pairwise AH
  mem : ∀ x, x ∈ out ↔ x ∈ l
theorem pw_unique : ∀ (a b : List Ed), a.Pairwise AH → b.Pairwise AH → (∀ x, x ∈ a ↔ x ∈ b) → a = b
  | [], [], _, _, _ => rfl
  | [], y :: b, _, _, h => absurd ((h y).2 (by simp)) (by simp)
  | x :: a, [], _, _, h => absurd ((h x).1 (by simp)) (by simp)
  | x :: a, y :: b, ha, hb, h => by
    rw [List.pairwise_cons] at ha hb
    have hxy : x = y := by
      rcases List.mem_cons.1 ((h x).1 (by simp)) with e | hx
      · exact e
      · rcases List.mem_cons.1 ((h y).2 (by simp)) with e | hy
        · exact e.symm
        · exact (ah_asymm (ha.1 _ hy) (hb.1 _ hx)).elim
    subst hxy
    congr 1
    refine pw_unique a b ha.2 hb.2 fun z => ⟨fun hz => ?_, fun hz => ?_⟩
    · rcases List.mem_cons.1 ((h z).1 (by simp [hz])) with e | hx
      · subst e; exact (ah_irrefl _ (ha.1 _ hz)).elim
      · exact hx
    · rcases List.mem_cons.1 ((h z).2 (by simp [hz])) with e | hx
      · subst e; exact (ah_irrefl _ (hb.1 _ hz)).elim
      · exact hx
theorem Srt.unique {l a b : List Ed} (h : Srt l a) (h2 : Srt l b) : a = b := pw_unique a b h.pw h2.pw fun x => (h.mem x).trans (h2.mem x).symm
theorem eqE_iff (x y : Ed) : eqE x y = true ↔ x = y := by
  obtain ⟨p, a, b, t⟩ := x
  obtain ⟨p', a', b', t'⟩ := y
  unfold eqE
  simp only [Bool.and_eq_true, beq_iff_eq, Prod.mk.injEq]
  constructor
  · rintro ⟨⟨⟨h1, h2⟩, h3⟩, h4⟩
    exact ⟨toList_inj h1, h2, h3, toList_inj h4⟩
  · rintro ⟨rfl, rfl, rfl, rfl⟩
    simp
/-- The first k of d, each run of equal ones once. -/
def cm (d : List Ed) : Nat → List Ed
  | 0 => []
  | k + 1 => if 0 < k ∧ d.getD k default = d.getD (k - 1) default then cm d k else cm d k ++ [d.getD k default]
theorem cm_mem (d : List Ed) : ∀ k x, x ∈ cm d k ↔ ∃ j, j < k ∧ d.getD j default = x
  | 0, x => by simp [cm]
  | k + 1, x => by
    rw [cm]
    split
    · rename_i h
      rw [cm_mem d k x]
      constructor
      · rintro ⟨j, hj, e⟩; exact ⟨j, by omega, e⟩
      · rintro ⟨j, hj, e⟩
        rcases Nat.lt_or_ge j k with h1 | h1
        · exact ⟨j, h1, e⟩
        · obtain rfl : j = k := by omega
          exact ⟨j - 1, by omega, by rw [← h.2]; exact e⟩
    · rw [List.mem_append, cm_mem d k x]
      constructor
      · rintro (⟨j, hj, e⟩ | h)
        · exact ⟨j, by omega, e⟩
        · exact ⟨k, by omega, (List.mem_singleton.1 h).symm⟩
      · rintro ⟨j, hj, e⟩
        rcases Nat.lt_or_ge j k with h1 | h1
        · exact .inl ⟨j, h1, e⟩
        · obtain rfl : j = k := by omega
          exact .inr (List.mem_singleton.2 e.symm)
theorem cm_le (d : List Ed) : ∀ k, (cm d k).length ≤ k
  | 0 => by simp [cm]
  | k + 1 => by
    have := cm_le d k
    rw [cm]
    split <;> simp <;> omega
theorem cm_last (d : List Ed) : ∀ k, (cm d (k + 1)).getLast? = some (d.getD k default)
  | 0 => by simp [cm]
  | k + 1 => by
    rw [cm]
    split
    · rename_i h
      rw [cm_last d k, h.2]; rfl
    · simp
theorem cm_pos (d : List Ed) (k : Nat) : 0 < (cm d (k + 1)).length := by
  have h := cm_last d k
  cases hc : cm d (k + 1)
  · rw [hc] at h; simp at h
  · simp
theorem cm_pw (d : List Ed) (hs : ∀ i j, i < j → j < d.length → ¬ KL (d.getD j default) (d.getD i default)) : ∀ k, k ≤ d.length → (cm d k).Pairwise fun x y => ¬ KL y x
  | 0, _ => by simp [cm]
  | k + 1, hk => by
    have ih := cm_pw d hs k (by omega)
    rw [cm]
    split
    · exact ih
    · rw [List.pairwise_append]
      refine ⟨ih, by simp, fun x hx y hy => ?_⟩
      obtain ⟨j, hj, rfl⟩ := (cm_mem d k x).1 hx
      rw [List.mem_singleton.1 hy]
      exact hs j k hj (by omega)
theorem getD_last (c : List Ed) (x : Ed) (h : c.getLast? = some x) : c.getD (c.length - 1) default = x := by
  rw [List.getLast?_eq_getElem?] at h
  simp [h]
theorem cm_ne (d : List Ed) : ∀ k i, i + 1 < (cm d k).length → (cm d k).getD i default ≠ (cm d k).getD (i + 1) default
  | 0, i => by simp [cm]
  | 1, i => by simp [cm]
  | k + 2, i => by
    have ih := cm_ne d (k + 1) i
    rw [cm]
    split
    · exact ih
    · rename_i h
      simp only [List.length_append, List.length_singleton]
      intro hi
      rcases Nat.lt_or_ge (i + 1) (cm d (k + 1)).length with h1 | h1
      · have := ih h1
        simp only [List.getD_eq_getElem?_getD] at this ⊢
        rw [List.getElem?_append_left h1, List.getElem?_append_left (by omega)]
        exact this
      · have e : i + 1 = (cm d (k + 1)).length := by omega
        have hl := getD_last _ _ (cm_last d k)
        rw [← e] at hl
        simp only [List.getD_eq_getElem?_getD, Nat.add_sub_cancel] at hl h ⊢
        rw [List.getElem?_append_left (by omega), List.getElem?_append_right (by omega), hl, e]
        intro hh
        apply h
        refine ⟨by omega, ?_⟩
        simpa using hh.symm
def adjOk (c : List Ed) (n : Nat) : Prop := ∀ i, i + 1 < n → clashB (c.getD i default).1 (c.getD i default).2.1 (c.getD i default).2.2.1 (c.getD (i + 1) default).1 (c.getD (i + 1) default).2.1 = false
theorem ah_of {x y : Ed} (hk : ¬ KL y x) (hc : clashB x.1 x.2.1 x.2.2.1 y.1 y.2.1 = false) : AH x y := by
  unfold AH
  cases h1 : Op.bytesLess x.1.toList y.1.toList
  · cases h2 : Op.bytesLess y.1.toList x.1.toList
    · have he := bl_tri h1 h2
      unfold clashB at hc
      unfold KL at hk
      rw [he] at hk hc
      simp at hc hk
      refine .inr ⟨he, ?_⟩
      omega
    · exact absurd (.inl h2) hk
  · exact .inl rfl
theorem adj_pw : ∀ c : List Ed, (∀ x ∈ c, okSp x) → c.Pairwise (fun x y => ¬ KL y x) → adjOk c c.length → c.Pairwise AH
  | [], _, _, _ => by simp
  | [x], _, _, _ => by simp
  | x :: y :: r, ho, hs, ha => by
    rw [List.pairwise_cons] at hs
    have ih := adj_pw (y :: r) (fun z hz => ho z (by simp [hz])) hs.2 fun i hi => ha (i + 1) (by simp at hi ⊢; omega)
    have h0 : AH x y := ah_of (hs.1 y (by simp)) (ha 0 (by simp))
    rw [List.pairwise_cons]
    refine ⟨fun z hz => ?_, ih⟩
    rcases List.mem_cons.1 hz with rfl | hz
    · exact h0
    · exact ah_trans (ho y (by simp)) h0 ((List.pairwise_cons.1 ih).1 z hz)
theorem clash_clR {x y : Ed} (hx : okSp x) (hy : okSp y) (hk : ¬ KL y x) (hc : clashB x.1 x.2.1 x.2.2.1 y.1 y.2.1 = true) : x.1 = y.1 ∧ clR x y = true := by
  unfold clashB at hc
  simp at hc
  have he := toList_inj hc.1
  refine ⟨he, ?_⟩
  unfold KL at hk
  rw [he] at hk
  simp at hk
  unfold okSp at *
  unfold clR
  (repeat' split) <;> simp <;> omega
theorem getD_mem (c : List Ed) (i : Nat) (h : i < c.length) : c.getD i default ∈ c := by
  simp [List.getD_eq_getElem?_getD, h]
theorem pw_getD {R : Ed → Ed → Prop} (c : List Ed) (h : c.Pairwise R) (i j : Nat) (hij : i < j) (hj : j < c.length) : R (c.getD i default) (c.getD j default) := by
  have := List.pairwise_iff_getElem.1 h i j (by omega) hj hij
  simpa [List.getD_eq_getElem?_getD, hj, (by omega : i < c.length)] using this
/-- What the compact sorted row tells, where no neighbours clash. -/
theorem srt_of (l d : List Ed) (hp : d.Perm l) (hs : ∀ i j, i < j → j < d.length → ¬ KL (d.getD j default) (d.getD i default)) (ho : ∀ x ∈ l, okSp x) (ha : adjOk (cm d d.length) (cm d d.length).length) : Srt l (cm d d.length) := by
  have hm : ∀ x, x ∈ cm d d.length ↔ x ∈ l := fun x => by
    rw [cm_mem, ← hp.mem_iff]
    constructor
    · rintro ⟨j, hj, rfl⟩; exact getD_mem d j hj
    · intro h
      obtain ⟨j, hj, e⟩ := List.getElem_of_mem h
      exact ⟨j, hj, by simp [List.getD_eq_getElem?_getD, hj, e]⟩
  have hpw := adj_pw (cm d d.length) (fun x hx => ho x ((hm x).1 hx)) (cm_pw d hs d.length (Nat.le_refl _)) ha
  refine ⟨⟨ho, fun x hx y hy hne hc => ?_⟩, hpw, hm⟩
  have hx' := (hm x).2 hx
  have hy' := (hm y).2 hy
  obtain ⟨i, hi, ei⟩ := List.getElem_of_mem hx'
  obtain ⟨j, hj, ej⟩ := List.getElem_of_mem hy'
  have hij : i ≠ j := by rintro rfl; exact hne (ei.symm.trans ej)
  rw [List.pairwise_iff_getElem] at hpw
  rcases Nat.lt_or_gt_of_ne hij with h | h
  · have := (ah_clR (ho x hx) (ho y hy) (ei ▸ ej ▸ hpw i j hi hj h) hc.1).1
    rw [hc.2] at this; cases this
  · have := (ah_clR (ho y hy) (ho x hx) (ei ▸ ej ▸ hpw j i hj hi h) hc.1.symm).2
    rw [hc.2] at this; cases this
theorem bad_of (l d : List Ed) (hp : d.Perm l) (hs : ∀ i j, i < j → j < d.length → ¬ KL (d.getD j default) (d.getD i default)) (ho : ∀ x ∈ l, okSp x) (i : Nat) (hi : i + 1 < (cm d d.length).length)
    (hc : clashB ((cm d d.length).getD i default).1 ((cm d d.length).getD i default).2.1 ((cm d d.length).getD i default).2.2.1 ((cm d d.length).getD (i + 1) default).1 ((cm d d.length).getD (i + 1) default).2.1 = true) : ¬ Good l := by
  intro hg
  have hm : ∀ x, x ∈ cm d d.length → x ∈ l := fun x hx => by
    rw [← hp.mem_iff]
    obtain ⟨j, hj, rfl⟩ := (cm_mem d _ x).1 hx
    exact getD_mem d j hj
  have h1 := hm _ (getD_mem _ i (by omega))
  have h2 := hm _ (getD_mem _ (i + 1) hi)
  exact hg.2 _ h1 _ h2 (cm_ne d _ i hi) (clash_clR (ho _ h1) (ho _ h2) (pw_getD _ (cm_pw d hs _ (Nat.le_refl _)) i (i + 1) (by omega) hi) hc)
theorem clR_symm (x y : Ed) : clR x y = clR y x := by
  unfold clR
  by_cases h1 : x.2.1 = x.2.2.1 <;> by_cases h2 : y.2.1 = y.2.2.1 <;> simp [h1, h2, eq_comm, Bool.and_comm]
/-- The document's order of edits. -/
def lessR (x y : Ed) : Bool :=
  if x.1.toList == y.1.toList then (if x.2.1 = y.2.1 then (if x.2.2.1 = y.2.2.1 then Op.bytesLess x.2.2.2.toList y.2.2.2.toList else decide (x.2.2.1 < y.2.2.1)) else decide (x.2.1 < y.2.1)) else Op.bytesLess x.1.toList y.1.toList
theorem lessR_ah {x y : Ed} (h : AH x y ∨ AH y x) : lessR x y = true ↔ AH x y := by
  unfold lessR
  by_cases he : x.1 = y.1
  · have hf : x.2.1 ≠ y.2.1 := by
      rcases h with h | h
      · rcases h with h | h
        · rw [he, bl_irrefl] at h; cases h
        · omega
      · rcases h with h | h
        · rw [he, bl_irrefl] at h; cases h
        · omega
    simp only [he, hf, BEq.rfl, if_true, if_false, decide_eq_true_eq]
    constructor
    · intro hl
      rcases h with h | h
      · exact h
      · rcases h with h | h
        · rw [he, bl_irrefl] at h; cases h
        · omega
    · rintro (h | h)
      · rw [he, bl_irrefl] at h; cases h
      · omega
  · have hn : (x.1.toList == y.1.toList) = false := by
      cases hb : x.1.toList == y.1.toList
      · rfl
      · exact absurd (toList_inj (by simpa using hb)) he
    simp only [hn, Bool.false_eq_true, if_false]
    constructor
    · exact .inl
    · rintro (h | h)
      · exact h
      · exact absurd h.1 he
theorem ins_pw (out : List Ed) (x : Ed) (k : Nat) (hk : k ≤ out.length) (hpw : out.Pairwise AH) (ho : ∀ o ∈ out, okSp o) (hd : ∀ o ∈ out, AH o x ∨ AH x o) (hB : ∀ j, k ≤ j → j < out.length → AH x (out.getD j default)) (hA : k = 0 ∨ ¬ AH x (out.getD (k - 1) default)) :
    (out.take k ++ x :: out.drop k).Pairwise AH := by
  have hw := hpw
  rw [← List.take_append_drop k out, List.pairwise_append] at hw
  rw [List.pairwise_append]
  have hBx : ∀ b ∈ out.drop k, AH x b := fun b hb => by
    obtain ⟨j, hj, e⟩ := List.getElem_of_mem hb
    simp at hj
    have := hB (k + j) (by omega) (by omega)
    simpa [List.getD_eq_getElem?_getD, (by omega : k + j < out.length), ← e] using this
  have hAx : ∀ a ∈ out.take k, AH a x := fun a ha => by
    rcases hA with rfl | h0
    · simp at ha
    · obtain ⟨j, hj, e⟩ := List.getElem_of_mem ha
      simp at hj
      have hl := getD_mem out (k - 1) (by omega)
      have h1 : AH (out.getD (k - 1) default) x := (hd _ hl).resolve_right h0
      rcases Nat.lt_or_ge j (k - 1) with h | h
      · have h2 := pw_getD out hpw j (k - 1) h (by omega)
        have e2 : out.getD j default = a := by simp [List.getD_eq_getElem?_getD, (by omega : j < out.length), ← e]
        rw [e2] at h2
        exact ah_trans (ho _ hl) h2 h1
      · have e2 : out.getD (k - 1) default = a := by
          obtain rfl : j = k - 1 := by omega
          simp [List.getD_eq_getElem?_getD, (by omega : k - 1 < out.length), ← e]
        rw [e2] at h1
        exact h1
  refine ⟨hw.1, List.pairwise_cons.2 ⟨hBx, hw.2.1⟩, fun a ha b hb => ?_⟩
  rcases List.mem_cons.1 hb with rfl | hb
  · exact hAx a ha
  · exact hw.2.2 a ha b hb
theorem ins_mem (out : List Ed) (x z : Ed) (k : Nat) : z ∈ out.take k ++ x :: out.drop k ↔ z = x ∨ z ∈ out := by
  have : z ∈ out ↔ z ∈ out.take k ∨ z ∈ out.drop k := by
    conv => lhs; rw [← List.take_append_drop k out]
    exact List.mem_append
  rw [this]
  simp only [List.mem_append, List.mem_cons]
  constructor
  · rintro (h | h | h)
    · exact .inr (.inl h)
    · exact .inl h
    · exact .inr (.inr h)
  · rintro (h | h | h)
    · exact .inr (.inl h)
    · exact .inl h
    · exact .inr (.inr h)
theorem take_snoc (l : List Ed) (i : Nat) (h : i < l.length) : l.take (i + 1) = l.take i ++ [l.getD i default] := by
  rw [List.take_add_one, List.getElem?_eq_getElem h]
  simp [List.getD_eq_getElem?_getD, h]
theorem Good.mono {l m : List Ed} (h : Good l) (hs : ∀ x ∈ m, x ∈ l) : Good m := ⟨fun x hx => h.1 x (hs x hx), fun x hx y hy => h.2 x (hs x hx) y (hs y hy)⟩
theorem ref_twice {l out : List Ed} {i : Nat} (hi : i < l.length) (h : Srt (l.take i) out) (hx : l.getD i default ∈ out) : Srt (l.take (i + 1)) out := by
  have hm : ∀ x, x ∈ l.take (i + 1) ↔ x ∈ l.take i := fun x => by
    rw [take_snoc l i hi, List.mem_append, List.mem_singleton]
    constructor
    · rintro (h1 | rfl)
      · exact h1
      · exact (h.mem _).1 hx
    · exact .inl
  exact ⟨h.good.mono fun x hx => (hm x).1 hx, h.pw, fun x => (h.mem x).trans (hm x).symm⟩
theorem ref_bad {l out : List Ed} {i : Nat} (hi : i < l.length) (h : Srt (l.take i) out) (hx : l.getD i default ∉ out) (o : Ed) (ho : o ∈ out) (hc : o.1 = (l.getD i default).1 ∧ clR o (l.getD i default) = true) : ¬ Good l := fun hg =>
  hg.2 o (List.mem_of_mem_take ((h.mem o).1 ho)) _ (getD_mem l i hi) (fun e => hx (e ▸ ho)) hc
theorem ref_ins {l out : List Ed} {i k : Nat} (hi : i < l.length) (h : Srt (l.take i) out) (hok : okSp (l.getD i default)) (hno : ∀ o ∈ out, ¬ (o.1 = (l.getD i default).1 ∧ clR o (l.getD i default) = true)) (hk : k ≤ out.length)
    (hB : ∀ j, k ≤ j → j < out.length → AH (l.getD i default) (out.getD j default)) (hA : k = 0 ∨ ¬ AH (l.getD i default) (out.getD (k - 1) default)) : Srt (l.take (i + 1)) (out.take k ++ l.getD i default :: out.drop k) := by
  have ho : ∀ o ∈ out, okSp o := fun o hx => h.good.1 o ((h.mem o).1 hx)
  refine ⟨⟨fun x hx => ?_, fun x hx y hy hne hc => ?_⟩, ins_pw out _ k hk h.pw ho (fun o hx => clR_ah (ho o hx) hok (hno o hx)) hB hA, fun x => ?_⟩
  · rw [take_snoc l i hi, List.mem_append, List.mem_singleton] at hx
    rcases hx with hx | rfl
    · exact h.good.1 x hx
    · exact hok
  · rw [take_snoc l i hi, List.mem_append, List.mem_singleton] at hx hy
    rcases hx with hx | rfl
    · rcases hy with hy | rfl
      · exact h.good.2 x hx y hy hne hc
      · exact hno x ((h.mem x).2 hx) hc
    · rcases hy with hy | rfl
      · exact hno y ((h.mem y).2 hy) ⟨hc.1.symm, by rw [clR_symm]; exact hc.2⟩
      · exact hne rfl
  · rw [ins_mem, h.mem, take_snoc l i hi, List.mem_append, List.mem_singleton]
    exact Or.comm
theorem srt_nil : Srt [] [] := ⟨⟨by simp, by simp⟩, by simp, by simp⟩
end Go.Proofs.Ytbgkdofjndocfab
