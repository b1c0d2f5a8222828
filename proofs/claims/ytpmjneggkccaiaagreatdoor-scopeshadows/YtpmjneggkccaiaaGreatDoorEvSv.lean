/- Values that are held against one another: what is found the same is the same. -/
import Derived.Test.YtpmjneggkccaiaaGreatDoorEvZb
set_option linter.unusedVariables false
set_option linter.unusedSimpArgs false
namespace Go.Proofs.YtpmjneggkccaiaaGreatDoor
namespace Ev
theorem andB_true {a b : Bool} (h : andB a b = true) : a = true ∧ b = true := by
  cases a with
  | false => cases h
  | true => exact ⟨rfl, h⟩
theorem notB_true {a : Bool} (h : notB a = true) : a = false := by cases a <;> first | rfl | cases h
theorem allB_true {α : Type} {p : α → Bool} : ∀ {l : List α}, allB p l = true → ∀ x ∈ l, p x = true
  | [], _, x, hx => by cases hx
  | y :: l, h, x, hx => by
    obtain ⟨h1, h2⟩ := andB_true (a := p y) (b := allB p l) h
    cases hx with
    | head => exact h1
    | tail _ m => exact allB_true h2 x m
theorem isK_true {j : Nat} {y : AV} (h : isK j y = true) : nilK y = some (j, true) := by
  rcases oc_or (x := nilK y) h with ⟨_, q⟩ | ⟨p, h1, h2⟩
  · cases q
  · obtain ⟨h3, h4⟩ := andB_true h2
    rw [h1]
    obtain ⟨p1, p2⟩ := p
    have : p1 = j := Nat.eq_of_beq_eq_true h4
    simp only at h3 this
    rw [h3, this]
theorem oc_true {α : Type} {x : Option α} {f : α → Bool} (h : oc x false f = true) : ∃ a, x = some a ∧ f a = true := by
  rcases oc_or h with ⟨_, q⟩ | q
  · cases q
  · exact q
theorem sameV_true (x : AV) : ∀ y, sameV x y = true → x = y := by
  refine AV.rec (motive_1 := fun x => ∀ y, sameV x y = true → x = y) (motive_2 := fun l => ∀ m, sameV (.agg l) (.agg m) = true → l = m)
    ?_ ?_ ?_ ?_ ?_ ?_ ?_ ?_ ?_ ?_ ?_ ?_ ?_ ?_ ?_ ?_ ?_ ?_ ?_ ?_ ?_ x
  · intro b y h
    obtain ⟨c, h1, h2⟩ := oc_true (x := asB y) h
    rw [eqB_eq] at h2
    rw [asB_some h1]; congr 1; simpa using h2
  · intro k n y h
    obtain ⟨p, h1, h2⟩ := oc_true (x := asI y) h
    obtain ⟨h3, h4⟩ := andB_true h2
    rw [eqInt_eq] at h4
    rw [asI_some h1, kindEq_true h3]; congr 1; simpa using h4
  · intro l y h
    obtain ⟨p, h1, h2⟩ := oc_true (x := asS y) h
    rw [eqLN_eq] at h2
    rw [asS_some h1]; congr 1; simpa using h2
  · intro y h
    have := isK_true h
    cases y <;> cases this; rfl
  · intro b off y h
    obtain ⟨p, h1, h2⟩ := oc_true (x := asPt y) h
    obtain ⟨h3, h4⟩ := andB_true h2
    rw [asPt_some h1, eqBn_true h3, beq_true h4]
  · intro y h
    have := isK_true h
    cases y <;> cases this; rfl
  · intro b off len c y h
    obtain ⟨p, h1, h2⟩ := oc_true (x := asSk y) h
    obtain ⟨h3, h4⟩ := andB_true h2
    obtain ⟨h5, h6⟩ := andB_true h4
    obtain ⟨h7, h8⟩ := andB_true h6
    rw [asSk_some h1, eqBn_true h3, beq_true h5, beq_true h7, beq_true h8]
  · intro b off len c y h
    obtain ⟨p, h1, h2⟩ := oc_true (x := asSu y) h
    obtain ⟨h3, h4⟩ := andB_true h2
    obtain ⟨h5, h6⟩ := andB_true h4
    obtain ⟨h7, h8⟩ := andB_true h6
    rw [asSu_some h1, eqBn_true h3, beq_true h5, beq_true h7, beq_true h8]
  · intro y h
    have h : isSle y = true := h
    cases y <;> cases h; rfl
  · intro y h
    have := isK_true h
    cases y <;> cases this; rfl
  · intro b y h
    obtain ⟨m, h1, h2⟩ := oc_true (x := asMap y) h
    obtain ⟨c, h3, h4⟩ := oc_true (x := m) h2
    subst h3
    rw [asMap_some h1, eqBn_true h4]
  · intro fn a b iha ihb y h
    have h : oc (asFv y) false (fun q => andB (eqFn fn q.fn) (andB (sameV (.agg a) (.agg q.first)) (sameV (.agg b) (.agg q.cap)))) = true := h
    obtain ⟨q, h1, h2⟩ := oc_true (x := asFv y) h
    obtain ⟨h3, h4⟩ := andB_true h2
    obtain ⟨h5, h6⟩ := andB_true h4
    obtain ⟨m, h7, h8⟩ := oc_true (x := fnF fn) h3
    obtain ⟨n, h9, h10⟩ := oc_true (x := fnF q.fn) h8
    have e1 := fnF_some h7
    have e2 := fnF_some h9
    rw [asFv_some h1, iha q.first h5, ihb q.cap h6, e1, e2, beq_true h10]
  · intro b y h
    obtain ⟨c, h1, h2⟩ := oc_true (x := asYield y) h
    rw [asYield_some h1, eqBn_true h2]
  · intro y h
    have := isK_true h
    cases y <;> cases this; rfl
  · intro t v ih y h
    obtain ⟨q, h1, h2⟩ := oc_true (x := ifTV y) h
    obtain ⟨h3, h4⟩ := andB_true h2
    have e : y = .iface q.1 q.2 := by
      cases y <;> cases h1 <;> rfl
    rw [e, ih q.2 h4, beq_true h3]
  · intro y h
    have := isK_true h
    cases y <;> cases this; rfl
  · intro l ih y h
    obtain ⟨m, h1, h2⟩ := oc_true (x := asAgg y) h
    rw [asAgg_some h1]
    congr 1
    exact ih m h2
  · intro l ih y h
    obtain ⟨m, h1, h2⟩ := oc_true (x := asTup y) h
    rw [asTup_some h1]
    congr 1
    exact ih m h2
  · intro y h
    have h : isAny y = true := h
    cases y <;> cases h; rfl
  · intro m h
    cases m with
    | nil => rfl
    | cons u r => cases h
  · intro v l ihv ihl m h
    cases m with
    | nil => cases h
    | cons u r =>
      have h : andB (sameV v u) (sameV (.agg l) (.agg r)) = true := h
      obtain ⟨h1, h2⟩ := andB_true h
      rw [ihv u h1, ihl r h2]
end Ev
end Go.Proofs.YtpmjneggkccaiaaGreatDoor
