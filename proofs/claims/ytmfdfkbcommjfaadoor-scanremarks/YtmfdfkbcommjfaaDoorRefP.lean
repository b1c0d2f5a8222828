/-
  Plain facts: the signs of the document, in its order.
-/
import Derived.Test.YtmfdfkbcommjfaaDoorSaA
namespace Go.Proofs.YtmfdfkbcommjfaaDoor
def sgl : List (List UInt8) := [[46, 46, 46], [124, 124], [38, 38], [61, 61], [33, 61], [60, 61], [62, 61], [58, 61], [43, 61], [45, 61], [42, 61], [47, 61], [37, 61], [43, 43], [45, 45], [60, 45], [43], [45], [42], [47], [37], [38], [33], [61], [60], [62], [40], [41], [91], [93], [123], [125], [44], [46], [58], [124]]
theorem hpre1 (x b : UInt8) (t : List UInt8) : [x].isPrefixOf (b :: t) = decide (b = x) := by
  simp [List.isPrefixOf]; rw [Bool.eq_iff_iff]; simp; exact eq_comm
theorem hpre2 (x y b : UInt8) (t : List UInt8) (hy : y ≠ 0) : [x, y].isPrefixOf (b :: t) = decide (b = x ∧ t.headD 0 = y) := by
  cases t with
  | nil => simp [List.isPrefixOf]; intro _ h; exact hy h.symm
  | cons c t => simp [List.isPrefixOf]; rw [Bool.eq_iff_iff]; simp; exact and_congr eq_comm eq_comm
theorem hpre3 (x y z b : UInt8) (t : List UInt8) (hy : y ≠ 0) (hz : z ≠ 0) : [x, y, z].isPrefixOf (b :: t) = decide (b = x ∧ t.headD 0 = y ∧ (t.drop 1).headD 0 = z) := by
  match t with
  | [] => simp [List.isPrefixOf]; intro _ h; exact absurd h.symm hy
  | [c] => simp [List.isPrefixOf]; intro _ _ h; exact absurd h.symm hz
  | c :: d :: t => simp [List.isPrefixOf]; rw [Bool.eq_iff_iff]; simp; rw [eq_comm, @eq_comm _ y, @eq_comm _ z]
theorem take2 {b y : UInt8} {t : List UInt8} (hy : y ≠ 0) (h : t.headD 0 = y) : (b :: t).take 2 = [b, y] := by
  cases t with
  | nil => exact absurd h.symm hy
  | cons c t => have : c = y := h; subst this; rfl
theorem take3 {b y z : UInt8} {t : List UInt8} (hy : y ≠ 0) (hz : z ≠ 0) (h : t.headD 0 = y) (h2 : (t.drop 1).headD 0 = z) : (b :: t).take 3 = [b, y, z] := by
  match t with
  | [] => exact absurd h.symm hy
  | [c] => exact absurd h2.symm hz
  | c :: d :: t => have : c = y := h; subst this; have : d = z := h2; subst this; rfl
def fndB (b c d : UInt8) : Option (List UInt8) := sgl.find? fun x => match x with | [x] => decide (b = x) | [x, y] => decide (b = x ∧ c = y) | [x, y, z] => decide (b = x ∧ c = y ∧ d = z) | _ => false
theorem fnd_eq (b : UInt8) (t : List UInt8) : sgl.find? (fun x => x.isPrefixOf (b :: t)) = fndB b (t.headD 0) ((t.drop 1).headD 0) := by
  unfold fndB
  have h : ∀ x ∈ sgl, x.isPrefixOf (b :: t) = (match x with | [x] => decide (b = x) | [x, y] => decide (b = x ∧ t.headD 0 = y) | [x, y, z] => decide (b = x ∧ t.headD 0 = y ∧ (t.drop 1).headD 0 = z) | _ => false) := by
    simp only [sgl, List.forall_mem_cons]
    simp (discharger := decide) only [hpre1, hpre2, hpre3]
    simp
  generalize sgl = l at *
  induction l with
  | nil => rfl
  | cons a l ih =>
    rw [List.find?_cons, List.find?_cons, h a (List.mem_cons_self ..), ih (fun x hx => h x (List.mem_cons_of_mem _ hx))]
theorem sgl_find (b : UInt8) (t : List UInt8) : sgl.find? (fun x => x.isPrefixOf (b :: t)) = if sgn b (t.headD 0) ((t.drop 1).headD 0) = 0 then none else some ((b :: t).take (sgn b (t.headD 0) ((t.drop 1).headD 0))) := by
  rw [fnd_eq]
  have T1 : (b :: t).take 1 = [b] := rfl
  have T2 := fun (y : UInt8) (hy : y ≠ 0) (h : t.headD 0 = y) => take2 (b := b) hy h
  have T3 := fun (h : t.headD 0 = 46) (h2 : (t.drop 1).headD 0 = 46) => take3 (b := b) (by decide) (by decide) h h2
  generalize t.headD 0 = c at *
  generalize (t.drop 1).headD 0 = d at *
  generalize (b :: t).take = tk at *
  unfold fndB sgl sgn
  simp only [List.find?_cons]
  by_cases h1 : b = 46
  · subst h1
    by_cases h2 : c = 46 ∧ d = 46
    · simp [h2, T3 h2.1 h2.2]
    · simp [h2, T1]
  by_cases h2 : b = 38
  · subst h2; by_cases q : c = 38
    · simp [q, T2 38 (by decide) q]
    · simp [q, T1]
  by_cases h3 : b = 124
  · subst h3; by_cases q : c = 124
    · simp [q, T2 124 (by decide) q]
    · simp [q, T1]
  by_cases h4 : b = 43
  · subst h4; by_cases q : c = 43
    · simp [q, T2 43 (by decide) q]
    · by_cases q2 : c = 61
      · simp [q2, T2 61 (by decide) q2]
      · simp [q, q2, T1]
  by_cases h5 : b = 45
  · subst h5; by_cases q : c = 45
    · simp [q, T2 45 (by decide) q]
    · by_cases q2 : c = 61
      · simp [q2, T2 61 (by decide) q2]
      · simp [q, q2, T1]
  by_cases h6 : b = 60
  · subst h6; by_cases q : c = 45
    · simp [q, T2 45 (by decide) q]
    · by_cases q2 : c = 61
      · simp [q2, T2 61 (by decide) q2]
      · simp [q, q2, T1]
  by_cases h7 : b = 42
  · subst h7; by_cases q2 : c = 61
    · simp [q2, T2 61 (by decide) q2]
    · simp [q2, T1]
  by_cases h8 : b = 47
  · subst h8; by_cases q2 : c = 61
    · simp [q2, T2 61 (by decide) q2]
    · simp [q2, T1]
  by_cases h9 : b = 37
  · subst h9; by_cases q2 : c = 61
    · simp [q2, T2 61 (by decide) q2]
    · simp [q2, T1]
  by_cases h10 : b = 33
  · subst h10; by_cases q2 : c = 61
    · simp [q2, T2 61 (by decide) q2]
    · simp [q2, T1]
  by_cases h11 : b = 61
  · subst h11; by_cases q2 : c = 61
    · simp [q2, T2 61 (by decide) q2]
    · simp [q2, T1]
  by_cases h12 : b = 62
  · subst h12; by_cases q2 : c = 61
    · simp [q2, T2 61 (by decide) q2]
    · simp [q2, T1]
  by_cases h13 : b = 58
  · subst h13; by_cases q2 : c = 61
    · simp [q2, T2 61 (by decide) q2]
    · simp [q2, T1]
  by_cases h14 : b = 40
  · subst h14; simp [T1]
  by_cases h15 : b = 41
  · subst h15; simp [T1]
  by_cases h16 : b = 91
  · subst h16; simp [T1]
  by_cases h17 : b = 93
  · subst h17; simp [T1]
  by_cases h18 : b = 123
  · subst h18; simp [T1]
  by_cases h19 : b = 125
  · subst h19; simp [T1]
  by_cases h20 : b = 44
  · subst h20; simp [T1]
  simp [h1, h2, h3, h4, h5, h6, h7, h8, h9, h10, h11, h12, h13, h14, h15, h16, h17, h18, h19, h20]
end Go.Proofs.YtmfdfkbcommjfaaDoor
