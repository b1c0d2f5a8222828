/-
  Plain facts: tokens and remarks stand in order and share no byte; all bytes between them are blanks.
-/
import Derived.Test.YtmfdfkbcommjfaaDoorJoin
namespace Go.Proofs.YtmfdfkbcommjfaaDoor
/-- does a place lie within -/
def cv (lo hi j : Nat) : Nat := if lo ≤ j ∧ j < hi then 1 else 0
def cntT (l : List Tk) (j : Nat) : Nat := (l.map fun t => cv t.lo t.hi j).sum
def cntR (l : List (Nat × Nat)) (j : Nat) : Nat := (l.map fun x => cv x.1 x.2 j).sum
theorem cntT_snoc (l : List Tk) (t : Tk) (j : Nat) : cntT (l ++ [t]) j = cntT l j + cv t.lo t.hi j := by simp [cntT]
theorem cntR_snoc (l : List (Nat × Nat)) (t : Nat × Nat) (j : Nat) : cntR (l ++ [t]) j = cntR l j + cv t.1 t.2 j := by simp [cntR]
/-- the end of the last token that has bytes -/
def lst : List Tk → Nat → Nat
  | [], a => a
  | t :: l, a => lst l (if t.lo < t.hi then t.hi else a)
theorem lst_snoc (l : List Tk) (t : Tk) (a : Nat) : lst (l ++ [t]) a = if t.lo < t.hi then t.hi else lst l a := by
  induction l generalizing a with
  | nil => rfl
  | cons b l ih => exact ih _
def blk (b : UInt8) : Bool := b == 32 || b == 9 || b == 13 || b == 10
/-- tokens and remarks up to a place: in order, apart, and all else blanks -/
structure Cov (L : List UInt8) (p : Nat) (s : St) : Prop where
  tk : ∀ t ∈ s.toks, t.lo ≤ t.hi ∧ t.hi ≤ p
  rm : ∀ x ∈ s.rems, x.1 ≤ x.2 ∧ x.2 ≤ p
  la : lst s.toks 0 ≤ p
  od : ∀ (i : Nat) (t : Tk), s.toks[i]? = some t → t.kind ≠ 6 → lst (s.toks.take i) 0 ≤ t.lo
  ct : ∀ j, j < p → cntT s.toks j + cntR s.rems j ≤ 1 ∧ (cntT s.toks j + cntR s.rems j = 0 → ∀ b, L[j]? = some b → blk b = true)
theorem Cov.zeroT {L : List UInt8} {p : Nat} {s : St} (h : Cov L p s) {j : Nat} (hj : p ≤ j) : cntT s.toks j = 0 := by
  have : ∀ l : List Tk, (∀ t ∈ l, t.hi ≤ p) → cntT l j = 0 := by
    intro l
    induction l with
    | nil => intro _; rfl
    | cons t l ih =>
      intro hl
      show cv t.lo t.hi j + cntT l j = 0
      rw [ih (fun x hx => hl x (by simp [hx]))]
      have := hl t (by simp)
      unfold cv; rw [if_neg (by omega)]
  exact this _ (fun t ht => (h.tk t ht).2)
theorem Cov.zeroR {L : List UInt8} {p : Nat} {s : St} (h : Cov L p s) {j : Nat} (hj : p ≤ j) : cntR s.rems j = 0 := by
  have : ∀ l : List (Nat × Nat), (∀ t ∈ l, t.2 ≤ p) → cntR l j = 0 := by
    intro l
    induction l with
    | nil => intro _; rfl
    | cons t l ih =>
      intro hl
      show cv t.1 t.2 j + cntR l j = 0
      rw [ih (fun x hx => hl x (by simp [hx]))]
      have := hl t (by simp)
      unfold cv; rw [if_neg (by omega)]
  exact this _ (fun t ht => (h.rm t ht).2)
theorem od_snoc {l : List Tk} {u : Tk} (h : ∀ (i : Nat) (t : Tk), l[i]? = some t → t.kind ≠ 6 → lst (l.take i) 0 ≤ t.lo) (hu : lst l 0 ≤ u.lo) : ∀ (i : Nat) (t : Tk), (l ++ [u])[i]? = some t → t.kind ≠ 6 → lst ((l ++ [u]).take i) 0 ≤ t.lo := by
  intro i t hi hk
  by_cases q : i < l.length
  · rw [List.getElem?_append_left q] at hi
    rw [List.take_append_of_le_length (by omega)]
    exact h i t hi hk
  · have hlt := (List.getElem?_eq_some_iff.1 hi).1
    rw [List.length_append] at hlt
    simp at hlt
    obtain rfl : i = l.length := by omega
    rw [List.getElem?_append_right (Nat.le_refl _), Nat.sub_self] at hi
    obtain rfl : u = t := Option.some.inj hi
    rw [List.take_append_of_le_length (Nat.le_refl _), List.take_length]
    exact hu
/-- a token without bytes -/
theorem Cov.semi {L : List UInt8} {p : Nat} {s : St} (h : Cov L p s) (k : Nat) (x : List UInt8) : Cov L p ⟨s.toks ++ [⟨k, p, p, x⟩], s.rems⟩ := by
  refine ⟨fun t ht => ?_, h.rm, ?_, od_snoc h.od h.la, fun j hj => ?_⟩
  · rcases List.mem_append.1 ht with ht | ht
    · exact h.tk t ht
    · rw [List.mem_singleton] at ht; subst ht; exact ⟨Nat.le_refl _, Nat.le_refl _⟩
  · show lst (s.toks ++ [⟨k, p, p, x⟩]) 0 ≤ p
    rw [lst_snoc, if_neg (Nat.lt_irrefl p)]; exact h.la
  · have e : cntT (s.toks ++ [⟨k, p, p, x⟩]) j = cntT s.toks j := by
      rw [cntT_snoc]; unfold cv; rw [if_neg (by simp only; omega)]; rfl
    simp only [e]; exact h.ct j hj
theorem Cov.eol {L : List UInt8} {p : Nat} {s : St} (h : Cov L p s) : Cov L p ⟨Go.Proofs.YtmfdfkbcommjfaaDoor.eol p s.toks, s.rems⟩ := by
  rw [eol_def]
  split
  · exact h.semi 6 [10]
  · exact h
theorem Cov.tok {L : List UInt8} {p : Nat} {s : St} (h : Cov L p s) (k n : Nat) (x : List UInt8) (hn : 1 ≤ n) : Cov L (p + n) ⟨s.toks ++ [⟨k, p, p + n, x⟩], s.rems⟩ := by
  refine ⟨fun t ht => ?_, fun t ht => ⟨(h.rm t ht).1, by have := (h.rm t ht).2; omega⟩, ?_, od_snoc h.od h.la, fun j hj => ?_⟩
  · rcases List.mem_append.1 ht with ht | ht
    · exact ⟨(h.tk t ht).1, by have := (h.tk t ht).2; omega⟩
    · rw [List.mem_singleton] at ht; subst ht; exact ⟨Nat.le_add_right _ _, Nat.le_refl _⟩
  · show lst (s.toks ++ [⟨k, p, p + n, x⟩]) 0 ≤ p + n
    rw [lst_snoc, if_pos (show p < p + n by omega)]; exact Nat.le_refl _
  · show cntT (s.toks ++ [⟨k, p, p + n, x⟩]) j + cntR s.rems j ≤ 1 ∧ (cntT (s.toks ++ [⟨k, p, p + n, x⟩]) j + cntR s.rems j = 0 → _)
    rw [cntT_snoc]
    by_cases hjp : j < p
    · have e : cv p (p + n) j = 0 := by unfold cv; rw [if_neg (by omega)]
      simp only [e, Nat.add_zero]; exact h.ct j hjp
    · have e : cv p (p + n) j = 1 := by unfold cv; rw [if_pos (by omega)]
      simp only [e, h.zeroT (by omega : p ≤ j), h.zeroR (by omega : p ≤ j)]
      exact ⟨by omega, fun q => by omega⟩
theorem Cov.rem {L : List UInt8} {p : Nat} {s : St} (h : Cov L p s) (n : Nat) : Cov L (p + n) ⟨s.toks, s.rems ++ [(p, p + n)]⟩ := by
  refine ⟨fun t ht => ⟨(h.tk t ht).1, by have := (h.tk t ht).2; omega⟩, fun t ht => ?_, by have := h.la; show lst s.toks 0 ≤ _; omega, h.od, fun j hj => ?_⟩
  · rcases List.mem_append.1 ht with ht | ht
    · exact ⟨(h.rm t ht).1, by have := (h.rm t ht).2; omega⟩
    · rw [List.mem_singleton] at ht; subst ht; exact ⟨Nat.le_add_right _ _, Nat.le_refl _⟩
  · show cntT s.toks j + cntR (s.rems ++ [(p, p + n)]) j ≤ 1 ∧ (cntT s.toks j + cntR (s.rems ++ [(p, p + n)]) j = 0 → _)
    rw [cntR_snoc]
    by_cases hjp : j < p
    · have e : cv p (p + n) j = 0 := by unfold cv; rw [if_neg (by omega)]
      simp only [e, Nat.add_zero]; exact h.ct j hjp
    · have e : cv p (p + n) j = 1 := by unfold cv; rw [if_pos (by omega)]
      simp only [e, h.zeroT (by omega : p ≤ j), h.zeroR (by omega : p ≤ j)]
      exact ⟨by omega, fun q => by omega⟩
theorem Cov.blank {L : List UInt8} {p : Nat} {s : St} (h : Cov L p s) (hb : ∀ b, L[p]? = some b → blk b = true) : Cov L (p + 1) s := by
  refine ⟨fun t ht => ⟨(h.tk t ht).1, by have := (h.tk t ht).2; omega⟩, fun t ht => ⟨(h.rm t ht).1, by have := (h.rm t ht).2; omega⟩, by have := h.la; omega, h.od, fun j hj => ?_⟩
  by_cases hjp : j < p
  · exact h.ct j hjp
  · obtain rfl : j = p := by omega
    rw [h.zeroT (Nat.le_refl _), h.zeroR (Nat.le_refl _)]
    exact ⟨by omega, fun _ => hb⟩
theorem pc_line_blank {b : UInt8} {t : List UInt8} (h : pcOf (b :: t) = .line ∨ pcOf (b :: t) = .blank) : blk b = true := by
  by_cases h1 : b = 10
  · rw [h1]; rfl
  by_cases h2 : b = 32 ∨ b = 9 ∨ b = 13
  · rcases h2 with h2 | h2 | h2 <;> (rw [h2]; rfl)
  exfalso
  simp only [pcOf] at h
  rw [if_neg h1, if_neg h2] at h
  repeat' split at h
  all_goals (rcases h with h | h <;> cases h)
theorem cov_step {L : List UInt8} {p : Nat} {s : St} (h : Cov L p s) {r : List UInt8} (hr : r = L.drop p) (hne : r ≠ []) (hb : ∀ o, pcOf r ≠ .bad o) : Cov L (p + (pcOf r).len) (stp p s (pcOf r)) := by
  have h1 := (pc_len hne hb).1
  have hbl : pcOf r = .line ∨ pcOf r = .blank → ∀ b, L[p]? = some b → blk b = true := fun hq b hbb => by
    cases r with
    | nil => exact absurd rfl hne
    | cons c t =>
      have e : (L.drop p)[0]? = some c := by rw [← hr]; rfl
      rw [List.getElem?_drop, Nat.add_zero, hbb] at e
      rw [Option.some.inj e]
      exact pc_line_blank hq
  cases hp : pcOf r with
  | bad o => exact absurd hp (hb o)
  | line => exact (h.eol).blank (hbl (.inl hp))
  | blank => exact h.blank (hbl (.inr hp))
  | tok k n x => rw [hp] at h1; exact h.tok k n x h1
  | rmk n ls =>
    cases ls with
    | true => exact (h.eol).rem n
    | false => exact h.rem n
theorem cov_all {L : List UInt8} : ∀ (m : Nat) (r : List UInt8) (p : Nat) (s st : St), r.length ≤ m → r = L.drop p → p ≤ L.length → Cov L p s → scn r 0 p s = .ok st → Cov L L.length st ∧ ∃ pre, st.toks = pre ++ [⟨7, L.length, L.length, []⟩] := by
  intro m
  induction m with
  | zero =>
    intro r p s st hm hr hp h hs
    have : r = [] := List.eq_nil_of_length_eq_zero (by omega)
    subst this
    have hpl : p = L.length := by have := congrArg List.length hr; simp at this; omega
    obtain rfl := Except.ok.inj hs
    rw [hpl] at h ⊢
    exact ⟨h.eol.semi 7 [], _, rfl⟩
  | succ m ih =>
    intro r p s st hm hr hp h hs
    by_cases hne : r = []
    · exact ih r p s st (by rw [hne]; simp) hr hp h hs
    have hb := scn_not_bad hne hs
    obtain ⟨l1, l2⟩ := pc_len hne hb
    have hlr : r.length = L.length - p := by rw [hr]; simp
    rw [scn_piece hne hb] at hs
    exact ih _ _ _ st (by rw [List.length_drop]; omega) (by rw [hr, List.drop_drop]) (by omega) (cov_step h hr hne hb) hs
theorem cov_scn {L : List UInt8} {st : St} (h : scn L 0 0 ⟨[], []⟩ = .ok st) : Cov L L.length st ∧ ∃ pre, st.toks = pre ++ [⟨7, L.length, L.length, []⟩] :=
  cov_all L.length L 0 ⟨[], []⟩ st (Nat.le_refl _) rfl (Nat.zero_le _) ⟨fun _ h => (by cases h), fun _ h => (by cases h), Nat.le_refl _, fun i t h => (by cases h), fun j hj => absurd hj (by omega)⟩ h
end Go.Proofs.YtmfdfkbcommjfaaDoor
