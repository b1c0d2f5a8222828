/-
  Plain facts: two texts with an empty line between them.
-/
import Derived.Test.YtmfdfkbcommjfaaDoorCut
namespace Go.Proofs.YtmfdfkbcommjfaaDoor
theorem pc_len {r : List UInt8} (hr : r ≠ []) (hb : ∀ o, pcOf r ≠ .bad o) : 1 ≤ (pcOf r).len ∧ (pcOf r).len ≤ r.length := ⟨(pc_end r hr hb).1, (pc_end r hr hb).2.1⟩
theorem scn_piece {r : List UInt8} (hr : r ≠ []) (hb : ∀ o, pcOf r ≠ .bad o) (p : Nat) (s : St) : scn r 0 p s = scn (r.drop (pcOf r).len) 0 (p + (pcOf r).len) (stp p s (pcOf r)) := by
  obtain ⟨l1, l2⟩ := pc_len hr hb
  cases r with
  | nil => exact absurd rfl hr
  | cons b t =>
    rw [scn_ok hb, scn_skip t ((pcOf (b :: t)).len - 1) _ _ _ (Nat.le_refl _) (by simp at l2; omega), Nat.sub_self]
    obtain ⟨n, hn⟩ : ∃ n, (pcOf (b :: t)).len = n + 1 := ⟨(pcOf (b :: t)).len - 1, by omega⟩
    rw [hn, List.drop_succ_cons, Nat.add_sub_cancel, show p + 1 + n = p + (n + 1) by omega]
theorem scn_not_bad {r : List UInt8} (hr : r ≠ []) {p : Nat} {s st : St} (h : scn r 0 p s = .ok st) : ∀ o, pcOf r ≠ .bad o := by
  intro o ho
  cases r with
  | nil => exact absurd rfl hr
  | cons b t => rw [scn_bad ho] at h; cases h
/-- two tokens alike: of one kind and text, at one place or one moved on by d -/
def Al (d : Nat) (a b : Tk) : Prop := a.kind = b.kind ∧ a.text = b.text ∧ (b.lo = a.lo ∨ b.lo = a.lo + d)
theorem Al.ends {d : Nat} {a b : Tk} (h : Al d a b) : ends a = ends b := by unfold Go.Proofs.YtmfdfkbcommjfaaDoor.ends; rw [h.1, h.2.1]
inductive Als (d : Nat) : List Tk → List Tk → Prop
  | nil : Als d [] []
  | snoc {l l' : List Tk} {a b : Tk} (h : Als d l l') (k : Al d a b) : Als d (l ++ [a]) (l' ++ [b])
theorem Als.len {d : Nat} {l l' : List Tk} (h : Als d l l') : l.length = l'.length := by
  induction h with
  | nil => rfl
  | snoc _ _ ih => simp [ih]
theorem Als.get {d : Nat} {l l' : List Tk} (h : Als d l l') : ∀ (i : Nat) (a : Tk), l[i]? = some a → ∃ b, l'[i]? = some b ∧ Al d a b := by
  induction h with
  | nil => intro i a h; cases h
  | snoc h k ih =>
    rename_i l l' a0 b0
    intro i a hi
    have hl := h.len
    by_cases q : i < l.length
    · rw [List.getElem?_append_left q] at hi
      rw [List.getElem?_append_left (by omega)]
      exact ih i a hi
    · rw [List.getElem?_append_right (by omega)] at hi
      rw [List.getElem?_append_right (by omega)]
      rw [← hl]
      generalize i - l.length = j at *
      cases j with
      | zero => obtain rfl : a0 = a := Option.some.inj hi; exact ⟨b0, rfl, k⟩
      | succ j => cases hi
theorem Als.refl (d : Nat) (l : List Tk) : Als d l l := by
  have key : ∀ n (l : List Tk), l.length = n → Als d l l := by
    intro n
    induction n with
    | zero => intro l h; have : l = [] := List.eq_nil_of_length_eq_zero h
              subst this; exact .nil
    | succ n ih =>
      intro l h
      rcases List.eq_nil_or_concat l with h0 | ⟨l', t, h0⟩
      · subst h0; cases h
      · rw [List.concat_eq_append] at h0
        subst h0
        exact .snoc (ih l' (by simp at h; omega)) ⟨rfl, rfl, .inl rfl⟩
  exact key l.length l rfl
/-- behind pre, tokens alike -/
def Aft (pre : List Tk) (d : Nat) (l l2 : List Tk) : Prop := ∃ l', l2 = pre ++ l' ∧ Als d l l'
def eolB (l : List Tk) : Bool := match l.getLast? with | none => false | some t => ends t
theorem eol_def (p : Nat) (l : List Tk) : eol p l = if eolB l = true then l ++ [⟨6, p, p, [10]⟩] else l := rfl
theorem Aft.eolB {pre : List Tk} {d : Nat} {l l2 : List Tk} (h : Aft pre d l l2) (hp : eolB pre = false) : Go.Proofs.YtmfdfkbcommjfaaDoor.eolB l = Go.Proofs.YtmfdfkbcommjfaaDoor.eolB l2 := by
  obtain ⟨l', rfl, h⟩ := h
  cases h with
  | nil => rw [List.append_nil, hp]; rfl
  | snoc h k => unfold Go.Proofs.YtmfdfkbcommjfaaDoor.eolB; rw [← List.append_assoc]; simp; exact k.ends
theorem Aft.snoc {pre : List Tk} {d : Nat} {l l2 : List Tk} {a b : Tk} (h : Aft pre d l l2) (k : Al d a b) : Aft pre d (l ++ [a]) (l2 ++ [b]) := by
  obtain ⟨l', rfl, h⟩ := h
  exact ⟨l' ++ [b], by rw [List.append_assoc], h.snoc k⟩
theorem Aft.eol {pre : List Tk} {d : Nat} {l l2 : List Tk} (h : Aft pre d l l2) (hp : Go.Proofs.YtmfdfkbcommjfaaDoor.eolB pre = false) (p : Nat) : Aft pre d (Go.Proofs.YtmfdfkbcommjfaaDoor.eol p l) (Go.Proofs.YtmfdfkbcommjfaaDoor.eol (p + d) l2) := by
  rw [eol_def, eol_def, ← h.eolB hp]
  split
  · exact h.snoc ⟨rfl, rfl, .inr rfl⟩
  · exact h
theorem stp_aft {pre : List Tk} {d : Nat} (hp : eolB pre = false) {s1 s2 : St} (h : Aft pre d s1.toks s2.toks) (p : Nat) (pc : Pc) : Aft pre d (stp p s1 pc).toks (stp (p + d) s2 pc).toks := by
  cases pc with
  | bad o => exact h
  | line => exact h.eol hp p
  | blank => exact h
  | tok k n x => exact h.snoc ⟨rfl, rfl, .inr rfl⟩
  | rmk n ls =>
    cases ls with
    | true => exact h.eol hp p
    | false => exact h
/-- the same text read at another place, behind other tokens -/
theorem scn_shift {pre : List Tk} {d : Nat} (hp : eolB pre = false) (r : List UInt8) : ∀ (k p : Nat) (s1 s2 st : St), Aft pre d s1.toks s2.toks → scn r k p s1 = .ok st → ∃ st2, scn r k (p + d) s2 = .ok st2 ∧ Aft pre d st.toks st2.toks := by
  induction r with
  | nil =>
    intro k p s1 s2 st h hs
    have e : ∀ (p : Nat) (s : St), scn [] k p s = .ok ⟨eol p s.toks ++ [⟨7, p, p, []⟩], s.rems⟩ := fun p s => by cases k <;> rfl
    rw [e] at hs
    obtain rfl := Except.ok.inj hs
    exact ⟨_, e _ _, (h.eol hp p).snoc ⟨rfl, rfl, .inr rfl⟩⟩
  | cons b t ih =>
    intro k p s1 s2 st h hs
    cases k with
    | succ k =>
      rw [scn] at hs ⊢
      have := ih k (p + 1) s1 s2 st h hs
      rw [show p + 1 + d = p + d + 1 by omega] at this
      exact this
    | zero =>
      have hb := scn_not_bad (by simp) hs
      rw [scn_ok hb] at hs ⊢
      have := ih _ (p + 1) _ (stp (p + d) s2 (pcOf (b :: t))) st (stp_aft hp h p _) hs
      rw [show p + 1 + d = p + d + 1 by omega] at this
      exact this
theorem eolB_eol (p : Nat) (l : List Tk) : eolB (eol p l) = false := by
  rw [eol_def]
  split
  · simp [eolB, ends]
  · rename_i h; simpa using h
theorem eol_eol (p q : Nat) (l : List Tk) : eol q (eol p l) = eol p l := by rw [eol_def q, eolB_eol]; rfl
/-- a text read on, with a line's end behind it -/
theorem scn_line (y : List UInt8) : ∀ (n : Nat) (r : List UInt8) (p : Nat) (s st : St), r.length ≤ n → scn r 0 p s = .ok st → ∃ s', scn (r ++ 10 :: y) 0 p s = scn (10 :: y) 0 (p + r.length) s' ∧ st.toks = eol (p + r.length) s'.toks ++ [⟨7, p + r.length, p + r.length, []⟩] := by
  intro n
  induction n with
  | zero =>
    intro r p s st hn h
    have : r = [] := List.eq_nil_of_length_eq_zero (by omega)
    subst this
    exact ⟨s, rfl, by obtain rfl := Except.ok.inj h; rfl⟩
  | succ n ih =>
    intro r p s st hn h
    by_cases hr : r = []
    · subst hr; exact ⟨s, rfl, by obtain rfl := Except.ok.inj h; rfl⟩
    have hb := scn_not_bad hr h
    obtain ⟨l1, l2⟩ := pc_len hr hb
    have hsp : r = r.take (pcOf r).len ++ r.drop (pcOf r).len := (List.take_append_drop _ _).symm
    have hne : r.take (pcOf r).len ≠ [] := fun e => by
      have : (r.take (pcOf r).len).length = 0 := by rw [e]; rfl
      rw [List.length_take] at this
      omega
    have hlen : (r.take (pcOf r).len).length = (pcOf r).len := by rw [List.length_take]; omega
    have hsw : pcOf (r ++ 10 :: y) = pcOf r := by
      have := pc_swap (r1 := r.take (pcOf r).len) (v := r.drop (pcOf r).len) (v2 := r.drop (pcOf r).len ++ 10 :: y) hne (by rw [← hsp]; exact hb) (by rw [← hsp]; exact hlen.symm) (by
        generalize r.drop (pcOf r).len = v
        match v with
        | [] => exact .inr (.inl rfl)
        | [c] => exact .inl ⟨c, rfl, rfl, .inr (.inl rfl)⟩
        | c :: d :: v => exact .inl ⟨c, rfl, rfl, .inl rfl⟩)
      rw [← List.append_assoc, ← hsp] at this
      exact this
    rw [scn_piece hr hb] at h
    rw [scn_piece (by simp) (by rw [hsw]; exact hb), hsw, List.drop_append_of_le_length l2]
    obtain ⟨s', h1, h2⟩ := ih (r.drop (pcOf r).len) _ _ st (by rw [List.length_drop]; omega) h
    refine ⟨s', ?_, ?_⟩
    · rw [h1, List.length_drop, show p + (pcOf r).len + (r.length - (pcOf r).len) = p + r.length by omega]
    · rw [h2, List.length_drop, show p + (pcOf r).len + (r.length - (pcOf r).len) = p + r.length by omega]
/-- two texts with an empty line between them -/
theorem scn_join {a b : List UInt8} {x y : St} (ha : scn a 0 0 ⟨[], []⟩ = .ok x) (hb : scn b 0 0 ⟨[], []⟩ = .ok y) :
    ∃ z pre t, scn (a ++ 10 :: 10 :: b) 0 0 ⟨[], []⟩ = .ok z ∧ x.toks = pre ++ [t] ∧ Aft pre (a.length + 2) y.toks z.toks := by
  obtain ⟨s', h1, h2⟩ := scn_line (10 :: b) a.length a 0 ⟨[], []⟩ x (Nat.le_refl _) ha
  have e1 : scn (10 :: 10 :: b) 0 (0 + a.length) s' = scn b 0 (a.length + 2) ⟨eol (a.length) s'.toks, s'.rems⟩ := by
    have nb : ∀ (l : List UInt8) o, pcOf (10 :: l) ≠ .bad o := fun l o h => by cases h
    rw [scn_ok (nb _)]
    show scn (10 :: b) 0 (0 + a.length + 1) (stp (0 + a.length) s' .line) = _
    rw [scn_ok (nb _)]
    show scn b 0 (0 + a.length + 1 + 1) (stp (0 + a.length + 1) (stp (0 + a.length) s' .line) .line) = _
    simp only [stp, eol_eol, Nat.zero_add]
  rw [e1] at h1
  have hp : eolB (eol a.length s'.toks) = false := eolB_eol _ _
  obtain ⟨z, hz, haf⟩ := scn_shift (d := a.length + 2) hp b 0 0 ⟨[], []⟩ ⟨eol a.length s'.toks, s'.rems⟩ y ⟨[], by simp, .nil⟩ hb
  rw [Nat.zero_add] at hz h2
  exact ⟨z, _, _, h1.trans hz, h2, haf⟩
end Go.Proofs.YtmfdfkbcommjfaaDoor
