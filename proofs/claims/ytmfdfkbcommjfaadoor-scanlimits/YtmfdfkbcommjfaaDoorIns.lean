/-
  Plain facts: a text with blanks and a remark put in where a token begins.
-/
import Derived.Test.YtmfdfkbcommjfaaDoorJoin
namespace Go.Proofs.YtmfdfkbcommjfaaDoor
/-- the places at which a reading begins a piece -/
inductive Rch : List UInt8 → Nat → St → List UInt8 → Nat → St → Prop
  | here (r : List UInt8) (p : Nat) (s : St) : Rch r p s r p s
  | step {r : List UInt8} {p : Nat} {s : St} {r' : List UInt8} {q : Nat} {s' : St} (hr : r ≠ []) (hb : ∀ o, pcOf r ≠ .bad o) (h : Rch (r.drop (pcOf r).len) (p + (pcOf r).len) (stp p s (pcOf r)) r' q s') : Rch r p s r' q s'
theorem Rch.scn {r : List UInt8} {p : Nat} {s : St} {r' : List UInt8} {q : Nat} {s' : St} (h : Rch r p s r' q s') : Go.Proofs.YtmfdfkbcommjfaaDoor.scn r 0 p s = Go.Proofs.YtmfdfkbcommjfaaDoor.scn r' 0 q s' := by
  induction h with
  | here => rfl
  | step hr hb _ ih => rw [scn_piece hr hb]; exact ih
theorem Rch.suffix {r : List UInt8} {p : Nat} {s : St} {r' : List UInt8} {q : Nat} {s' : St} (h : Rch r p s r' q s') : ∃ l, r = l ++ r' ∧ q = p + l.length := by
  induction h with
  | here => exact ⟨[], rfl, rfl⟩
  | step hr hb _ ih =>
    rename_i r p s r' q s' _
    obtain ⟨l1, l2⟩ := pc_len hr hb
    obtain ⟨l, h1, h2⟩ := ih
    refine ⟨r.take (pcOf r).len ++ l, ?_, ?_⟩
    · rw [List.append_assoc, ← h1, List.take_append_drop]
    · rw [h2, List.length_append, List.length_take]; omega
theorem eol_mem {p : Nat} {l : List Tk} {t : Tk} (h : t ∈ eol p l) : t ∈ l ∨ t.lo = p := by
  rw [eol_def] at h
  split at h
  · rcases List.mem_append.1 h with h | h
    · exact .inl h
    · rw [List.mem_singleton] at h; subst h; exact .inr rfl
  · exact .inl h
theorem stp_mem {p : Nat} {s : St} {pc : Pc} {t : Tk} (h : t ∈ (stp p s pc).toks) : t ∈ s.toks ∨ t.lo = p := by
  cases pc with
  | bad o => exact .inl h
  | line => exact eol_mem h
  | blank => exact .inl h
  | tok k n x =>
    rcases List.mem_append.1 h with h | h
    · exact .inl h
    · rw [List.mem_singleton] at h; subst h; exact .inr rfl
  | rmk n ls =>
    cases ls with
    | true => exact eol_mem h
    | false => exact .inl h
/-- a token begins where a piece begins -/
theorem tok_rch : ∀ (n : Nat) (r : List UInt8) (p : Nat) (s st : St), r.length ≤ n → scn r 0 p s = .ok st → ∀ t ∈ st.toks, t ∈ s.toks ∨ ∃ r' s', Rch r p s r' t.lo s' := by
  intro n
  induction n with
  | zero =>
    intro r p s st hn h t ht
    have : r = [] := List.eq_nil_of_length_eq_zero (by omega)
    subst this
    obtain rfl := Except.ok.inj h
    rcases List.mem_append.1 ht with ht | ht
    · rcases eol_mem ht with ht | ht
      · exact .inl ht
      · exact .inr ⟨[], s, by rw [ht]; exact .here _ _ _⟩
    · rw [List.mem_singleton] at ht; subst ht; exact .inr ⟨[], s, .here _ _ _⟩
  | succ n ih =>
    intro r p s st hn h t ht
    by_cases hr : r = []
    · subst hr; exact ih [] p s st (by simp) h t ht
    have hb := scn_not_bad hr h
    obtain ⟨l1, l2⟩ := pc_len hr hb
    rw [scn_piece hr hb] at h
    rcases ih _ _ _ st (by rw [List.length_drop]; omega) h t ht with h1 | ⟨r', s', h1⟩
    · rcases stp_mem h1 with h2 | h2
      · exact .inl h2
      · exact .inr ⟨r, s, by rw [h2]; exact .here _ _ _⟩
    · exact .inr ⟨r', s', .step hr hb h1⟩
/-- the blanks and the remark that are put in -/
def insL : List UInt8 := [32, 47, 42, 32, 120, 32, 42, 47, 9]
theorem ins_here (r : List UInt8) (p : Nat) (s : St) : scn (insL ++ r) 0 p s = scn r 0 (p + 9) ⟨s.toks, s.rems ++ [(p + 1, p + 8)]⟩ := by
  have e1 : pcOf (insL ++ r) = .blank := rfl
  have e2 : pcOf ((insL ++ r).drop 1) = .rmk 7 false := by
    show pcOf (47 :: 42 :: 32 :: 120 :: 32 :: 42 :: 47 :: 9 :: r) = _
    rw [pcOf_long rfl]
    rfl
  have e3 : pcOf (((insL ++ r).drop 1).drop 7) = .blank := rfl
  rw [scn_piece (by simp [insL]) (by rw [e1]; intro o h; cases h), e1]
  show scn ((insL ++ r).drop 1) 0 (p + 1) s = _
  rw [scn_piece (by simp [insL]) (by rw [e2]; intro o h; cases h), e2]
  show scn (((insL ++ r).drop 1).drop 7) 0 (p + 1 + 7) ⟨s.toks, s.rems ++ [(p + 1, p + 1 + 7)]⟩ = _
  rw [scn_piece (by simp [insL]) (by rw [e3]; intro o h; cases h), e3]
  rfl
theorem short_pc {r1 : List UInt8} (h : isShort r1 = true) (v : List UInt8) : pcOf (r1 ++ v) = .rmk (run notNl (r1 ++ v)) false := by
  match r1, h with
  | b :: c :: t, h =>
    simp only [isShort, Bool.and_eq_true, beq_iff_eq] at h
    obtain ⟨rfl, rfl⟩ := h
    exact pcOf_short rfl
  | [b], h => cases h
  | [], h => cases h
theorem run_through {f : UInt8 → Bool} (l v : List UInt8) (h : ∀ c ∈ l, f c = true) : run f (l ++ v) = l.length + run f v := by
  induction l with
  | nil => simp
  | cons b t ih => simp only [List.cons_append, run, h b (by simp), if_true, List.length_cons]; rw [ih (fun c hc => h c (by simp [hc]))]; omega
theorem run_all {f : UInt8 → Bool} {l v : List UInt8} (h : run f (l ++ v) = l.length) : ∀ c ∈ l, f c = true := by
  induction l with
  | nil => intro c hc; cases hc
  | cons b t ih =>
    simp only [List.cons_append, run, List.length_cons] at h
    split at h
    · rename_i hb
      intro c hc
      rcases List.mem_cons.1 hc with rfl | hc
      · exact hb
      · exact ih (by omega) c hc
    · omega
theorem run_zero {f : UInt8 → Bool} {v : List UInt8} (h : ∀ c, v.head? = some c → f c = false) : run f v = 0 := by
  cases v with
  | nil => rfl
  | cons c t => simp [run, h c rfl]
/-- blanks and a remark put in where a piece begins: the tokens stay -/
theorem ins_rch {r : List UInt8} {p : Nat} {s : St} {r' : List UInt8} {q : Nat} {s' : St} (h : Rch r p s r' q s') : ∀ (l : List UInt8), r = l ++ r' → ∀ s2 : St, s2.toks = s.toks → ∃ s'', scn (l ++ (insL ++ r')) 0 p s2 = scn r' 0 (q + 9) s'' ∧ s''.toks = s'.toks := by
  induction h with
  | here r p s =>
    intro l hl s2 hs2
    have : l = [] := by
      have := congrArg List.length hl
      rw [List.length_append] at this
      exact List.eq_nil_of_length_eq_zero (by omega)
    subst this
    exact ⟨_, ins_here r p s2, hs2⟩
  | step hr hb h ih =>
    rename_i r p s r' q s'
    intro l hl s2 hs2
    obtain ⟨l1, l2⟩ := pc_len hr hb
    obtain ⟨u, hu, hq⟩ := h.suffix
    have hl' : l = r.take (pcOf r).len ++ u := by
      have : l ++ r' = (r.take (pcOf r).len ++ u) ++ r' := by rw [List.append_assoc, ← hu, List.take_append_drop]; exact hl.symm
      exact List.append_cancel_right this
    have hlen : (r.take (pcOf r).len).length = (pcOf r).len := by rw [List.length_take]; omega
    have hne : r.take (pcOf r).len ≠ [] := fun e => by rw [e] at hlen; simp at hlen; omega
    have hsp : r.take (pcOf r).len ++ r.drop (pcOf r).len = r := List.take_append_drop _ _
    have hst : (stp p s2 (pcOf r)).toks = (stp p s (pcOf r)).toks := by
      cases pcOf r with
      | bad o => exact hs2
      | line => simp [stp, hs2]
      | blank => exact hs2
      | tok k n x => simp [stp, hs2]
      | rmk n ls => simp [stp, hs2]
    obtain ⟨s'', h1, h2⟩ := ih u hu (stp p s2 (pcOf r)) hst
    by_cases hsh : isShort (r.take (pcOf r).len) = true ∧ u = []
    · obtain ⟨hsh, rfl⟩ := hsh
      rw [List.nil_append] at hu
      rw [List.append_nil] at hl'
      subst hu
      have hpr : pcOf r = .rmk (run notNl r) false := by have := short_pc hsh (r.drop (pcOf r).len); rw [hsp] at this; exact this
      have hrun : run notNl (r.take (pcOf r).len ++ r.drop (pcOf r).len) = (r.take (pcOf r).len).length := by
        rw [hsp, hlen]
        conv => rhs; rw [hpr]
        rfl
      have hn2 := run_zero (run_next hrun)
      have ha := run_all hrun
      have hp2 := short_pc hsh (insL ++ r.drop (pcOf r).len)
      rw [run_through _ _ ha, run_through insL _ (by decide), hn2] at hp2
      rw [hl']
      generalize hN : (pcOf r).len = N at *
      have hlN : (r.take N).length = N := hlen
      rw [hlN] at hp2
      have hstk : (stp p s (pcOf r)).toks = s.toks := by rw [hpr]; rfl
      refine ⟨⟨s2.toks, s2.rems ++ [(p, p + (N + 9))]⟩, ?_, ?_⟩
      · rw [scn_piece (by simp [hne]) (by rw [hp2]; intro o ho; cases ho), hp2]
        show scn ((r.take N ++ (insL ++ r.drop N)).drop (N + 9)) 0 (p + (N + 9)) _ = _
        have e : (r.take N ++ (insL ++ r.drop N)).drop (N + 9) = r.drop N := by
          rw [← List.append_assoc, List.drop_append, List.drop_of_length_le (by simp [insL]; omega)]
          rw [List.length_append, hlN]
          simp [insL]
        rw [e]
        simp at hq
        rw [hq, Nat.add_assoc]
        rfl
      · show s2.toks = s'.toks
        cases h with
        | here => rw [hs2]; exact hstk.symm
        | step _ _ h => 
          exfalso
          obtain ⟨x, hx, hxq⟩ := h.suffix
          rename_i hb2 hr2
          have := (pc_len hb2 hr2).1
          simp at hq
          omega
    · have hsw : pcOf (l ++ (insL ++ r')) = pcOf r := by
        have := pc_swap (r1 := r.take (pcOf r).len) (v := r.drop (pcOf r).len) (v2 := u ++ (insL ++ r')) hne (by rw [hsp]; exact hb) (by rw [hsp]; exact hlen.symm) (by
          rw [hu]
          match u, hsh with
          | [], hsh => exact .inr (.inr ⟨rfl, by simpa using hsh⟩)
          | [c], _ => exact .inl ⟨c, rfl, rfl, .inr (.inr rfl)⟩
          | c :: d :: u, _ => exact .inl ⟨c, rfl, rfl, .inl rfl⟩)
        rw [hsp, ← List.append_assoc, ← hl'] at this
        exact this
      refine ⟨s'', ?_, h2⟩
      rw [scn_piece (by simp [insL]) (by rw [hsw]; exact hb), hsw]
      have e : (l ++ (insL ++ r')).drop (pcOf r).len = u ++ (insL ++ r') := by
        rw [hl', List.append_assoc, List.drop_append_of_le_length (by omega), List.drop_of_length_le (by omega), List.nil_append]
      rw [e]
      exact h1
/-- the tokens of a text with blanks and a remark put in where a token begins -/
theorem scn_ins {l : List UInt8} {st : St} (h : scn l 0 0 ⟨[], []⟩ = .ok st) {t : Tk} (ht : t ∈ st.toks) : t.lo ≤ l.length ∧ ∃ st2, scn (l.take t.lo ++ (insL ++ l.drop t.lo)) 0 0 ⟨[], []⟩ = .ok st2 ∧ Als 9 st.toks st2.toks := by
  rcases tok_rch l.length l 0 ⟨[], []⟩ st (Nat.le_refl _) h t ht with h1 | ⟨r', s', h1⟩
  · cases h1
  obtain ⟨x, hx, hq⟩ := h1.suffix
  rw [Nat.zero_add] at hq
  have e1 : l.take t.lo = x := by rw [hx, hq]; simp
  have e2 : l.drop t.lo = r' := by rw [hx, hq]; simp
  refine ⟨by rw [hx, List.length_append]; omega, ?_⟩
  rw [e1, e2]
  obtain ⟨s'', h2, h3⟩ := ins_rch h1 x hx ⟨[], []⟩ rfl
  rw [h2]
  have h4 := h1.scn
  rw [h] at h4
  obtain ⟨st2, h5, l', h6, h7⟩ := scn_shift (pre := []) (d := 9) rfl r' 0 t.lo s' s'' st ⟨s''.toks, rfl, by rw [h3]; exact Als.refl _ _⟩ h4.symm
  exact ⟨st2, h5, by rw [h6]; exact h7⟩
end Go.Proofs.YtmfdfkbcommjfaaDoor
