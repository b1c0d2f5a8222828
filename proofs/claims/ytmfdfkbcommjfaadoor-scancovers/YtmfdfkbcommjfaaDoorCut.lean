/-
  Plain facts: a piece stays, whatever comes behind it that does not go on with it.
-/
import Derived.Test.YtmfdfkbcommjfaaDoorPcEnd
namespace Go.Proofs.YtmfdfkbcommjfaaDoor
theorem run_app {f : UInt8 → Bool} {l v v2 : List UInt8} (h : run f (l ++ v) = l.length) (h2 : ∀ c, v2.head? = some c → f c = false) : run f (l ++ v2) = l.length := by
  induction l with
  | nil =>
    cases v2 with
    | nil => rfl
    | cons c t => simp [run, h2 c rfl]
  | cons b t ih =>
    simp only [List.cons_append, run, List.length_cons] at h ⊢
    split at h
    · rename_i hb; rw [if_pos hb, ih (by omega)]
    · omega
theorem run_next {f : UInt8 → Bool} {l v : List UInt8} (h : run f (l ++ v) = l.length) : ∀ c, v.head? = some c → f c = false := by
  intro c hc
  apply run_stop (l := l ++ v)
  rw [h, List.getElem?_append_right (Nat.le_refl _), Nat.sub_self, ← List.head?_eq_getElem?]; exact hc
theorem strL_pre {v v2 : List UInt8} (l : List UInt8) : ∀ (esc : Bool) (k : Nat) (acc x : List UInt8), strL (l ++ v) esc k acc = .ok (k + l.length, x) → strL (l ++ v2) esc k acc = .ok (k + l.length, x) := by
  induction l with
  | nil => intro esc k acc x h; have := (strL_end _ _ _ _ _ _ h).1; simp at this
  | cons b t ih =>
    intro esc k acc x h
    cases esc with
    | true =>
      simp only [List.cons_append, strL] at h ⊢
      rw [List.length_cons, show k + (t.length + 1) = k + 1 + t.length by omega] at h ⊢
      exact ih _ _ _ _ h
    | false =>
      simp only [List.cons_append, strL] at h ⊢
      rw [List.length_cons, show k + (t.length + 1) = k + 1 + t.length by omega] at h ⊢
      by_cases h1 : b = 92
      · rw [if_pos h1] at h ⊢
        cases t with
        | nil =>
          exfalso
          split at h
          · have := (strL_end _ _ _ _ _ _ h).1; simp at this
          · cases h
        | cons c t =>
          have e1 : ((c :: t) ++ v).head? = some c := rfl
          have e2 : ((c :: t) ++ v2).head? = some c := rfl
          rw [e1] at h
          rw [e2]
          cases he : (some c).bind escOf with
          | none => rw [he] at h; cases h
          | some e => rw [he] at h; exact ih _ _ _ _ h
      · rw [if_neg h1] at h ⊢
        by_cases h2 : b = 34
        · rw [if_pos h2] at h ⊢; exact h
        · rw [if_neg h2] at h ⊢
          by_cases h3 : b = 10
          · rw [if_pos h3] at h; cases h
          · rw [if_neg h3] at h ⊢; exact ih _ _ _ _ h
theorem endOf_pre {v v2 : List UInt8} (l : List UInt8) : ∀ k, endOf (l ++ v) = some k → k + 2 = l.length → endOf (l ++ v2) = some k := by
  induction l with
  | nil => intro k _ h; simp at h
  | cons b t ih =>
    intro k h hk
    simp only [List.cons_append, endOf] at h ⊢
    cases t with
    | nil => simp at hk
    | cons c t =>
      have e1 : ((c :: t) ++ v).head? = some c := rfl
      have e2 : ((c :: t) ++ v2).head? = some c := rfl
      rw [e1] at h
      rw [e2]
      split at h
      · rename_i q; rw [if_pos q]; exact h
      · rename_i q
        rw [if_neg q]
        cases h3 : endOf (c :: t ++ v) with
        | none => rw [h3] at h; cases h
        | some j => rw [h3] at h; have h4 : j + 1 = k := Option.some.inj h; rw [ih j h3 (by simp at hk ⊢; omega)]; rw [← h4]; rfl
theorem sgn_d {b c d d' : UInt8} (h : b = 46 → c = 46 → (d = 46 ↔ d' = 46)) : sgn b c d = sgn b c d' := by
  unfold sgn
  by_cases hb : b = 46
  · rw [if_pos hb, if_pos hb]
    by_cases hc : c = 46
    · have := h hb hc
      by_cases hd : d = 46
      · rw [if_pos ⟨hc, hd⟩, if_pos ⟨hc, this.1 hd⟩]
      · rw [if_neg (fun q => hd q.2), if_neg (fun q => hd (this.2 q.2))]
    · rw [if_neg (fun q => hc q.1), if_neg (fun q => hc q.1)]
  · rw [if_neg hb, if_neg hb]
theorem sgn_gap {b c d c' d' : UInt8} (h : sgn b c d = 1) (h2 : c' = 10 ∨ c' = 32) : sgn b c' d' = 1 := by
  have n1 : c' ≠ 46 := by rcases h2 with rfl | rfl <;> decide
  have n2 : c' ≠ 43 := by rcases h2 with rfl | rfl <;> decide
  have n3 : c' ≠ 61 := by rcases h2 with rfl | rfl <;> decide
  have n4 : c' ≠ 45 := by rcases h2 with rfl | rfl <;> decide
  have n5 : c' ≠ 38 := by rcases h2 with rfl | rfl <;> decide
  have n6 : c' ≠ 124 := by rcases h2 with rfl | rfl <;> decide
  unfold sgn at h ⊢
  by_cases h0 : b = 46
  · rw [if_pos h0, if_neg (fun q => n1 q.1)]
  rw [if_neg h0] at h ⊢
  by_cases h1 : b = 38 ∨ b = 124
  · rw [if_pos h1, if_neg (fun q => by rcases h1 with h1 | h1; exact n5 (q.trans h1); exact n6 (q.trans h1))]
  rw [if_neg h1] at h ⊢
  by_cases h3 : b = 43
  · rw [if_pos h3, if_neg (fun q => q.elim n2 n3)]
  rw [if_neg h3] at h ⊢
  by_cases h4 : b = 45 ∨ b = 60
  · rw [if_pos h4, if_neg n4, if_neg n3]
  rw [if_neg h4] at h ⊢
  by_cases h5 : b = 42 ∨ b = 47 ∨ b = 37 ∨ b = 33 ∨ b = 61 ∨ b = 62 ∨ b = 58
  · rw [if_pos h5, if_neg n3]
  rw [if_neg h5] at h ⊢
  exact h
/-- another text behind a piece that leaves the piece as it is -/
def Ok2 (v v2 : List UInt8) (short : Bool) : Prop :=
  (∃ c, v.head? = some c ∧ v2.head? = some c ∧ ((v.drop 1).head? = (v2.drop 1).head? ∨ (v2.drop 1).head? = some 10 ∨ (v2.drop 1).head? = some 32)) ∨ v2.head? = some 10 ∨ (v2.head? = some 32 ∧ short = false)
theorem Ok2.stop {v v2 : List UInt8} {sh : Bool} (h : Ok2 v v2 sh) {f : UInt8 → Bool} (hv : ∀ c, v.head? = some c → f c = false) (h10 : f 10 = false) (h32 : sh = true ∨ f 32 = false) : ∀ c, v2.head? = some c → f c = false := by
  intro c hc
  rcases h with ⟨c', h1, h2, _⟩ | h | ⟨h, hs⟩
  · rw [hc] at h2; exact hv c (h1.trans h2.symm)
  · rw [hc] at h; rw [Option.some.inj h]; exact h10
  · rw [hc] at h; rw [Option.some.inj h]
    rcases h32 with h32 | h32
    · rw [hs] at h32; cases h32
    · exact h32
theorem headD_of {l : List UInt8} {c : UInt8} (h : l.head? = some c) : l.headD 0 = c := by
  cases l with
  | nil => cases h
  | cons b t => exact Option.some.inj h
def isShort : List UInt8 → Bool
  | b :: c :: _ => b == 47 && c == 47
  | _ => false
/-- a piece whose bytes are r1 stays, whatever comes behind it that doesn't go on with it -/
theorem pc_swap {r1 v v2 : List UInt8} (hn : r1 ≠ []) (hb : ∀ o, pcOf (r1 ++ v) ≠ .bad o) (hl : (pcOf (r1 ++ v)).len = r1.length) (hv : Ok2 v v2 (isShort r1)) : pcOf (r1 ++ v2) = pcOf (r1 ++ v) := by
  cases r1 with
  | nil => exact absurd rfl hn
  | cons b t =>
    rw [List.cons_append] at hb hl ⊢
    rw [List.cons_append]
    by_cases h1 : b = 10
    · subst h1; rfl
    by_cases h2 : b = 32 ∨ b = 9 ∨ b = 13
    · have e : ∀ u, pcOf (b :: u) = .blank := fun u => by simp only [pcOf]; rw [if_neg h1, if_pos h2]
      rw [e, e]
    by_cases h3 : ltr b = true
    · rw [pcOf_name h1 h2 h3] at hb hl ⊢
      rw [pcOf_name h1 h2 h3]
      split at hb
      · exact absurd rfl (hb 0)
      rename_i hn
      rw [if_neg hn] at hl ⊢
      have hl2 : run lod ((b :: t) ++ v) = (b :: t).length := hl
      have hr := run_app hl2 (hv.stop (run_next hl2) (by decide) (.inr (by decide)))
      rw [List.cons_append] at hl2 hr
      rw [hl2] at hn
      rw [hr, hl2, if_neg hn]
      have e1 : (b :: (t ++ v)).take (b :: t).length = b :: t := by rw [← List.cons_append]; simp
      have e2 : (b :: (t ++ v2)).take (b :: t).length = b :: t := by rw [← List.cons_append]; simp
      rw [e1, e2]
    have h3' : ltr b = false := by simpa using h3
    by_cases h4 : dgt b = true
    · rw [pcOf_num h1 h2 h3' h4] at hb hl ⊢
      rw [pcOf_num h1 h2 h3' h4]
      split at hb
      · exact absurd rfl (hb 0)
      rename_i hn
      rw [if_neg hn] at hl ⊢
      have hl2 : run dgt ((b :: t) ++ v) = (b :: t).length := hl
      have hr := run_app hl2 (hv.stop (run_next hl2) (by decide) (.inr (by decide)))
      rw [List.cons_append] at hl2 hr
      rw [hl2] at hn
      rw [hr, hl2]
      have e1 : (b :: (t ++ v)).take (b :: t).length = b :: t := by rw [← List.cons_append]; simp
      have e2 : (b :: (t ++ v2)).take (b :: t).length = b :: t := by rw [← List.cons_append]; simp
      have d1 : (b :: (t ++ v)).drop (b :: t).length = v := by rw [← List.cons_append]; simp
      have d2 : (b :: (t ++ v2)).drop (b :: t).length = v2 := by rw [← List.cons_append]; simp
      have hnb : numBad (b :: (t ++ v2)) (b :: t).length = false := by
        have hn' : numBad (b :: (t ++ v)) (b :: t).length = false := by simpa using hn
        unfold numBad at hn' ⊢
        rw [d1] at hn'
        rw [d2]
        rw [Bool.or_eq_false_iff] at hn' ⊢
        refine ⟨hn'.1, ?_⟩
        have hs := hv.stop (f := ltr) (fun c hc => by
          cases v with
          | nil => cases hc
          | cons c' v => rw [← Option.some.inj hc]; exact hn'.2) (by decide) (.inr (by decide))
        cases v2 with
        | nil => rfl
        | cons c' v2 => exact hs c' rfl
      rw [if_neg (by rw [hnb]; decide), e1, e2]
    have h4' : dgt b = false := by simpa using h4
    by_cases h5 : b = 34
    · subst h5
      rw [pcOf_str] at hb hl ⊢
      rw [pcOf_str]
      cases hs : strL (t ++ v) false 1 [] with
      | error o => rw [hs] at hb; exact absurd rfl (hb o)
      | ok y =>
        obtain ⟨n, x⟩ := y
        rw [hs] at hl
        have hn : n = t.length + 1 := hl
        rw [strL_pre t false 1 [] x (by rw [hs, hn, Nat.add_comm]) (v2 := v2), hn, Nat.add_comm]
    by_cases h6 : b = 47 ∧ (t ++ v).head? = some 47
    · obtain ⟨rfl, h6⟩ := h6
      rw [pcOf_short h6] at hl ⊢
      have hl2 : run notNl ((47 :: t) ++ v) = (47 :: t).length := hl
      cases t with
      | nil =>
        exfalso
        have := run_next hl2 47 h6
        exact absurd this (by decide)
      | cons c t =>
        have hc : c = 47 := Option.some.inj h6
        subst hc
        have hr := run_app hl2 (hv.stop (run_next hl2) (by decide) (.inl rfl))
        rw [pcOf_short rfl]
        rw [show (47 :: (47 :: t ++ v2)) = (47 :: 47 :: t) ++ v2 from rfl, hr, show (47 :: (47 :: t ++ v)) = (47 :: 47 :: t) ++ v from rfl, hl2]
    by_cases h7 : b = 47 ∧ (t ++ v).head? = some 42
    · obtain ⟨rfl, h7⟩ := h7
      rw [pcOf_long h7] at hb hl ⊢
      cases hs : endOf ((t ++ v).drop 1) with
      | none => rw [hs] at hb; exact absurd rfl (hb 0)
      | some k =>
        rw [hs] at hl
        have hk : k + 4 = t.length + 1 := hl
        cases t with
        | nil => simp at hk
        | cons c t =>
          have hc : c = 42 := Option.some.inj h7
          subst hc
          rw [pcOf_long rfl]
          have hs' : endOf (t ++ v) = some k := hs
          have hk' : k + 2 = t.length := by simp at hk; omega
          have e := endOf_pre t k hs' hk' (v2 := v2)
          show (match endOf (t ++ v2) with | none => Pc.bad 0 | some k => .rmk (k + 4) (((t ++ v2).take k).contains 10)) = .rmk (k + 4) (((t ++ v).take k).contains 10)
          rw [e]
          show Pc.rmk (k + 4) (((t ++ v2).take k).contains 10) = .rmk (k + 4) (((t ++ v).take k).contains 10)
          rw [List.take_append_of_le_length (by omega), List.take_append_of_le_length (by omega)]
    by_cases h8 : b = 59
    · subst h8; rfl
    rw [pcOf_sign h1 h2 h3' h4' h5 h6 h7 h8] at hb hl ⊢
    split at hb
    · exact absurd rfl (hb 0)
    rename_i hn
    rw [if_neg hn] at hl ⊢
    have hl2 : sgn b ((t ++ v).headD 0) (((t ++ v).drop 1).headD 0) = t.length + 1 := hl
    have hle := sgn_le3 b ((t ++ v).headD 0) (((t ++ v).drop 1).headD 0)
    have key : ∀ (q : ¬ (b = 47 ∧ (t ++ v2).head? = some 47)) (q2 : ¬ (b = 47 ∧ (t ++ v2).head? = some 42)) (e : sgn b ((t ++ v2).headD 0) (((t ++ v2).drop 1).headD 0) = t.length + 1), pcOf (b :: (t ++ v2)) = .tok 5 (sgn b ((t ++ v).headD 0) (((t ++ v).drop 1).headD 0)) ((b :: (t ++ v)).take (sgn b ((t ++ v).headD 0) (((t ++ v).drop 1).headD 0))) := by
      intro q q2 e
      rw [pcOf_sign h1 h2 h3' h4' h5 q q2 h8, e, if_neg (by omega), hl2]
      have e1 : (b :: (t ++ v)).take (t.length + 1) = b :: t := by simp
      have e2 : (b :: (t ++ v2)).take (t.length + 1) = b :: t := by simp
      rw [e1, e2]
    match t, hl2, key, h6, h7, hle with
    | [], hl2, key, h6, h7, _ =>
      rw [List.nil_append] at *
      rcases hv with ⟨c, q1, q2, q3⟩ | q | ⟨q, _⟩
      · refine key (by rw [q2, ← q1]; exact h6) (by rw [q2, ← q1]; exact h7) ?_
        rw [headD_of q1] at hl2
        rw [headD_of q2, ← hl2]
        apply sgn_d
        intro eb ec
        subst eb; subst ec
        have hnd : ((v.drop 1).headD 0) ≠ 46 := fun e => by
          rw [e] at hl2; exact absurd hl2 (by decide)
        refine ⟨fun e => absurd ?_ hnd, fun e => absurd e hnd⟩
        rcases q3 with q3 | q3 | q3
        · rw [← e, List.headD_eq_head?_getD, List.headD_eq_head?_getD, q3]
        · rw [headD_of q3] at e; exact absurd e (by decide)
        · rw [headD_of q3] at e; exact absurd e (by decide)
      · refine key (by rw [q]; rintro ⟨_, e⟩; exact absurd (Option.some.inj e) (by decide)) (by rw [q]; rintro ⟨_, e⟩; exact absurd (Option.some.inj e) (by decide)) ?_
        rw [headD_of q]; exact sgn_gap hl2 (.inl rfl)
      · refine key (by rw [q]; rintro ⟨_, e⟩; exact absurd (Option.some.inj e) (by decide)) (by rw [q]; rintro ⟨_, e⟩; exact absurd (Option.some.inj e) (by decide)) ?_
        rw [headD_of q]; exact sgn_gap hl2 (.inr rfl)
    | [c], hl2, key, h6, h7, _ =>
      refine key h6 h7 ?_
      rw [← hl2]
      apply sgn_d
      intro eb ec
      exfalso
      have eb' : b = 46 := eb
      subst eb'
      have hl3 : sgn 46 c (([c] ++ v).drop 1 |>.headD 0) = 2 := hl2
      unfold sgn at hl3
      rw [if_pos rfl] at hl3
      split at hl3 <;> cases hl3
    | [c, d], hl2, key, h6, h7, _ =>
      refine key h6 h7 ?_
      exact hl2
    | c :: d :: e :: t, hl2, _, _, _, hle => simp at hl2; simp at hle; omega
end Go.Proofs.YtmfdfkbcommjfaaDoor
