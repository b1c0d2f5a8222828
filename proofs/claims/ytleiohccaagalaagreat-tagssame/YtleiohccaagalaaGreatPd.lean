/-
  Texts of rules in plain Lean: their pieces, their lengths; what was read, read back.
-/
import Derived.Test.YtleiohccaagalaaGreatRed
namespace Go.Proofs.YtleiohccaagalaaGreat
/-- what follows does not go on with a tag -/
def Hd (X : Bs) : Prop := ∀ c, X.head? = some c → inT c = false
theorem run_app (s X : Bs) (hX : Hd X) : run inT (s ++ X) = run inT s := by
  induction s with
  | nil =>
    cases X with
    | nil => rfl
    | cons c r => simp [run, hX c rfl]
  | cons c r ih => simp only [List.cons_append, run, ih]
theorem sgA_app (c : UInt8) (r X : Bs) (hX : Hd X) (h0 : sgA (c :: r) ≠ 0) : sgA (c :: (r ++ X)) = sgA (c :: r) := by
  simp only [sgA] at h0 ⊢
  split
  · rfl
  · split
    · rename_i h1 h2
      rw [if_neg h1, if_pos h2] at h0
      have hr : r.head? = some c := by
        by_cases h : r.head? = some c
        · exact h
        · rw [if_neg h] at h0; exact absurd rfl h0
      cases r with
      | nil => cases hr
      | cons d r => rw [if_pos hr, if_pos (by simpa using hr)]
    · exact run_app (c :: r) X hX
/-- pieces put together -/
theorem pcs_app : ∀ (n : Nat) (s X : Bs) (l : List Bs), s.length ≤ n → Hd X → pcs s = some l → pcs (s ++ X) = (pcs X).map (l ++ ·)
  | _, [], X, l, _, _, h => by
    rw [pcs_nil] at h
    cases h
    cases h2 : pcs X <;> simp [h2]
  | 0, _ :: _, _, _, h, _, _ => by simp at h
  | n + 1, c :: r, X, l, hn, hX, h => by
    simp at hn
    by_cases hb : c = 32
    · subst hb
      rw [pcs_blank] at h
      rw [List.cons_append, pcs_blank]
      exact pcs_app n r X l hn hX h
    · by_cases h0 : sgA (c :: r) = 0
      · rw [pcs_none hb h0] at h; cases h
      · rw [pcs_some hb h0] at h
        have e := sgA_app c r X hX h0
        have hle := sgA_le (c :: r)
        rw [List.cons_append, pcs_some hb (by rw [e]; exact h0), e]
        have e1 : (c :: (r ++ X)).drop (sgA (c :: r)) = (c :: r).drop (sgA (c :: r)) ++ X := by rw [← List.cons_append, List.drop_append_of_le_length hle]
        have e2 : (c :: (r ++ X)).take (sgA (c :: r)) = (c :: r).take (sgA (c :: r)) := by rw [← List.cons_append, List.take_append_of_le_length hle]
        rw [e1, e2]
        cases hp : pcs ((c :: r).drop (sgA (c :: r))) with
        | none => rw [hp] at h; cases h
        | some m =>
          rw [hp] at h
          simp only [Option.map_some, Option.some.injEq] at h
          subst h
          rw [pcs_app n _ X m (by simp at hle ⊢; omega) hX hp]
          cases pcs X <;> simp
/-- a piece of a line -/
def Pce (t : Bs) : Prop := t = sNot ∨ t = sO ∨ t = sC ∨ t = sAnd ∨ t = sOr ∨ (t ≠ [] ∧ ∀ c ∈ t, inT c = true)
theorem run_all (s : Bs) : ∀ c ∈ s.take (run inT s), inT c = true := by
  induction s with
  | nil => simp [run]
  | cons c r ih =>
    simp only [run]
    split
    · rename_i h
      intro d hd
      rw [List.take_succ_cons] at hd
      rcases List.mem_cons.1 hd with rfl | hd
      · exact h
      · exact ih d hd
    · simp
theorem sgA_pce (c : UInt8) (r : Bs) (h0 : sgA (c :: r) ≠ 0) : Pce ((c :: r).take (sgA (c :: r))) := by
  simp only [sgA] at h0 ⊢
  split
  · rename_i h
    rcases h with rfl | rfl | rfl <;> simp [Pce, sNot, sO, sC]
  · split
    · rename_i h1 h2
      rw [if_neg h1, if_pos h2] at h0
      have hr : r.head? = some c := by
        by_cases h : r.head? = some c
        · exact h
        · rw [if_neg h] at h0; exact absurd rfl h0
      cases r with
      | nil => cases hr
      | cons d r =>
        simp only [List.head?_cons, Option.some.injEq] at hr
        subst hr
        rcases h2 with rfl | rfl <;> simp [Pce, sAnd, sOr]
    · rename_i h1 h2
      rw [if_neg h1, if_neg h2] at h0
      refine .inr (.inr (.inr (.inr (.inr ⟨?_, run_all _⟩))))
      intro e
      have := congrArg List.length e
      rw [List.length_take] at this
      have hl := run_le inT (c :: r)
      simp at this hl
      omega
theorem pcs_pce : ∀ (n : Nat) (s : Bs) (l : List Bs), s.length ≤ n → pcs s = some l → (∀ t ∈ l, Pce t ∧ t.length ≤ s.length) ∧ l.length ≤ s.length
  | _, [], l, _, h => by rw [pcs_nil] at h; cases h; simp
  | 0, _ :: _, _, h, _ => by simp at h
  | n + 1, c :: r, l, hn, h => by
    simp at hn
    by_cases hb : c = 32
    · subst hb
      rw [pcs_blank] at h
      obtain ⟨h1, h2⟩ := pcs_pce n r l hn h
      exact ⟨fun t ht => ⟨(h1 t ht).1, by have := (h1 t ht).2; simp; omega⟩, by simp; omega⟩
    · by_cases h0 : sgA (c :: r) = 0
      · rw [pcs_none hb h0] at h; cases h
      · rw [pcs_some hb h0] at h
        cases hp : pcs ((c :: r).drop (sgA (c :: r))) with
        | none => rw [hp] at h; cases h
        | some m =>
          rw [hp] at h
          simp only [Option.map_some, Option.some.injEq] at h
          subst h
          have hle := sgA_le (c :: r)
          obtain ⟨h1, h2⟩ := pcs_pce n _ m (by simp; omega) hp
          refine ⟨fun t ht => ?_, ?_⟩
          · rcases List.mem_cons.1 ht with rfl | ht
            · exact ⟨sgA_pce c r h0, by simp; omega⟩
            · exact ⟨(h1 t ht).1, by have := (h1 t ht).2; simp at this ⊢; omega⟩
          · simp at h2 ⊢; omega
/-- names of letters and digits alone -/
def Gt (p : Pt) : Prop := ∀ s ∈ p.names, s ≠ [] ∧ ∀ c ∈ s, inT c = true
theorem run_full (s : Bs) (h : ∀ c ∈ s, inT c = true) : run inT s = s.length := by
  induction s with
  | nil => rfl
  | cons c r ih => simp only [run]; rw [if_pos (h c (by simp)), ih (fun d hd => h d (by simp [hd]))]; rfl
theorem inT_not (c : UInt8) (h : inT c = true) : c ≠ 32 ∧ c ≠ 33 ∧ c ≠ 40 ∧ c ≠ 41 ∧ c ≠ 38 ∧ c ≠ 124 ∧ c ≠ 10 := by
  refine ⟨?_, ?_, ?_, ?_, ?_, ?_, ?_⟩ <;> (rintro rfl; exact absurd h (by decide))
theorem pcs_tag (s : Bs) (hne : s ≠ []) (h : ∀ c ∈ s, inT c = true) : pcs s = some [s] := by
  cases s with
  | nil => exact absurd rfl hne
  | cons c r =>
    obtain ⟨h1, h2, h3, h4, h5, h6, _⟩ := inT_not c (h c (by simp))
    have e : sgA (c :: r) = (c :: r).length := by
      simp only [sgA]
      rw [if_neg (by simp [h2, h3, h4]), if_neg (by simp [h5, h6])]
      exact run_full _ h
    rw [pcs_some h1 (by rw [e]; simp), e, List.drop_length, List.take_length, pcs_nil]
    rfl
theorem pcs_one (c : UInt8) (h : c = 33 ∨ c = 40 ∨ c = 41) (X : Bs) : pcs (c :: X) = (pcs X).map ([c] :: ·) := by
  have e : sgA (c :: X) = 1 := by simp only [sgA]; rw [if_pos h]
  rw [pcs_some (by rcases h with rfl | rfl | rfl <;> decide) (by rw [e]; decide), e]
  rfl
theorem pcs_two (c : UInt8) (h : c = 38 ∨ c = 124) (X : Bs) : pcs (c :: c :: X) = (pcs X).map ([c, c] :: ·) := by
  have e : sgA (c :: c :: X) = 2 := by
    simp only [sgA]
    rw [if_neg (by rcases h with rfl | rfl <;> decide), if_pos h]
    simp
  rw [pcs_some (by rcases h with rfl | rfl <;> decide) (by rw [e]; decide), e]
  rfl
theorem hd_of {c : UInt8} {X : Bs} (h : inT c = false) : Hd (c :: X) := by intro d hd; simp at hd; subst hd; exact h
theorem brk_pcs {p : Pt} (k : Nat) (ih : ∀ X, Hd X → pcs (p.text ++ X) = (pcs X).map (toks p ++ ·)) (X : Bs) (hX : Hd X) : pcs (p.brk k p.text ++ X) = (pcs X).map (bt k p ++ ·) := by
  simp only [Pt.brk, bt, brkL]
  split
  · rw [List.cons_append, pcs_one 40 (by decide), List.append_assoc, List.singleton_append, ih _ (hd_of (by decide)), pcs_one 41 (by decide)]
    cases pcs X <;> simp [sO, sC]
  · exact ih X hX
theorem pcs_text (p : Pt) : Gt p → ∀ X, Hd X → pcs (p.text ++ X) = (pcs X).map (toks p ++ ·) := by
  induction p with
  | yes =>
    intro _ X hX
    rw [pcs_app 4 Pt.yes.text X [sTrue] (by decide) hX (pcs_tag _ (by decide) (by decide))]
    rfl
  | tag s =>
    intro h X hX
    obtain ⟨h1, h2⟩ := h s (by simp [Pt.names])
    rw [show (Pt.tag s).text = s from rfl, pcs_app s.length s X [s] (Nat.le_refl _) hX (pcs_tag s h1 h2)]
    rfl
  | not q ih =>
    intro h X hX
    show pcs (33 :: (q.brk 2 q.text ++ X)) = _
    rw [pcs_one 33 (by decide), brk_pcs 2 (ih h) X hX]
    cases pcs X <;> simp [toks, bt, sNot]
  | both l r ihl ihr =>
    intro h X hX
    have hl : Gt l := fun s hs => h s (by simp [Pt.names, hs])
    have hr : Gt r := fun s hs => h s (by simp [Pt.names, hs])
    show pcs ((l.brk 1 l.text ++ 32 :: 38 :: 38 :: 32 :: r.brk 1 r.text) ++ X) = _
    rw [List.append_assoc, List.cons_append, brk_pcs 1 (ihl hl) _ (hd_of (by decide))]
    show Option.map _ (pcs (32 :: 38 :: 38 :: 32 :: (r.brk 1 r.text ++ X))) = _
    rw [pcs_blank, pcs_two 38 (by decide), pcs_blank, brk_pcs 1 (ihr hr) X hX]
    cases pcs X <;> simp [toks, bt, sAnd]
  | either l r ihl ihr =>
    intro h X hX
    have hl : Gt l := fun s hs => h s (by simp [Pt.names, hs])
    have hr : Gt r := fun s hs => h s (by simp [Pt.names, hs])
    show pcs ((l.brk 0 l.text ++ 32 :: 124 :: 124 :: 32 :: r.brk 0 r.text) ++ X) = _
    rw [List.append_assoc, List.cons_append, brk_pcs 0 (ihl hl) _ (hd_of (by decide))]
    show Option.map _ (pcs (32 :: 124 :: 124 :: 32 :: (r.brk 0 r.text ++ X))) = _
    rw [pcs_blank, pcs_two 124 (by decide), pcs_blank, brk_pcs 0 (ihr hr) X hX]
    cases pcs X <;> simp [toks, bt, sOr]
theorem brk_mem {p : Pt} {k : Nat} {c : UInt8} (h : c ∈ p.brk k p.text) : c = 40 ∨ c = 41 ∨ c ∈ p.text := by
  simp only [Pt.brk] at h
  split at h
  · simp at h; rcases h with h | h | h <;> simp [h]
  · exact .inr (.inr h)
/-- no line ends within a text -/
theorem text_nl (p : Pt) : Gt p → ∀ c ∈ p.text, c ≠ 10 := by
  induction p with
  | yes => intro _ c hc; simp [Pt.text] at hc; rcases hc with rfl | rfl | rfl | rfl <;> decide
  | tag s => intro h c hc; exact (inT_not c ((h s (by simp [Pt.names])).2 c hc)).2.2.2.2.2.2
  | not q ih =>
    intro h c hc
    simp only [Pt.text, List.mem_cons] at hc
    rcases hc with rfl | hc
    · decide
    · rcases brk_mem hc with rfl | rfl | hc
      · decide
      · decide
      · exact ih h c hc
  | both l r ihl ihr =>
    intro h c hc
    simp only [Pt.text, List.mem_append, List.mem_cons] at hc
    rcases hc with hc | rfl | rfl | rfl | rfl | hc
    · rcases brk_mem hc with rfl | rfl | hc
      · decide
      · decide
      · exact ihl (fun s hs => h s (by simp [Pt.names, hs])) c hc
    · decide
    · decide
    · decide
    · decide
    · rcases brk_mem hc with rfl | rfl | hc
      · decide
      · decide
      · exact ihr (fun s hs => h s (by simp [Pt.names, hs])) c hc
  | either l r ihl ihr =>
    intro h c hc
    simp only [Pt.text, List.mem_append, List.mem_cons] at hc
    rcases hc with hc | rfl | rfl | rfl | rfl | hc
    · rcases brk_mem hc with rfl | rfl | hc
      · decide
      · decide
      · exact ihl (fun s hs => h s (by simp [Pt.names, hs])) c hc
    · decide
    · decide
    · decide
    · decide
    · rcases brk_mem hc with rfl | rfl | hc
      · decide
      · decide
      · exact ihr (fun s hs => h s (by simp [Pt.names, hs])) c hc
theorem eol_none (s : Bs) (h : ∀ c ∈ s, c ≠ 10) (X : Bs) : eol (s ++ 10 :: X) = s ∧ eol s = s := by
  constructor
  · unfold eol; rw [List.takeWhile_append_of_pos (by simpa using h)]; simp
  · have := List.takeWhile_append_of_pos (p := fun x => x != 10) (l₁ := s) (l₂ := []) (by simpa using h)
    unfold eol
    rw [List.append_nil] at this
    rw [this]; simp
theorem bt_text {p : Pt} {M k : Nat} (h : p.text.length ≤ (toks p).length * (M + 2)) : (p.brk k p.text).length ≤ (bt k p).length * (M + 2) := by
  simp only [Pt.brk, bt, brkL]
  split
  · simp only [List.length_cons, List.length_append, List.length_nil]
    rw [Nat.add_mul, Nat.add_mul]; omega
  · exact h
theorem text_le (p : Pt) (M : Nat) (hM : 4 ≤ M) : (∀ s ∈ p.names, s.length ≤ M) → p.text.length ≤ (toks p).length * (M + 2) := by
  induction p with
  | yes => intro _; simp [Pt.text, toks]; omega
  | tag s => intro h; have := h s (by simp [Pt.names]); simp [Pt.text, toks]; omega
  | not q ih =>
    intro h
    have := bt_text (k := 2) (ih h)
    simp only [Pt.text, toks, List.length_cons, bt] at this ⊢
    rw [Nat.add_mul]; omega
  | both l r ihl ihr =>
    intro h
    have h1 := bt_text (k := 1) (ihl fun s hs => h s (by simp [Pt.names, hs]))
    have h2 := bt_text (k := 1) (ihr fun s hs => h s (by simp [Pt.names, hs]))
    simp only [Pt.text, toks, List.length_append, List.length_cons, bt] at h1 h2 ⊢
    rw [Nat.add_mul, Nat.add_mul]; omega
  | either l r ihl ihr =>
    intro h
    have h1 := bt_text (k := 0) (ihl fun s hs => h s (by simp [Pt.names, hs]))
    have h2 := bt_text (k := 0) (ihr fun s hs => h s (by simp [Pt.names, hs]))
    simp only [Pt.text, toks, List.length_append, List.length_cons, bt] at h1 h2 ⊢
    rw [Nat.add_mul, Nat.add_mul]; omega
theorem bt_ge (k : Nat) (p : Pt) : (toks p).length ≤ (bt k p).length := by simp only [bt, brkL]; split <;> simp <;> omega
theorem names_le (p : Pt) : p.names.length ≤ (toks p).length := by
  induction p with
  | yes => simp [Pt.names]
  | tag s => simp [Pt.names, toks]
  | not q ih => have := bt_ge 2 q; simp only [Pt.names, toks, List.length_cons, bt] at this ⊢; omega
  | both l r ihl ihr => have h1 := bt_ge 1 l; have h2 := bt_ge 1 r; simp only [Pt.names, toks, List.length_append, List.length_cons, bt] at h1 h2 ⊢; omega
  | either l r ihl ihr => have h1 := bt_ge 0 l; have h2 := bt_ge 0 r; simp only [Pt.names, toks, List.length_append, List.length_cons, bt] at h1 h2 ⊢; omega
theorem readR_head (s : Bs) : readR (head8 ++ s) = lineR (eol s) := by
  unfold readR
  rw [if_pos (by rw [List.isPrefixOf_iff_prefix]; exact List.prefix_append _ _)]
  rfl
theorem lineR_some {s : Bs} {p : Pt} : lineR s = some p ↔ ∃ l, pcs s = some l ∧ l.length ≤ 200 ∧ parse l = some p := by
  unfold lineR
  cases pcs s with
  | none => simp
  | some l =>
    simp only [Option.bind_some]
    constructor
    · intro h
      split at h
      · rename_i h1; exact ⟨l, rfl, h1, h⟩
      · cases h
    · rintro ⟨l', e, h1, h2⟩
      cases e
      rw [if_pos h1]; exact h2
/-- what is known of a rule that was read -/
structure Rdd (p : Pt) (N : Nat) : Prop where
  gt : Gt p
  tg : Tg p
  toks : (toks p).length ≤ 200
  len : ∀ s ∈ p.names, s.length ≤ N
theorem rdd_line {s : Bs} {p : Pt} (h : lineR s = some p) : Rdd p s.length := by
  obtain ⟨l, hp, hl, ha⟩ := lineR_some.1 h
  obtain ⟨_, hn, ht⟩ := parse_snd ha
  obtain ⟨h1, _⟩ := pcs_pce _ s l (Nat.le_refl _) hp
  refine ⟨fun x hx => ?_, fun x hx => (hn x hx).2, by omega, fun x hx => (h1 x (hn x hx).1).2⟩
  have hi := (hn x hx).2.1
  rcases (h1 x (hn x hx).1).1 with rfl | rfl | rfl | rfl | rfl | h
  · exact absurd hi (by decide)
  · exact absurd hi (by decide)
  · exact absurd hi (by decide)
  · exact absurd hi (by decide)
  · exact absurd hi (by decide)
  · exact h
theorem rdd_read {s : Bs} {p : Pt} (h : readR s = some p) : Rdd p s.length := by
  unfold readR at h
  split at h
  · have hr := rdd_line h
    refine ⟨hr.gt, hr.tg, hr.toks, fun x hx => Nat.le_trans (hr.len x hx) ?_⟩
    have : (eol (s.drop 8)).length ≤ (s.drop 8).length := List.Sublist.length_le (List.takeWhile_sublist _)
    rw [List.length_drop] at this; omega
  · cases h
    exact ⟨fun x hx => by simp [Pt.names] at hx, fun x hx => by simp [Pt.names] at hx, by decide, fun x hx => by simp [Pt.names] at hx⟩
theorem Rdd.text_le {p : Pt} {N : Nat} (h : Rdd p N) (hN : N ≤ 1000) : p.text.length ≤ 250000 := by
  have h1 := _root_.Go.Proofs.YtleiohccaagalaaGreat.text_le p 1000 (by omega) (fun s hs => Nat.le_trans (h.len s hs) hN)
  have h2 := h.toks
  have : (_root_.Go.Proofs.YtleiohccaagalaaGreat.toks p).length * (1000 + 2) ≤ 200 * 1002 := Nat.mul_le_mul h2 (Nat.le_refl _)
  omega
theorem Rdd.names_le {p : Pt} {N : Nat} (h : Rdd p N) : p.names.length ≤ 200 := Nat.le_trans (_root_.Go.Proofs.YtleiohccaagalaaGreat.names_le p) h.toks
/-- a rule's text is read back as one that holds alike and is written the same -/
theorem Rdd.back {p : Pt} {N : Nat} (h : Rdd p N) : ∃ q, Sim p q ∧ readR (head8 ++ p.text) = some q := by
  obtain ⟨q, hs, hq⟩ := parse_back h.tg
  refine ⟨q, hs, ?_⟩
  rw [readR_head, (eol_none p.text (text_nl p h.gt) []).2]
  refine lineR_some.2 ⟨_root_.Go.Proofs.YtleiohccaagalaaGreat.toks p, ?_, h.toks, hq⟩
  have := pcs_text p h.gt [] (fun c hc => by cases hc)
  rw [List.append_nil, pcs_nil] at this
  simpa using this
/-- a line within `!( )`, within brackets -/
theorem line_not {s : Bs} {p : Pt} (h : lineR s = some p) (hs : s.length ≤ 190) : lineR (33 :: 40 :: (s ++ [41])) = some (.not p) ∧ lineR (40 :: (s ++ [41])) = some p := by
  obtain ⟨l, hp, _, ha⟩ := lineR_some.1 h
  obtain ⟨_, hl⟩ := pcs_pce _ s l (Nat.le_refl _) hp
  have e : pcs (s ++ [41]) = some (l ++ [sC]) := by
    rw [pcs_app s.length s [41] l (Nat.le_refl _) (hd_of (by decide)) hp, pcs_one 41 (by decide), pcs_nil]; rfl
  constructor
  · refine lineR_some.2 ⟨sNot :: sO :: l ++ [sC], ?_, by simp; omega, parse_not ha⟩
    rw [pcs_one 33 (by decide), pcs_one 40 (by decide), e]; rfl
  · refine lineR_some.2 ⟨sO :: l ++ [sC], ?_, by simp; omega, parse_within ha⟩
    rw [pcs_one 40 (by decide), e]; rfl
theorem line_morgan {s t : Bs} {p q : Pt} (h : lineR s = some p) (k : lineR t = some q) (hs : s.length ≤ 90) (ht : t.length ≤ 90) :
    lineR (33 :: 40 :: 40 :: (s ++ 41 :: 32 :: 38 :: 38 :: 32 :: 40 :: (t ++ [41, 41]))) = some (.not (.both p q)) ∧ lineR (33 :: 40 :: (s ++ 41 :: 32 :: 124 :: 124 :: 32 :: 33 :: 40 :: (t ++ [41]))) = some (.either (.not p) (.not q)) := by
  obtain ⟨l, hp, _, ha⟩ := lineR_some.1 h
  obtain ⟨m, hq, _, hb⟩ := lineR_some.1 k
  obtain ⟨_, hl⟩ := pcs_pce _ s l (Nat.le_refl _) hp
  obtain ⟨_, hm⟩ := pcs_pce _ t m (Nat.le_refl _) hq
  have e : pcs (t ++ [41]) = some (m ++ [sC]) := by
    rw [pcs_app t.length t [41] m (Nat.le_refl _) (hd_of (by decide)) hq, pcs_one 41 (by decide), pcs_nil]; rfl
  have e2 : pcs (t ++ [41, 41]) = some (m ++ [sC, sC]) := by
    rw [pcs_app t.length t [41, 41] m (Nat.le_refl _) (hd_of (by decide)) hq, pcs_one 41 (by decide), pcs_one 41 (by decide), pcs_nil]; rfl
  constructor
  · refine lineR_some.2 ⟨sNot :: sO :: sO :: l ++ sC :: sAnd :: sO :: m ++ [sC, sC], ?_, by simp; omega, parse_morgan1 ha hb⟩
    rw [pcs_one 33 (by decide), pcs_one 40 (by decide), pcs_one 40 (by decide), pcs_app s.length s _ l (Nat.le_refl _) (hd_of (by decide)) hp, pcs_one 41 (by decide), pcs_blank, pcs_two 38 (by decide), pcs_blank, pcs_one 40 (by decide), e2]
    simp [sNot, sO, sC, sAnd]
  · refine lineR_some.2 ⟨sNot :: sO :: l ++ sC :: sOr :: sNot :: sO :: m ++ [sC], ?_, by simp; omega, parse_morgan2 ha hb⟩
    rw [pcs_one 33 (by decide), pcs_one 40 (by decide), pcs_app s.length s _ l (Nat.le_refl _) (hd_of (by decide)) hp, pcs_one 41 (by decide), pcs_blank, pcs_two 124 (by decide), pcs_blank, pcs_one 33 (by decide), pcs_one 40 (by decide), e]
    simp [sNot, sO, sC, sOr]
end Go.Proofs.YtleiohccaagalaaGreat
