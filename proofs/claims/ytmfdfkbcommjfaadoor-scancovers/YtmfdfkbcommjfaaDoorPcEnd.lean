/-
  Plain facts: where pieces end.
-/
import Derived.Test.YtmfdfkbcommjfaaDoorWalkM
namespace Go.Proofs.YtmfdfkbcommjfaaDoor
open Go.RowKit
/-- a place at which no rune is parted: the byte there, or ahead of it, is one of ASCII -/
def Bd (l : List UInt8) (d : Nat) : Prop := d ≤ l.length ∧ (∀ c, l[d]? = some c → c.toNat < 128 ∨ ∃ k, d = k + 1 ∧ ∃ b, l[k]? = some b ∧ b.toNat < 128)
theorem lod_ascii {b : UInt8} (h : lod b = true) : b.toNat < 128 := by
  simp only [lod, ltr, dgt, Bool.or_eq_true, Bool.and_eq_true, decide_eq_true_eq, beq_iff_eq] at h; omega
theorem dgt_ascii {b : UInt8} (h : dgt b = true) : b.toNat < 128 := lod_ascii (by simp [lod, h])
theorem ltr_ascii {b : UInt8} (h : ltr b = true) : b.toNat < 128 := lod_ascii (by simp [lod, h])
theorem bd_last {l : List UInt8} {k : Nat} {b : UInt8} (h : l[k]? = some b) (hb : b.toNat < 128) : Bd l (k + 1) :=
  ⟨(List.getElem?_eq_some_iff.1 h).1, fun _ _ => .inr ⟨k, rfl, b, h, hb⟩⟩
theorem run_last {f : UInt8 → Bool} {l : List UInt8} {k : Nat} (h : run f l = k + 1) : ∃ b, l[k]? = some b ∧ f b = true := by
  induction l generalizing k with
  | nil => cases h
  | cons c t ih =>
    simp only [run] at h
    split at h
    · rename_i hc
      cases k with
      | zero => exact ⟨c, rfl, hc⟩
      | succ k => exact ih (by omega)
    · cases h
theorem run_stop {f : UInt8 → Bool} {l : List UInt8} {c : UInt8} (h : l[run f l]? = some c) : f c = false := by
  induction l with
  | nil => cases h
  | cons b t ih =>
    simp only [run] at h
    split at h
    · simp only [List.getElem?_cons_succ] at h; exact ih h
    · rename_i hb
      simp only [List.getElem?_cons_zero, Option.some.injEq] at h
      subst h; simpa using hb
theorem strL_end (l : List UInt8) : ∀ (esc : Bool) (k : Nat) (acc : List UInt8) (n : Nat) (x : List UInt8), strL l esc k acc = .ok (n, x) → k < n ∧ l[n - 1 - k]? = some 34 := by
  induction l with
  | nil => intro esc k acc n x h; cases esc <;> cases h
  | cons b t ih =>
    intro esc k acc n x h
    have up : ∀ {m : Nat}, k + 1 < m ∧ t[m - 1 - (k + 1)]? = some 34 → k < m ∧ (b :: t)[m - 1 - k]? = some 34 := fun {m} q => ⟨by omega, by
      rw [show m - 1 - k = m - 1 - (k + 1) + 1 by omega, List.getElem?_cons_succ]; exact q.2⟩
    cases esc with
    | true => exact up (ih _ _ _ _ _ h)
    | false =>
      rw [strL] at h
      split at h
      · split at h
        · exact up (ih _ _ _ _ _ h)
        · cases h
      · split at h
        · rename_i hb
          injection h with h
          injection h with h1 h2
          subst h1
          refine ⟨by omega, ?_⟩
          rw [show k + 1 - 1 - k = 0 by omega, hb]; rfl
        · split at h
          · cases h
          · exact up (ih _ _ _ _ _ h)
theorem endOf_slash {l : List UInt8} {k : Nat} (h : endOf l = some k) : l[k + 1]? = some 47 := by
  induction l generalizing k with
  | nil => cases h
  | cons b t ih =>
    simp only [endOf] at h
    split at h
    · rename_i hb
      have := Option.some.inj h
      subst this
      rw [List.getElem?_cons_succ, ← List.head?_eq_getElem?]; exact hb.2
    · cases h3 : endOf t with
      | none => rw [h3] at h; cases h
      | some j => rw [h3] at h; have h4 : j + 1 = k := Option.some.inj h; subst h4; rw [List.getElem?_cons_succ]; exact ih h3
theorem sgn_le3 (b c d : UInt8) : sgn b c d ≤ 3 := by
  unfold sgn
  repeat' split
  all_goals omega
theorem sgn_last (b c d : UInt8) : (sgn b c d = 1 → b.toNat < 128) ∧ (sgn b c d = 2 → c.toNat < 128) ∧ (sgn b c d = 3 → d.toNat < 128) := by
  unfold sgn
  refine ⟨fun h => ?_, fun h => ?_, fun h => ?_⟩
  · by_cases h1 : b.toNat < 128
    · exact h1
    · exfalso
      have q : ∀ x : UInt8, x.toNat < 128 → b ≠ x := fun x hx e => h1 (by rw [e]; exact hx)
      rw [if_neg (q 46 (by decide)), if_neg (fun e => e.elim (q 38 (by decide)) (q 124 (by decide))), if_neg (q 43 (by decide)), if_neg (fun e => e.elim (q 45 (by decide)) (q 60 (by decide))),
        if_neg (fun e => e.elim (q 42 (by decide)) (fun e => e.elim (q 47 (by decide)) (fun e => e.elim (q 37 (by decide)) (fun e => e.elim (q 33 (by decide)) (fun e => e.elim (q 61 (by decide)) (fun e => e.elim (q 62 (by decide)) (q 58 (by decide)))))))),
        if_neg (fun e => e.elim (q 40 (by decide)) (fun e => e.elim (q 41 (by decide)) (fun e => e.elim (q 91 (by decide)) (fun e => e.elim (q 93 (by decide)) (fun e => e.elim (q 123 (by decide)) (fun e => e.elim (q 125 (by decide)) (q 44 (by decide))))))))] at h
      cases h
  · by_cases h0 : b = 46
    · rw [if_pos h0] at h; split at h <;> cases h
    rw [if_neg h0] at h
    by_cases h1 : b = 38 ∨ b = 124
    · rw [if_pos h1] at h
      split at h
      · rename_i q; rw [q]; rcases h1 with h1 | h1 <;> (rw [h1]; decide)
      · cases h
    rw [if_neg h1] at h
    by_cases h2 : b = 43
    · rw [if_pos h2] at h
      split at h
      · rename_i q; rcases q with q | q <;> (rw [q]; decide)
      · cases h
    rw [if_neg h2] at h
    split at h
    · split at h
      · rename_i q; rw [q]; decide
      · split at h
        · rename_i q; rw [q]; decide
        · cases h
    · split at h
      · split at h
        · rename_i q; rw [q]; decide
        · cases h
      · split at h <;> cases h
  · by_cases h0 : b = 46
    · rw [if_pos h0] at h
      split at h
      · rename_i q; rw [q.2]; decide
      · cases h
    rw [if_neg h0] at h
    exfalso
    revert h
    repeat' split
    all_goals (intro h; cases h)
theorem run_pos {f : UInt8 → Bool} {b : UInt8} {t : List UInt8} (h : f b = true) : 1 ≤ run f (b :: t) := by simp [run, h]
/-- a piece has bytes, and ends where no rune is parted -/
theorem pc_end (r : List UInt8) (hr : r ≠ []) (hb : ∀ o, pcOf r ≠ .bad o) : 1 ≤ (pcOf r).len ∧ Bd r (pcOf r).len := by
  cases r with
  | nil => exact absurd rfl hr
  | cons b t =>
    have one : ∀ x : UInt8, b = x → x.toNat < 128 → Bd (b :: t) 1 := fun x e hx => bd_last (k := 0) rfl (by rw [e]; exact hx)
    by_cases h1 : b = 10
    · subst h1; exact ⟨Nat.le_refl _, one 10 rfl (by decide)⟩
    by_cases h2 : b = 32 ∨ b = 9 ∨ b = 13
    · have : pcOf (b :: t) = .blank := by simp only [pcOf]; rw [if_neg h1, if_pos h2]
      rw [this]
      refine ⟨Nat.le_refl _, ?_⟩
      rcases h2 with h2 | h2 | h2
      · exact one _ h2 (by decide)
      · exact one _ h2 (by decide)
      · exact one _ h2 (by decide)
    by_cases h3 : ltr b = true
    · rw [pcOf_name h1 h2 h3] at hb ⊢
      split at hb
      · exact absurd rfl (hb 0)
      · rename_i hn
        rw [if_neg hn]
        obtain ⟨k, hk⟩ : ∃ k, run lod (b :: t) = k + 1 := ⟨run lod (b :: t) - 1, by have := run_pos (t := t) (show lod b = true by simp [lod, h3]); omega⟩
        obtain ⟨c, hc, hl⟩ := run_last hk
        show 1 ≤ run lod (b :: t) ∧ Bd (b :: t) (run lod (b :: t))
        rw [hk]
        exact ⟨by omega, bd_last hc (lod_ascii hl)⟩
    have h3' : ltr b = false := by simpa using h3
    by_cases h4 : dgt b = true
    · rw [pcOf_num h1 h2 h3' h4] at hb ⊢
      split at hb
      · exact absurd rfl (hb 0)
      · rename_i hn
        rw [if_neg hn]
        obtain ⟨k, hk⟩ : ∃ k, run dgt (b :: t) = k + 1 := ⟨run dgt (b :: t) - 1, by have := run_pos (t := t) h4; omega⟩
        obtain ⟨c, hc, hl⟩ := run_last hk
        show 1 ≤ run dgt (b :: t) ∧ Bd (b :: t) (run dgt (b :: t))
        rw [hk]
        exact ⟨by omega, bd_last hc (dgt_ascii hl)⟩
    have h4' : dgt b = false := by simpa using h4
    by_cases h5 : b = 34
    · subst h5
      rw [pcOf_str] at hb ⊢
      cases hs : strL t false 1 [] with
      | error o => rw [hs] at hb; exact absurd rfl (hb o)
      | ok y =>
        obtain ⟨n, x⟩ := y
        obtain ⟨q1, q2⟩ := strL_end t false 1 [] n x hs
        show 1 ≤ n ∧ Bd (34 :: t) n
        obtain ⟨m, rfl⟩ : ∃ m, n = m + 2 := ⟨n - 2, by omega⟩
        refine ⟨by omega, bd_last (k := m + 1) (b := 34) ?_ (by decide)⟩
        rw [List.getElem?_cons_succ, show m = m + 2 - 1 - 1 by omega]; exact q2
    by_cases h6 : b = 47 ∧ t.head? = some 47
    · obtain ⟨rfl, h6⟩ := h6
      rw [pcOf_short h6]
      show 1 ≤ run notNl (47 :: t) ∧ Bd (47 :: t) (run notNl (47 :: t))
      refine ⟨run_pos rfl, run_le _ _, fun c hc => .inl ?_⟩
      have := run_stop hc
      have h10 : c = 10 := by simpa [notNl] using this
      rw [h10]; decide
    by_cases h7 : b = 47 ∧ t.head? = some 42
    · obtain ⟨rfl, h7⟩ := h7
      rw [pcOf_long h7] at hb ⊢
      cases hs : endOf (t.drop 1) with
      | none => rw [hs] at hb; exact absurd rfl (hb 0)
      | some k =>
        show 1 ≤ k + 4 ∧ Bd (47 :: t) (k + 4)
        refine ⟨by omega, bd_last (k := k + 3) (b := 47) ?_ (by decide)⟩
        have := endOf_slash hs
        rw [List.getElem?_drop] at this
        rw [List.getElem?_cons_succ, show k + 2 = 1 + (k + 1) by omega]; exact this
    by_cases h8 : b = 59
    · subst h8; exact ⟨Nat.le_refl _, one 59 rfl (by decide)⟩
    rw [pcOf_sign h1 h2 h3' h4' h5 h6 h7 h8] at hb ⊢
    split at hb
    · exact absurd rfl (hb 0)
    rename_i hn
    rw [if_neg hn]
    have hroom := sgn_room b t hn
    have hle := sgn_le3 b (t.headD 0) ((t.drop 1).headD 0)
    obtain ⟨l1, l2, l3⟩ := sgn_last b (t.headD 0) ((t.drop 1).headD 0)
    show 1 ≤ sgn b (t.headD 0) ((t.drop 1).headD 0) ∧ Bd (b :: t) (sgn b (t.headD 0) ((t.drop 1).headD 0))
    generalize sgn b (t.headD 0) ((t.drop 1).headD 0) = n at *
    refine ⟨by omega, ?_⟩
    match n, hn, hle, hroom, l1, l2, l3 with
    | 0, hn, _, _, _, _, _ => exact absurd rfl hn
    | 1, _, _, _, l1, _, _ => exact bd_last (k := 0) rfl (l1 rfl)
    | 2, _, _, hroom, _, l2, _ =>
      cases t with
      | nil => simp at hroom
      | cons c t => exact bd_last (k := 1) rfl (l2 rfl)
    | 3, _, _, hroom, _, _, l3 =>
      match t with
      | [] => simp at hroom
      | [c] => simp at hroom
      | c :: d :: t => exact bd_last (k := 2) rfl (l3 rfl)
theorem bd_step {S : ByteArray} {pos d : Nat} (h : pos < S.size) (hd : Bd (S.data.toList) d) (hpd : pos < d) : pos + (Utf8.decode S pos).2 ≤ d := by
  by_cases ha : (S[pos]'h).toNat < 128
  · rw [decode_ascii S pos h ha]; exact hpd
  · have hs := dec_span S pos h (by omega)
    apply Classical.byContradiction
    intro hc
    have hdl : d < S.size := by omega
    have hget : ∀ k, pos ≤ k → k < pos + (Utf8.decode S pos).2 → ∀ b, S.data.toList[k]? = some b → 128 ≤ b.toNat := fun k h1 h2 b hb => by
      have h3 := hs.2 (k - pos) (by omega)
      rw [show pos + (k - pos) = k by omega, get_of S k (by omega)] at h3
      rw [bget S k (by omega)] at hb
      rw [← Option.some.inj hb]; exact h3
    rcases hd.2 _ (bget S d hdl) with q | ⟨k, rfl, b, hb, q⟩
    · have := hget d (by omega) (by omega) _ (bget S d hdl); omega
    · have := hget k (by omega) (by omega) b hb; omega
theorem bd_drop {l : List UInt8} {p d : Nat} (h : Bd (l.drop p) d) (hp : p ≤ l.length) : Bd l (p + d) := by
  refine ⟨by have := h.1; rw [List.length_drop] at this; omega, fun c hc => ?_⟩
  rcases h.2 c (by rw [List.getElem?_drop]; exact hc) with q | ⟨k, rfl, b, hb, q⟩
  · exact .inl q
  · exact .inr ⟨p + k, by omega, b, by rw [List.getElem?_drop] at hb; exact hb, q⟩
theorem scn_skip (l : List UInt8) : ∀ (n k p : Nat) (s : St), n ≤ k → n ≤ l.length → scn l k p s = scn (l.drop n) (k - n) (p + n) s := by
  induction l with
  | nil => intro n k p s _ hn; have : n = 0 := by simpa using hn
           subst this; rfl
  | cons b t ih =>
    intro n k p s hk hn
    cases n with
    | zero => simp
    | succ n =>
      obtain ⟨k, rfl⟩ : ∃ j, k = j + 1 := ⟨k - 1, by omega⟩
      rw [scn, ih n k (p + 1) s (by omega) (by simpa using hn)]
      rw [List.drop_succ_cons, show k + 1 - (n + 1) = k - n by omega, show p + 1 + n = p + (n + 1) by omega]
theorem scn_bad {b : UInt8} {t : List UInt8} {o : Nat} (h : pcOf (b :: t) = .bad o) (p : Nat) (s : St) : scn (b :: t) 0 p s = .error (p + o) := by rw [scn, h]
theorem scn_ok {b : UInt8} {t : List UInt8} (h : ∀ o, pcOf (b :: t) ≠ .bad o) (p : Nat) (s : St) : scn (b :: t) 0 p s = scn t ((pcOf (b :: t)).len - 1) (p + 1) (stp p s (pcOf (b :: t))) := by
  rw [scn]
  cases hq : pcOf (b :: t) with
  | bad o => exact absurd hq (h o)
  | line => rfl
  | blank => rfl
  | tok k n x => rfl
  | rmk n l => rfl
theorem eol_len (p : Nat) (l : List Tk) : (eol p l).length ≤ l.length + 1 := by
  unfold eol
  cases l.getLast? with
  | none => simp
  | some t => cases h : ends t <;> simp [h]
theorem stp_len (p : Nat) (s : St) (pc : Pc) : (stp p s pc).toks.length ≤ s.toks.length + 1 ∧ (stp p s pc).rems.length ≤ s.rems.length + 1 := by
  have := eol_len p s.toks
  cases pc with
  | bad o => exact ⟨by simp [stp], by simp [stp]⟩
  | line => exact ⟨by simpa [stp] using this, by simp [stp]⟩
  | blank => exact ⟨by simp [stp], by simp [stp]⟩
  | tok k n x => exact ⟨by simp [stp], by simp [stp]⟩
  | rmk n l => cases l <;> exact ⟨by simp [stp] <;> omega, by simp [stp]⟩
end Go.Proofs.YtmfdfkbcommjfaaDoor
