/-
  A rule as the document has it, in plain Lean; a line's pieces by the document.
-/
import Derived.Test.YtleiohccaagalaaGreatSu
import Derived.Test.YtleiohccaagalaaGreatPd
namespace Go.Proofs.YtleiohccaagalaaGreat
/-- a rule of the document: its kind, its tag, its parts -/
inductive Rl where
  | mk (kind : Nat) (tag : Bs) (kids : List Rl)
namespace Rl
def kind : Rl → Nat | mk k _ _ => k
def tag : Rl → Bs | mk _ t _ => t
def kids : Rl → List Rl | mk _ _ ks => ks
end Rl
theorem Rl.ind {P : Rl → Prop} (h : ∀ k t ks, (∀ x ∈ ks, P x) → P (.mk k t ks)) : ∀ n, P n := fun n =>
  Rl.rec (motive_1 := P) (motive_2 := fun l => ∀ x ∈ l, P x) (fun k t ks ih => h k t ks ih) (fun _ hx => by cases hx)
    (fun x r hx hr y hy => by rcases List.mem_cons.1 hy with rfl | hy; exact hx; exact hr y hy) n
/-- a row's parts, or the one part -/
def fl (k : Nat) (x : Rl) : List Rl := if x.kind = k then x.kids else [x]
/-- a rule, its rows side by side -/
def nf : Pt → Rl
  | .yes => .mk 0 [] []
  | .tag s => .mk 1 s []
  | .not p => .mk 2 [] [nf p]
  | .both l r => .mk 3 [] (fl 3 (nf l) ++ fl 3 (nf r))
  | .either l r => .mk 4 [] (fl 4 (nf l) ++ fl 4 (nf r))
theorem fl_ne (k : Nat) (hk : k = 3 ∨ k = 4) (p : Pt) : fl k (nf p) ≠ [] ∧ ((nf p).kind = k → 2 ≤ (nf p).kids.length) := by
  induction p with
  | yes => rcases hk with rfl | rfl <;> simp [fl, nf, Rl.kind]
  | tag s => rcases hk with rfl | rfl <;> simp [fl, nf, Rl.kind]
  | not p _ => rcases hk with rfl | rfl <;> simp [fl, nf, Rl.kind]
  | both l r ihl ihr =>
    rcases hk with rfl | rfl
    · have h1 := List.length_pos_iff.2 ihl.1
      have h2 := List.length_pos_iff.2 ihr.1
      constructor
      · show (if (3 : Nat) = 3 then fl 3 (nf l) ++ fl 3 (nf r) else _) ≠ []
        rw [if_pos rfl]
        intro e
        exact ihl.1 (List.append_eq_nil_iff.1 e).1
      · intro _; simp [nf, Rl.kids]; omega
    · simp [fl, nf, Rl.kind]
  | either l r ihl ihr =>
    rcases hk with rfl | rfl
    · simp [fl, nf, Rl.kind]
    · have h1 := List.length_pos_iff.2 ihl.1
      have h2 := List.length_pos_iff.2 ihr.1
      constructor
      · show (if (4 : Nat) = 4 then fl 4 (nf l) ++ fl 4 (nf r) else _) ≠ []
        rw [if_pos rfl]
        intro e
        exact ihl.1 (List.append_eq_nil_iff.1 e).1
      · intro _; simp [nf, Rl.kids]; omega
/-- what a row makes of its parts -/
def wrp (k : Nat) (l : List Rl) : Rl := match l with | [x] => x | _ => .mk k [] l
theorem wrp_fl (k : Nat) (hk : k = 3 ∨ k = 4) (p : Pt) : wrp k (fl k (nf p)) = nf p := by
  by_cases h : (nf p).kind = k
  · have h2 := (fl_ne k hk p).2 h
    rw [fl, if_pos h]
    have htag : (nf p).tag = [] := by
      cases p <;> rcases hk with rfl | rfl <;> simp_all [nf, Rl.kind, Rl.tag]
    generalize nf p = x at *
    cases x with
    | mk k' t ks =>
      simp only [Rl.kind, Rl.tag, Rl.kids] at *
      subst h htag
      match ks, h2 with
      | a :: b :: r, _ => rfl
  · rw [fl, if_neg h]; rfl
theorem fl_both (l r : Pt) : fl 3 (nf (.both l r)) = fl 3 (nf l) ++ fl 3 (nf r) := by simp [fl, nf, Rl.kind, Rl.kids]
theorem fl_either (l r : Pt) : fl 4 (nf (.either l r)) = fl 4 (nf l) ++ fl 4 (nf r) := by simp [fl, nf, Rl.kind, Rl.kids]
mutual
/-- the tags of a rule -/
def Rl.all : Rl → List Bs
  | .mk k t ks => (if k = 1 then [t] else []) ++ allL ks
def allL : List Rl → List Bs
  | [] => []
  | x :: r => x.all ++ allL r
end
theorem allL_append (a b : List Rl) : allL (a ++ b) = allL a ++ allL b := by
  induction a with
  | nil => simp [allL]
  | cons x r ih => simp [allL, ih]
theorem all_fl (k : Nat) (hk : k = 3 ∨ k = 4) (x : Rl) : allL (fl k x) = x.all := by
  unfold fl
  split
  · rename_i h
    cases x with
    | mk k' t ks =>
      simp only [Rl.kind] at h
      subst h
      simp only [Rl.kids, Rl.all]
      rw [if_neg (by omega)]; rfl
  · simp [allL]
theorem nf_all (p : Pt) : (nf p).all = p.names := by
  induction p with
  | yes => simp [nf, Rl.all, allL, Pt.names]
  | tag s => simp [nf, Rl.all, allL, Pt.names]
  | not p ih => simp [nf, Rl.all, allL, Pt.names, ih]
  | both l r ihl ihr => simp [nf, Rl.all, Pt.names, allL_append, all_fl, ihl, ihr]
  | either l r ihl ihr => simp [nf, Rl.all, Pt.names, allL_append, all_fl, ihl, ihr]
mutual
/-- does it hold? -/
def Rl.hold (set : List Bs) : Rl → Bool
  | .mk k t ks => if k = 1 then set.contains t else if k = 2 then !(holdH set ks) else if k = 3 then holdA set ks else if k = 4 then holdO set ks else true
def holdH (set : List Bs) : List Rl → Bool
  | [] => true
  | x :: _ => x.hold set
def holdA (set : List Bs) : List Rl → Bool
  | [] => true
  | x :: r => x.hold set && holdA set r
def holdO (set : List Bs) : List Rl → Bool
  | [] => false
  | x :: r => x.hold set || holdO set r
end
theorem holdA_append (s : List Bs) (a b : List Rl) : holdA s (a ++ b) = (holdA s a && holdA s b) := by
  induction a with
  | nil => simp [holdA]
  | cons x r ih => simp [holdA, ih, Bool.and_assoc]
theorem holdO_append (s : List Bs) (a b : List Rl) : holdO s (a ++ b) = (holdO s a || holdO s b) := by
  induction a with
  | nil => simp [holdO]
  | cons x r ih => simp [holdO, ih, Bool.or_assoc]
theorem holdA_fl (s : List Bs) (x : Rl) : holdA s (fl 3 x) = x.hold s := by
  unfold fl
  split
  · rename_i h
    cases x with
    | mk k t ks => simp only [Rl.kind] at h; subst h; simp [Rl.kids, Rl.hold]
  · simp [holdA]
theorem holdO_fl (s : List Bs) (x : Rl) : holdO s (fl 4 x) = x.hold s := by
  unfold fl
  split
  · rename_i h
    cases x with
    | mk k t ks => simp only [Rl.kind] at h; subst h; simp [Rl.kids, Rl.hold]
  · simp [holdO]
theorem nf_hold (s : List Bs) (p : Pt) : (nf p).hold s = p.holds s := by
  induction p with
  | yes => simp [nf, Rl.hold, Pt.holds]
  | tag t => simp [nf, Rl.hold, Pt.holds]
  | not p ih => simp [nf, Rl.hold, holdH, Pt.holds, ih]
  | both l r ihl ihr => simp [nf, Rl.hold, Pt.holds, holdA_append, holdA_fl, ihl, ihr]
  | either l r ihl ihr => simp [nf, Rl.hold, Pt.holds, holdO_append, holdO_fl, ihl, ihr]
/-- within brackets -/
def rbk (b : Bool) (s : Bs) : Bs := if b then 40 :: (s ++ [41]) else s
mutual
/-- how it is written -/
def Rl.txt : Rl → Bs
  | .mk k t ks => if k = 0 then [116, 114, 117, 101] else if k = 1 then t else if k = 2 then 33 :: txtH ks else txtL k true ks
def txtH : List Rl → Bs
  | [] => []
  | x :: _ => rbk (x.kind == 3 || x.kind == 4) x.txt
def txtL (k : Nat) (first : Bool) : List Rl → Bs
  | [] => []
  | x :: r => (if first then [] else if k = 3 then [32, 38, 38, 32] else [32, 124, 124, 32]) ++ rbk (k == 3 && x.kind == 4) x.txt ++ txtL k false r
end
theorem txtL_append (k : Nat) (a b : List Rl) (hb : b ≠ []) : ∀ f, a ≠ [] → txtL k f (a ++ b) = txtL k f a ++ (if k = 3 then [32, 38, 38, 32] else [32, 124, 124, 32]) ++ txtL k true b := by
  induction a with
  | nil => intro f h; exact absurd rfl h
  | cons x r ih =>
    intro f _
    cases r with
    | nil =>
      cases b with
      | nil => exact absurd rfl hb
      | cons y s => simp [txtL]
    | cons y s =>
      show _ ++ _ ++ txtL k false (y :: s ++ b) = _
      rw [ih false (by simp)]
      simp [txtL]
theorem nf_kind (p : Pt) : ((nf p).kind == 3) = decide (p.rank = 1) ∧ ((nf p).kind == 4) = decide (p.rank = 0) := by
  cases p <;> simp [nf, Rl.kind, Pt.rank]
theorem txt_fl3 (p : Pt) (ih : (nf p).txt = p.text) : txtL 3 true (fl 3 (nf p)) = p.brk 1 p.text := by
  unfold fl
  split
  · rename_i h
    have h3 := (nf_kind p).1
    rw [h] at h3
    simp at h3
    have hb : p.brk 1 p.text = p.text := by unfold Pt.brk; rw [if_neg (by omega)]
    rw [hb, ← ih]
    generalize nf p = x at *
    cases x with
    | mk k t ks => simp only [Rl.kind] at h; subst h; simp [Rl.kids, Rl.txt]
  · simp only [txtL, if_true, List.nil_append, List.append_nil, ih]
    rw [(nf_kind p).2]
    unfold Pt.brk rbk
    by_cases h0 : p.rank = 0
    · simp [h0]
    · rw [if_neg (by simp [h0]), if_neg (by omega)]
theorem txt_fl4 (p : Pt) (ih : (nf p).txt = p.text) : txtL 4 true (fl 4 (nf p)) = p.brk 0 p.text := by
  have hb : p.brk 0 p.text = p.text := by unfold Pt.brk; rw [if_neg (by omega)]
  rw [hb]
  unfold fl
  split
  · rename_i h
    rw [← ih]
    generalize nf p = x at *
    cases x with
    | mk k t ks => simp only [Rl.kind] at h; subst h; simp [Rl.kids, Rl.txt]
  · simp [txtL, ih, rbk]
theorem nf_txt (p : Pt) : (nf p).txt = p.text := by
  induction p with
  | yes => simp [nf, Rl.txt, Pt.text]
  | tag t => simp [nf, Rl.txt, Pt.text]
  | not p ih =>
    simp only [nf, Rl.txt, txtH, Pt.text, ih]
    rw [(nf_kind p).1, (nf_kind p).2]
    unfold rbk Pt.brk
    by_cases h : p.rank < 2
    · have : p.rank = 1 ∨ p.rank = 0 := by omega
      simp [h, this]
    · have h1 : p.rank ≠ 1 := by omega
      have h0 : p.rank ≠ 0 := by omega
      simp [h, h1, h0]
  | both l r ihl ihr =>
    simp only [nf, Rl.txt]
    rw [if_neg (by omega), if_neg (by omega), if_neg (by omega), txtL_append 3 _ _ (fl_ne 3 (.inl rfl) r).1 true (fl_ne 3 (.inl rfl) l).1, txt_fl3 l ihl, txt_fl3 r ihr]
    simp [Pt.text]
  | either l r ihl ihr =>
    simp only [nf, Rl.txt]
    rw [if_neg (by omega), if_neg (by omega), if_neg (by omega), txtL_append 4 _ _ (fl_ne 4 (.inr rfl) r).1 true (fl_ne 4 (.inr rfl) l).1, txt_fl4 l ihl, txt_fl4 r ihr]
    simp [Pt.text]
def low (c : UInt8) : Bool := decide (97 ≤ c) && decide (c ≤ 122)
/-- how many bytes a piece has, by the document's own reading -/
def sgR : Bs → Nat
  | [] => 0
  | c :: r =>
    if c = 33 ∨ c = 40 ∨ c = 41 then 1
    else if (c = 38 ∨ c = 124) ∧ r.head? = some c then 2
    else if low c then run inT (c :: r) else 0
theorem low_inT {c : UInt8} (h : low c = true) : inT c = true := by simp only [low, inT] at *; simp [h]
theorem sgR_le (s : Bs) : sgR s ≤ s.length := by
  cases s with
  | nil => simp [sgR]
  | cons c r =>
    simp only [sgR]
    split
    · simp
    · split
      · rename_i h; cases r <;> simp_all
      · split
        · exact run_le _ _
        · simp
/-- the pieces of a line, by the document's own reading -/
def pcsR (s : Bs) : Option (List Bs) :=
  match s with
  | [] => some []
  | c :: r =>
    if c = 32 then pcsR r
    else if _h : sgR (c :: r) = 0 then none
    else (pcsR ((c :: r).drop (sgR (c :: r)))).map fun l => (c :: r).take (sgR (c :: r)) :: l
termination_by s.length
decreasing_by
  · simp
  · simp; omega
theorem pcsR_nil : pcsR [] = some [] := by rw [pcsR]
theorem pcsR_blank (r : Bs) : pcsR (32 :: r) = pcsR r := by rw [pcsR]; simp
theorem pcsR_none {c : UInt8} {r : Bs} (h : c ≠ 32) (h0 : sgR (c :: r) = 0) : pcsR (c :: r) = none := by rw [pcsR]; simp [h, h0]
theorem pcsR_some {c : UInt8} {r : Bs} (h : c ≠ 32) (h0 : sgR (c :: r) ≠ 0) : pcsR (c :: r) = (pcsR ((c :: r).drop (sgR (c :: r)))).map fun l => (c :: r).take (sgR (c :: r)) :: l := by rw [pcsR]; simp [h, h0]
/-- both begin alike, but for a digit -/
theorem sgR_sgA (c : UInt8) (r : Bs) : sgR (c :: r) = sgA (c :: r) ∨ (sgR (c :: r) = 0 ∧ dgt c = true ∧ sgA (c :: r) ≠ 0) := by
  simp only [sgR, sgA]
  by_cases h1 : c = 33 ∨ c = 40 ∨ c = 41
  · simp [h1]
  · rw [if_neg h1, if_neg h1]
    by_cases h2 : c = 38 ∨ c = 124
    · rw [if_pos h2]
      by_cases h3 : r.head? = some c
      · simp [h2, h3]
      · rw [if_neg (by simp [h3]), if_neg h3]
        have : low c = false := by rcases h2 with rfl | rfl <;> decide
        simp [this]
    · rw [if_neg (by simp [h2]), if_neg h2]
      by_cases h4 : low c = true
      · simp [h4]
      · simp only [h4, if_false, Bool.false_eq_true]
        by_cases h5 : inT c = true
        · right
          have hd : dgt c = true := by
            simp only [inT, low, dgt, Bool.or_eq_true, Bool.and_eq_true, decide_eq_true_eq, UInt8.le_iff_toNat_le] at *
            have h4' : 97 ≤ c.toNat → ¬ c.toNat ≤ 122 := fun a b => h4 ⟨a, b⟩
            have h4'' : ¬ (97 ≤ c.toNat ∧ c.toNat ≤ 122) := fun a => h4' a.1 a.2
            clear h4 h4'
            have e1 : (48 : UInt8).toNat = 48 := rfl
            have e2 : (57 : UInt8).toNat = 57 := rfl
            have e3 : (97 : UInt8).toNat = 97 := rfl
            have e4 : (122 : UInt8).toNat = 122 := rfl
            omega
          exact ⟨trivial, hd, by simp [run, h5]⟩
        · left; simp [run, h5]
theorem dgt_bad {c : UInt8} {r : Bs} (h : dgt c = true) : ¬ Gd (c :: r) := by
  have hl : ltr c = false := by
    simp only [dgt, ltr, Bool.and_eq_true, decide_eq_true_eq, Bool.or_eq_false_iff, Bool.and_eq_false_iff, decide_eq_false_iff_not, beq_eq_false_iff_ne] at *
    omega
  rintro (e | e | e | e | e | e | e)
  all_goals first
    | (simp only [sNot, sO, sC, sTrue, sAnd, sOr, List.cons.injEq] at e; obtain ⟨rfl, _⟩ := e; exact absurd h (by decide))
    | (simp [idB, hl] at e)
theorem pcsR_pcs : ∀ (n : Nat) (s : Bs), s.length ≤ n → (∀ l, pcsR s = some l → pcs s = some l) ∧ (pcsR s = none → pcs s = none ∨ ∃ l, pcs s = some l ∧ ∃ t ∈ l, ¬ Gd t)
  | _, [], _ => by rw [pcsR_nil, pcs_nil]; simp
  | 0, _ :: _, h => by simp at h
  | n + 1, c :: r, hn => by
    simp at hn
    by_cases hb : c = 32
    · subst hb
      rw [pcsR_blank, pcs_blank]
      exact pcsR_pcs n r hn
    · rcases sgR_sgA c r with h | ⟨h, hd, h2⟩
      · by_cases h0 : sgR (c :: r) = 0
        · rw [pcsR_none hb h0, pcs_none hb (by rw [← h]; exact h0)]; simp
        · rw [pcsR_some hb h0, pcs_some hb (by rw [← h]; exact h0), ← h]
          obtain ⟨h3, h4⟩ := pcsR_pcs n ((c :: r).drop (sgR (c :: r))) (by simp; omega)
          cases hp : pcsR ((c :: r).drop (sgR (c :: r))) with
          | some m => rw [h3 m hp]; simp
          | none =>
            refine ⟨(fun l h => by simp at h), fun _ => ?_⟩
            rcases h4 hp with h5 | ⟨l, h5, t, ht, hg⟩
            · rw [h5]; exact .inl rfl
            · rw [h5]; exact .inr ⟨_, rfl, t, by simp [ht], hg⟩
      · rw [pcsR_none hb h, pcs_some hb h2]
        refine ⟨(fun l h => by cases h), fun _ => ?_⟩
        cases pcs ((c :: r).drop (sgA (c :: r))) with
        | none => exact .inl rfl
        | some m =>
          refine .inr ⟨_, rfl, _, by simp; exact .inl rfl, ?_⟩
          cases hs : sgA (c :: r) with
          | zero => exact absurd hs h2
          | succ k => rw [List.take_succ_cons]; exact dgt_bad hd
theorem lineR_ref (s : Bs) : lineR s = (pcsR s).bind fun l => if l.length ≤ 200 then parse l else none := by
  obtain ⟨h1, h2⟩ := pcsR_pcs s.length s (Nat.le_refl _)
  unfold lineR
  cases hp : pcsR s with
  | some l => rw [h1 l hp]
  | none =>
    rcases h2 hp with h | ⟨l, h, t, ht, hg⟩
    · rw [h]
    · rw [h]
      simp only [Option.bind_some, Option.bind_none]
      split
      · cases ha : parse l with
        | none => rfl
        | some p => exact absurd ((parse_snd ha).1 t ht) hg
      · rfl
end Go.Proofs.YtleiohccaagalaaGreat
