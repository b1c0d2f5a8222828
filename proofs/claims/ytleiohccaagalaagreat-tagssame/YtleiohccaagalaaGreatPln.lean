/-
  Rules in plain Lean: the pieces of a line, how they are read, what a rule says; a text read back.
-/
import Derived.RowKit
namespace Go.Proofs.YtleiohccaagalaaGreat
abbrev Bs := List UInt8
/-- a rule -/
inductive Pt where
  | yes
  | tag (s : Bs)
  | not (p : Pt)
  | both (l r : Pt)
  | either (l r : Pt)
namespace Pt
def holds (set : List Bs) : Pt → Bool
  | yes => true
  | tag s => set.contains s
  | not p => !p.holds set
  | both l r => l.holds set && r.holds set
  | either l r => l.holds set || r.holds set
def names : Pt → List Bs
  | yes => []
  | tag s => [s]
  | not p => p.names
  | both l r => l.names ++ r.names
  | either l r => l.names ++ r.names
def rank : Pt → Nat
  | either _ _ => 0
  | both _ _ => 1
  | _ => 2
/-- within brackets, if it binds less close than that -/
def brk (p : Pt) (k : Nat) (s : Bs) : Bs := if p.rank < k then 40 :: (s ++ [41]) else s
def text : Pt → Bs
  | yes => [116, 114, 117, 101]
  | tag s => s
  | not p => 33 :: p.brk 2 p.text
  | both l r => l.brk 1 l.text ++ 32 :: 38 :: 38 :: 32 :: r.brk 1 r.text
  | either l r => l.brk 0 l.text ++ 32 :: 124 :: 124 :: 32 :: r.brk 0 r.text
end Pt
/-- may stand in a tag -/
def inT (c : UInt8) : Bool := (decide (97 ≤ c) && decide (c ≤ 122)) || (decide (48 ≤ c) && decide (c ≤ 57))
/-- how many bytes of the kind it begins with -/
def run (p : UInt8 → Bool) : Bs → Nat
  | [] => 0
  | c :: r => if p c then run p r + 1 else 0
theorem run_le (p : UInt8 → Bool) (s : Bs) : run p s ≤ s.length := by
  induction s with
  | nil => simp [run]
  | cons c r ih => simp only [run]; split <;> simp <;> omega
/-- how many bytes the sign, or what may be a tag, has that it begins with -/
def sgA : Bs → Nat
  | [] => 0
  | c :: r =>
    if c = 33 ∨ c = 40 ∨ c = 41 then 1
    else if c = 38 ∨ c = 124 then (if r.head? = some c then 2 else 0)
    else run inT (c :: r)
theorem sgA_le (s : Bs) : sgA s ≤ s.length := by
  cases s with
  | nil => simp [sgA]
  | cons c r =>
    simp only [sgA]
    split
    · simp
    · split
      · split
        · cases r <;> simp_all
        · simp
      · exact run_le _ _
/-- the pieces of a line -/
def pcs (s : Bs) : Option (List Bs) :=
  match s with
  | [] => some []
  | c :: r =>
    if c = 32 then pcs r
    else if _h : sgA (c :: r) = 0 then none
    else (pcs ((c :: r).drop (sgA (c :: r)))).map fun l => (c :: r).take (sgA (c :: r)) :: l
termination_by s.length
decreasing_by
  · simp
  · simp; omega
def ltr (b : UInt8) : Bool := (97 ≤ b.toNat && b.toNat ≤ 122) || (65 ≤ b.toNat && b.toNat ≤ 90) || b.toNat == 95
def dgt (b : UInt8) : Bool := 48 ≤ b.toNat && b.toNat ≤ 57
def lod (b : UInt8) : Bool := ltr b || dgt b
def wordsL : List (List UInt8) := [
  [98, 114, 101, 97, 107], [99, 97, 115, 101], [99, 104, 97, 110], [99, 111, 110, 115, 116], [99, 111, 110, 116, 105, 110, 117, 101],
  [100, 101, 102, 97, 117, 108, 116], [100, 101, 102, 101, 114], [101, 108, 115, 101], [102, 97, 108, 108, 116, 104, 114, 111, 117, 103, 104],
  [102, 111, 114], [102, 117, 110, 99], [103, 111], [103, 111, 116, 111], [105, 102], [105, 109, 112, 111, 114, 116],
  [105, 110, 116, 101, 114, 102, 97, 99, 101], [109, 97, 112], [112, 97, 99, 107, 97, 103, 101], [114, 97, 110, 103, 101],
  [114, 101, 116, 117, 114, 110], [115, 101, 108, 101, 99, 116], [115, 116, 114, 117, 99, 116], [115, 119, 105, 116, 99, 104],
  [116, 121, 112, 101], [118, 97, 114]]
def word (l : List UInt8) : Bool := wordsL.contains l
/-- an identifier -/
def idB (s : Bs) : Bool := decide (s.length ≤ 60) && !word s && (match s with | c :: _ => ltr c | [] => false) && decide (run lod s = s.length)
def sNot : Bs := [33]
def sO : Bs := [40]
def sC : Bs := [41]
def sAnd : Bs := [38, 38]
def sOr : Bs := [124, 124]
def sTrue : Bs := [116, 114, 117, 101]
abbrev Rd := List Bs → Option (Pt × List Bs)
/-- goes on behind each sign -/
def more (sg : Bs) (op : Rd) (jn : Pt → Pt → Pt) : Nat → Pt → List Bs → Option (Pt × List Bs)
  | 0, _, _ => none
  | _ + 1, l, [] => some (l, [])
  | n + 1, l, t :: ts => if t = sg then (op ts).bind fun x => more sg op jn n (jn l x.1) x.2 else some (l, t :: ts)
def rowF (sg : Bs) (op : Rd) (jn : Pt → Pt → Pt) : Rd := fun ts => (op ts).bind fun x => more sg op jn (x.2.length + 1) x.1 x.2
def allF (o : Rd) : Rd := rowF sAnd o .both
def ruleF (o : Rd) : Rd := rowF sOr (allF o) .either
/-- what follows must be the closing bracket -/
def shut : Pt × List Bs → Option (Pt × List Bs)
  | (p, c :: r) => if c = sC then some (p, r) else none
  | (_, []) => none
def oneF (o : Rd) : Rd
  | [] => none
  | t :: ts =>
    if t = sNot then (o ts).map fun x => (.not x.1, x.2)
    else if t = sO then (ruleF o ts).bind shut
    else if t = sTrue then some (.yes, ts)
    else if idB t then some (.tag t, ts) else none
def one : Nat → Rd
  | 0 => fun _ => none
  | n + 1 => oneF (one n)
def rule (n : Nat) : Rd := ruleF (one n)
/-- all of it -/
def whole : Option (Pt × List Bs) → Option Pt
  | some (p, []) => some p
  | _ => none
def parse (ts : List Bs) : Option Pt := whole (rule (ts.length + 1) ts)
def lineR (s : Bs) : Option Pt := (pcs s).bind fun l => if l.length ≤ 200 then parse l else none
/-- the bytes ahead of a line's end -/
def eol (s : Bs) : Bs := s.takeWhile (· != 10)
def head8 : Bs := [47, 47, 98, 117, 105, 108, 100, 32]
/-- a file's rule -/
def readR (s : Bs) : Option Pt := if head8.isPrefixOf s then lineR (eol (s.drop 8)) else some .yes

/-- what is read is shorter -/
def Shr (o : Rd) : Prop := ∀ ts p r, o ts = some (p, r) → r.length < ts.length
theorem more_shr {sg : Bs} {op : Rd} {jn : Pt → Pt → Pt} (h : Shr op) : ∀ n l ts p r, more sg op jn n l ts = some (p, r) → r.length ≤ ts.length
  | 0, _, _, _, _, e => by cases e
  | _ + 1, l, [], p, r, e => by simp only [more, Option.some.injEq, Prod.mk.injEq] at e; simp [← e.2]
  | n + 1, l, t :: ts, p, r, e => by
    simp only [more] at e
    split at e
    · cases ho : op ts with
      | none => rw [ho] at e; cases e
      | some x =>
        obtain ⟨q, s⟩ := x
        rw [ho] at e
        have h1 := h _ _ _ ho
        have h2 := more_shr h n _ _ _ _ e
        simp at h2 ⊢; omega
    · simp only [Option.some.injEq, Prod.mk.injEq] at e; simp [← e.2]
theorem rowF_shr {sg : Bs} {op : Rd} {jn : Pt → Pt → Pt} (h : Shr op) : Shr (rowF sg op jn) := by
  intro ts p r e
  unfold rowF at e
  cases ho : op ts with
  | none => rw [ho] at e; cases e
  | some x =>
    obtain ⟨q, s⟩ := x
    rw [ho] at e
    have h1 := h _ _ _ ho
    have h2 := more_shr h _ _ _ _ _ e
    simp at h2; omega
theorem oneF_shr {o : Rd} (h : Shr o) : Shr (oneF o) := by
  intro ts p r e
  cases ts with
  | nil => cases e
  | cons t ts =>
    simp only [oneF] at e
    split at e
    · cases ho : o ts with
      | none => rw [ho] at e; cases e
      | some x =>
        obtain ⟨q, s⟩ := x
        rw [ho] at e
        simp only [Option.map_some, Option.some.injEq, Prod.mk.injEq] at e
        have := h _ _ _ ho
        rw [← e.2]; simp; omega
    · split at e
      · cases ho : ruleF o ts with
        | none => rw [ho] at e; cases e
        | some x =>
          obtain ⟨q, s⟩ := x
          rw [ho] at e
          have := rowF_shr (rowF_shr h) _ _ _ ho
          cases s with
          | nil => cases e
          | cons c s =>
            simp only [Option.bind_some, shut] at e
            split at e
            · simp only [Option.some.injEq, Prod.mk.injEq] at e
              rw [← e.2]; simp at this ⊢; omega
            · cases e
      · split at e
        · simp only [Option.some.injEq, Prod.mk.injEq] at e; rw [← e.2]; simp
        · split at e
          · simp only [Option.some.injEq, Prod.mk.injEq] at e; rw [← e.2]; simp
          · cases e
theorem one_shr : ∀ n, Shr (one n)
  | 0 => fun _ _ _ e => by cases e
  | n + 1 => oneF_shr (one_shr n)
/-- two readers that agree on short rows -/
def Eqv (k : Nat) (o o' : Rd) : Prop := ∀ ts : List Bs, ts.length ≤ k → o ts = o' ts
theorem more_eqv {sg : Bs} {op op' : Rd} {jn : Pt → Pt → Pt} {k : Nat} (hs : Shr op) (h : Eqv k op op') : ∀ n m l ts, ts.length ≤ k → ts.length < n → ts.length < m → more sg op jn n l ts = more sg op' jn m l ts
  | 0, _, _, _, _, e, _ => by omega
  | _, 0, _, _, _, _, e => by omega
  | _ + 1, _ + 1, l, [], _, _, _ => by simp [more]
  | n + 1, m + 1, l, t :: ts, h1, h2, h3 => by
    simp only [more]
    split
    · rw [← h ts (by simp at h1; omega)]
      cases ho : op ts with
      | none => rfl
      | some x =>
        have := hs _ _ _ ho
        simp only [Option.bind_some]
        simp at h1 h2 h3
        exact more_eqv hs h n m _ _ (by omega) (by omega) (by omega)
    · rfl
theorem rowF_eqv {sg : Bs} {op op' : Rd} {jn : Pt → Pt → Pt} {k : Nat} (hs : Shr op) (h : Eqv k op op') : Eqv k (rowF sg op jn) (rowF sg op' jn) := by
  intro ts ht
  unfold rowF
  rw [← h ts ht]
  cases ho : op ts with
  | none => rfl
  | some x => have := hs _ _ _ ho; exact more_eqv hs h _ _ _ _ (by omega) (by omega) (by omega)
theorem oneF_eqv {o o' : Rd} {k : Nat} (hs : Shr o) (h : Eqv k o o') : Eqv (k + 1) (oneF o) (oneF o') := by
  intro ts ht
  cases ts with
  | nil => rfl
  | cons t ts =>
    simp only [oneF]
    simp at ht
    rw [h ts ht, show ruleF o ts = ruleF o' ts from rowF_eqv (rowF_shr hs) (rowF_eqv hs h) ts ht]
theorem one_eqv : ∀ n m k, k < n → k < m → Eqv k (one n) (one m)
  | 0, _, _, h, _ => by omega
  | _, 0, _, _, h => by omega
  | n + 1, m + 1, 0, _, _ => by intro ts ht; cases ts with | nil => rfl | cons => simp at ht
  | n + 1, m + 1, k + 1, h1, h2 => oneF_eqv (one_shr n) (one_eqv n m k (by omega) (by omega))
theorem rule_eqv {n m k : Nat} (h1 : k < n) (h2 : k < m) : Eqv k (rule n) (rule m) := rowF_eqv (rowF_shr (one_shr n)) (rowF_eqv (one_shr n) (one_eqv n m k h1 h2))
/-- what follows an operand does not go on with it -/
def Nx (S : Bs → Prop) (r X : List Bs) : Prop := r ≠ [] ∨ ∀ t, X.head? = some t → ¬ S t
/-- what is read stays, whatever follows -/
def Ext (S : Bs → Prop) (o : Rd) : Prop := ∀ ts p r X, o ts = some (p, r) → Nx S r X → o (ts ++ X) = some (p, r ++ X)
theorem more_ext {sg : Bs} {op : Rd} {jn : Pt → Pt → Pt} {S S' : Bs → Prop} (hs : Shr op) (h : Ext S' op) (hS : ∀ t, S' t → S t) (hg : S sg) : ∀ n m l ts p r X, ts.length < n → ts.length + X.length < m → more sg op jn n l ts = some (p, r) → Nx S r X → more sg op jn m l (ts ++ X) = some (p, r ++ X)
  | 0, _, _, _, _, _, _, e, _, _, _ => by omega
  | _, 0, _, _, _, _, _, _, e, _, _ => by omega
  | _ + 1, m + 1, l, [], p, r, X, _, hm, e, hx => by
    simp only [more, Option.some.injEq, Prod.mk.injEq] at e
    obtain ⟨rfl, rfl⟩ := e
    cases X with
    | nil => simp [more]
    | cons t X =>
      rcases hx with hx | hx
      · exact absurd rfl hx
      · have := hx t rfl
        have hne : t ≠ sg := fun he => this (he ▸ hg)
        simp [more, hne]
  | n + 1, m + 1, l, t :: ts, p, r, X, hn, hm, e, hx => by
    simp only [List.cons_append, more] at e ⊢
    split at e
    · rename_i ht
      rw [if_pos ht]
      cases ho : op ts with
      | none => rw [ho] at e; cases e
      | some x =>
        obtain ⟨q, s⟩ := x
        rw [ho] at e
        simp only [Option.bind_some] at e
        have h1 := hs _ _ _ ho
        simp at hn hm
        have hx' : Nx S' s X := by
          rcases hx with hx | hx
          · left; intro hse; subst hse
            cases n with
            | zero => cases e
            | succ n => simp only [more, Option.some.injEq, Prod.mk.injEq] at e; exact hx e.2.symm
          · exact .inr fun t ht hS' => hx t ht (hS t hS')
        rw [h _ _ _ _ ho hx']
        simp only [Option.bind_some]
        exact more_ext hs h hS hg n m _ _ _ _ _ (by omega) (by omega) e hx
    · rename_i ht
      rw [if_neg ht]
      simp only [Option.some.injEq, Prod.mk.injEq] at e
      obtain ⟨rfl, rfl⟩ := e
      rfl
theorem more_nil {sg : Bs} {op : Rd} {jn : Pt → Pt → Pt} {n : Nat} {l p : Pt} {r : List Bs} (e : more sg op jn n l [] = some (p, r)) : r = [] := by
  cases n with
  | zero => cases e
  | succ n => simp only [more, Option.some.injEq, Prod.mk.injEq] at e; exact e.2.symm
theorem rowF_ext {sg : Bs} {op : Rd} {jn : Pt → Pt → Pt} {S S' : Bs → Prop} (hs : Shr op) (h : Ext S' op) (hS : ∀ t, S' t → S t) (hg : S sg) : Ext S (rowF sg op jn) := by
  intro ts p r X e hx
  unfold rowF at e ⊢
  cases ho : op ts with
  | none => rw [ho] at e; cases e
  | some x =>
    obtain ⟨q, s⟩ := x
    rw [ho] at e
    simp only [Option.bind_some] at e
    have hx' : Nx S' s X := by
      rcases hx with hx | hx
      · left; intro hse; subst hse; exact hx (more_nil e)
      · exact .inr fun t ht hS' => hx t ht (hS t hS')
    rw [h _ _ _ _ ho hx']
    exact more_ext hs h hS hg _ _ _ _ _ _ _ (by omega) (by simp) e hx
def S1 (t : Bs) : Prop := t = sAnd
def S2 (t : Bs) : Prop := t = sAnd ∨ t = sOr
theorem ruleF_ext {o : Rd} (hs : Shr o) (h : Ext (fun _ => False) o) : Ext S2 (ruleF o) :=
  rowF_ext (rowF_shr hs) (rowF_ext (S := S1) hs h (fun _ h => h.elim) rfl) (fun _ h => .inl h) (.inr rfl)
theorem oneF_ext {o : Rd} (hs : Shr o) (h : Ext (fun _ => False) o) : Ext (fun _ => False) (oneF o) := by
  intro ts p r X e _
  cases ts with
  | nil => cases e
  | cons t ts =>
    simp only [oneF, List.cons_append] at e ⊢
    split at e
    · rename_i h1
      rw [if_pos h1]
      cases ho : o ts with
      | none => rw [ho] at e; cases e
      | some x =>
        obtain ⟨q, s⟩ := x
        rw [ho] at e
        simp only [Option.map_some, Option.some.injEq, Prod.mk.injEq] at e
        rw [h _ _ _ X ho (.inr fun _ _ h => h)]
        obtain ⟨rfl, rfl⟩ := e
        rfl
    · rename_i h1
      rw [if_neg h1]
      split at e
      · rename_i h2
        rw [if_pos h2]
        cases ho : ruleF o ts with
        | none => rw [ho] at e; cases e
        | some x =>
          obtain ⟨q, s⟩ := x
          rw [ho] at e
          cases s with
          | nil => cases e
          | cons c s =>
            rw [ruleF_ext hs h _ _ _ X ho (.inl (by simp))]
            simp only [Option.bind_some, shut, List.cons_append] at e ⊢
            split at e
            · rename_i h3
              rw [if_pos h3]
              simp only [Option.some.injEq, Prod.mk.injEq] at e
              obtain ⟨rfl, rfl⟩ := e
              rfl
            · cases e
      · rename_i h2
        rw [if_neg h2]
        split at e
        · rename_i h3
          rw [if_pos h3]
          simp only [Option.some.injEq, Prod.mk.injEq] at e
          obtain ⟨rfl, rfl⟩ := e; rfl
        · rename_i h3
          rw [if_neg h3]
          split at e
          · rename_i h4
            rw [if_pos h4]
            simp only [Option.some.injEq, Prod.mk.injEq] at e
            obtain ⟨rfl, rfl⟩ := e; rfl
          · cases e
theorem one_ext : ∀ n, Ext (fun _ => False) (one n)
  | 0 => fun _ _ _ _ e => by cases e
  | n + 1 => oneF_ext (one_shr n) (one_ext n)
theorem rule_ext (n : Nat) : Ext S2 (rule n) := ruleF_ext (one_shr n) (one_ext n)
/-- a rule in brackets, read at whatever depth that is great enough -/
theorem rule_within {ts X : List Bs} {p : Pt} {n : Nat} (h : parse ts = some p) (hn : ts.length + 1 < n) : one n (sO :: ts ++ sC :: X) = some (p, X) := by
  unfold parse at h
  cases hr : rule (ts.length + 1) ts with
  | none => rw [hr] at h; cases h
  | some x =>
    obtain ⟨q, r⟩ := x
    rw [hr] at h
    cases r with
    | cons c r => cases h
    | nil =>
      simp only [whole, Option.some.injEq] at h
      subst h
      cases n with
      | zero => omega
      | succ n =>
        have e1 : rule n ts = some (q, []) := by rw [← hr]; exact rule_eqv (k := ts.length) (by omega) (by omega) ts (Nat.le_refl _)
        have e2 := rule_ext n ts q [] (sC :: X) e1 (.inr fun t ht hS => by
          simp only [List.head?_cons, Option.some.injEq] at ht
          subst ht
          rcases hS with hS | hS <;> exact absurd hS (by decide))
        show oneF (one n) (sO :: (ts ++ sC :: X)) = _
        simp only [oneF]
        rw [if_neg (by decide), if_pos trivial]
        rw [show ruleF (one n) (ts ++ sC :: X) = some (q, [] ++ sC :: X) from e2]
        simp [shut]
/-- a lone operand is a rule -/
theorem rule_lone {ts : List Bs} {p : Pt} {n : Nat} (h : one n ts = some (p, [])) : rule n ts = some (p, []) := by
  simp [rule, ruleF, allF, rowF, h, more]
theorem parse_not {ts : List Bs} {p : Pt} (h : parse ts = some p) : parse (sNot :: sO :: ts ++ [sC]) = some (.not p) := by
  have h1 : one (ts.length + 2) (sO :: ts ++ sC :: []) = some (p, []) := rule_within h (by omega)
  unfold parse
  rw [rule_lone (p := .not p)]
  · rfl
  · rw [show (sNot :: sO :: ts ++ [sC]).length + 1 = (ts.length + 2) + 2 by simp]
    show oneF (one (ts.length + 2 + 1)) (sNot :: (sO :: ts ++ [sC])) = _
    simp only [oneF]
    rw [if_pos trivial, rule_within h (by omega)]
    rfl
theorem parse_within {ts : List Bs} {p : Pt} (h : parse ts = some p) : parse (sO :: ts ++ [sC]) = some p := by
  unfold parse
  rw [rule_lone (p := p)]
  · rfl
  · exact rule_within h (by simp)
theorem parse_morgan1 {a b : List Bs} {p q : Pt} (ha : parse a = some p) (hb : parse b = some q) : parse (sNot :: sO :: sO :: a ++ sC :: sAnd :: sO :: b ++ [sC, sC]) = some (.not (.both p q)) := by
  have hl : parse (sO :: a ++ sC :: sAnd :: sO :: b ++ [sC]) = some (.both p q) := by
    unfold parse
    generalize hn : (sO :: a ++ sC :: sAnd :: sO :: b ++ [sC]).length + 1 = n
    have h1 : one n (sO :: a ++ sC :: (sAnd :: sO :: b ++ [sC])) = some (p, sAnd :: sO :: b ++ [sC]) := rule_within ha (by simp at hn; omega)
    have h2 : one n (sO :: b ++ sC :: []) = some (q, []) := rule_within hb (by simp at hn; omega)
    have e : sO :: a ++ sC :: sAnd :: sO :: b ++ [sC] = sO :: a ++ sC :: (sAnd :: sO :: b ++ [sC]) := by simp
    rw [e]
    have h3 : allF (one n) (sO :: a ++ sC :: (sAnd :: sO :: b ++ [sC])) = some (.both p q, []) := by
      simp only [allF, rowF, h1, Option.bind_some]
      show more sAnd (one n) .both _ p (sAnd :: (sO :: b ++ [sC])) = _
      simp only [more]
      rw [if_pos trivial, h2]
      rfl
    simp only [rule, ruleF, rowF] at *
    rw [h3]
    rfl
  have := parse_not hl
  rw [← this]
  congr 1
  simp
theorem parse_morgan2 {a b : List Bs} {p q : Pt} (ha : parse a = some p) (hb : parse b = some q) : parse (sNot :: sO :: a ++ sC :: sOr :: sNot :: sO :: b ++ [sC]) = some (.either (.not p) (.not q)) := by
  unfold parse
  generalize hn : (sNot :: sO :: a ++ sC :: sOr :: sNot :: sO :: b ++ [sC]).length + 1 = n
  cases n with
  | zero => cases hn
  | succ n =>
    have h1 : one (n + 1) (sNot :: sO :: a ++ sC :: (sOr :: sNot :: sO :: b ++ [sC])) = some (.not p, sOr :: sNot :: sO :: b ++ [sC]) := by
      show oneF (one n) (sNot :: (sO :: a ++ sC :: (sOr :: sNot :: sO :: b ++ [sC]))) = _
      simp only [oneF]
      rw [if_pos trivial, rule_within ha (by simp at hn; omega)]
      rfl
    have h2 : one (n + 1) (sNot :: sO :: b ++ [sC]) = some (.not q, []) := by
      show oneF (one n) (sNot :: (sO :: b ++ sC :: [])) = _
      simp only [oneF]
      rw [if_pos trivial, rule_within hb (by simp at hn; omega)]
      rfl
    have e : sNot :: sO :: a ++ sC :: sOr :: sNot :: sO :: b ++ [sC] = sNot :: sO :: a ++ sC :: (sOr :: sNot :: sO :: b ++ [sC]) := by simp
    rw [e]
    have h3 : allF (one (n + 1)) (sNot :: sO :: a ++ sC :: (sOr :: sNot :: sO :: b ++ [sC])) = some (.not p, sOr :: sNot :: sO :: b ++ [sC]) := by
      simp only [allF, rowF, h1, Option.bind_some]
      show more sAnd (one (n + 1)) .both _ _ (sOr :: (sNot :: sO :: b ++ [sC])) = _
      simp only [more]
      rw [if_neg (by decide)]
      rfl
    have h4 : allF (one (n + 1)) (sNot :: sO :: b ++ [sC]) = some (.not q, []) := by
      simp only [allF, rowF, h2, Option.bind_some]
      rfl
    simp only [rule, ruleF]
    simp only [rowF] at *
    rw [h3]
    simp only [Option.bind_some]
    show whole (more sOr _ .either _ _ (sOr :: (sNot :: sO :: b ++ [sC]))) = _
    simp only [more]
    rw [if_pos trivial, h4]
    rfl
/-- the pieces of a text within brackets, where they are needed -/
def brkL (p : Pt) (k : Nat) (x : List Bs) : List Bs := if p.rank < k then sO :: (x ++ [sC]) else x
/-- the pieces of a rule's text -/
def toks : Pt → List Bs
  | .yes => [sTrue]
  | .tag s => [s]
  | .not p => sNot :: brkL p 2 (toks p)
  | .both l r => brkL l 1 (toks l) ++ sAnd :: brkL r 1 (toks r)
  | .either l r => brkL l 0 (toks l) ++ sOr :: brkL r 0 (toks r)
def bt (k : Nat) (p : Pt) : List Bs := brkL p k (toks p)
theorem bt_mono {p : Pt} {a b : Nat} (h : a ≤ b) : (bt a p).length ≤ (bt b p).length := by
  simp only [bt, brkL]; split <;> split <;> simp <;> omega
theorem bt_zero (p : Pt) : bt 0 p = toks p := by simp [bt, brkL]
theorem bt_le (k : Nat) (p : Pt) : (bt k p).length ≤ (toks p).length + 2 := by simp only [bt, brkL]; split <;> simp
/-- a piece that a rule may have -/
def Gd (t : Bs) : Prop := t = sNot ∨ t = sO ∨ t = sC ∨ t = sTrue ∨ t = sAnd ∨ t = sOr ∨ idB t = true
/-- the names come out of these pieces -/
def Nm (p : Pt) (u : List Bs) : Prop := ∀ s ∈ p.names, s ∈ u ∧ idB s = true ∧ s ≠ sTrue
theorem Nm.mono {p : Pt} {u v : List Bs} (h : Nm p u) (hv : ∀ s ∈ u, s ∈ v) : Nm p v := fun s hs => ⟨hv s (h s hs).1, (h s hs).2⟩
/-- what is read is the beginning, and no shorter than its text's pieces -/
def Snd (k : Nat) (o : Rd) : Prop := ∀ ts p r, o ts = some (p, r) → ∃ u, ts = u ++ r ∧ (∀ t ∈ u, Gd t) ∧ Nm p u ∧ (bt k p).length ≤ u.length
theorem more_snd {sg : Bs} {op : Rd} {jn : Pt → Pt → Pt} {k k' : Nat} (hk : k ≤ k') (hg : Gd sg) (h : Snd k' op) (hn : ∀ a b, (jn a b).names = a.names ++ b.names) (hj : ∀ a b, bt k (jn a b) = bt k a ++ sg :: bt k b) : ∀ n l ts p r v, more sg op jn n l ts = some (p, r) → Nm l v → (∀ t ∈ v, Gd t) →
    ∃ u, v ++ ts = v ++ u ++ r ∧ (∀ t ∈ v ++ u, Gd t) ∧ Nm p (v ++ u) ∧ (bt k p).length ≤ (bt k l).length + u.length
  | 0, _, _, _, _, _, e, _, _ => by cases e
  | _ + 1, l, [], p, r, v, e, hv, hg' => by
    simp only [more, Option.some.injEq, Prod.mk.injEq] at e
    obtain ⟨rfl, rfl⟩ := e
    exact ⟨[], by simp, by simpa using hg', by simpa using hv, by simp⟩
  | n + 1, l, t :: ts, p, r, v, e, hv, hg' => by
    simp only [more] at e
    split at e
    · rename_i ht
      cases ho : op ts with
      | none => rw [ho] at e; cases e
      | some x =>
        obtain ⟨q, s⟩ := x
        rw [ho] at e
        simp only [Option.bind_some] at e
        obtain ⟨u1, e1, g1, n1, l1⟩ := h _ _ _ ho
        obtain ⟨u2, e2, g2, n2, l2⟩ := more_snd hk hg h hn hj n _ _ _ _ (v ++ t :: u1) e (by
            intro s hs
            rw [hn, List.mem_append] at hs
            rcases hs with hs | hs
            · exact ⟨by simp [(hv s hs).1], (hv s hs).2⟩
            · exact ⟨by simp [(n1 s hs).1], (n1 s hs).2⟩) (by
            intro x hx
            simp only [List.mem_append, List.mem_cons] at hx
            rcases hx with hx | hx | hx
            · exact hg' x hx
            · subst hx; rw [ht]; exact hg
            · exact g1 x hx)
        refine ⟨t :: u1 ++ u2, ?_, ?_, ?_, ?_⟩
        · rw [e1]; simp only [List.append_assoc, List.cons_append] at e2 ⊢; exact e2
        · simpa only [List.append_assoc, List.cons_append] using g2
        · simpa only [List.append_assoc, List.cons_append] using n2
        · rw [hj] at l2
          have := bt_mono (p := q) hk
          simp at l2 ⊢; omega
    · simp only [Option.some.injEq, Prod.mk.injEq] at e
      obtain ⟨rfl, rfl⟩ := e
      exact ⟨[], by simp, by simpa using hg', by simpa using hv, by simp⟩
theorem rowF_snd {sg : Bs} {op : Rd} {jn : Pt → Pt → Pt} {k k' : Nat} (hk : k ≤ k') (hg : Gd sg) (h : Snd k' op) (hn : ∀ a b, (jn a b).names = a.names ++ b.names) (hj : ∀ a b, bt k (jn a b) = bt k a ++ sg :: bt k b) : Snd k (rowF sg op jn) := by
  intro ts p r e
  unfold rowF at e
  cases ho : op ts with
  | none => rw [ho] at e; cases e
  | some x =>
    obtain ⟨q, s⟩ := x
    rw [ho] at e
    obtain ⟨u1, e1, g1, n1, l1⟩ := h _ _ _ ho
    obtain ⟨u2, e2, g2, n2, l2⟩ := more_snd hk hg h hn hj _ _ _ _ _ u1 e n1 g1
    refine ⟨u1 ++ u2, by rw [e1]; exact e2, g2, n2, ?_⟩
    have := bt_mono (p := q) hk
    simp at l2 ⊢; omega
theorem allF_snd {o : Rd} (h : Snd 2 o) : Snd 1 (allF o) := rowF_snd (by omega) (by simp [Gd]) h (fun _ _ => rfl) (fun a b => by simp [bt, brkL, toks, Pt.rank])
theorem ruleF_snd {o : Rd} (h : Snd 2 o) : Snd 0 (ruleF o) := rowF_snd (by omega) (by simp [Gd]) (allF_snd h) (fun _ _ => rfl) (fun a b => by simp [bt, brkL, toks])
theorem oneF_snd {o : Rd} (h : Snd 2 o) : Snd 2 (oneF o) := by
  intro ts p r e
  cases ts with
  | nil => cases e
  | cons t ts =>
    simp only [oneF] at e
    split at e
    · rename_i ht
      cases ho : o ts with
      | none => rw [ho] at e; cases e
      | some x =>
        obtain ⟨q, s⟩ := x
        rw [ho] at e
        simp only [Option.map_some, Option.some.injEq, Prod.mk.injEq] at e
        obtain ⟨rfl, rfl⟩ := e
        obtain ⟨u1, e1, g1, n1, l1⟩ := h _ _ _ ho
        refine ⟨t :: u1, by rw [e1]; rfl, ?_, n1.mono (by simp +contextual), ?_⟩
        · intro x hx; rcases List.mem_cons.1 hx with rfl | hx
          · exact .inl ht
          · exact g1 x hx
        · simp only [bt] at l1
          simp [bt, brkL, toks, Pt.rank] at l1 ⊢; omega
    · split at e
      · rename_i ht
        cases ho : ruleF o ts with
        | none => rw [ho] at e; cases e
        | some x =>
          obtain ⟨q, s⟩ := x
          rw [ho] at e
          cases s with
          | nil => cases e
          | cons c s =>
            simp only [Option.bind_some, shut] at e
            split at e
            · rename_i hc
              simp only [Option.some.injEq, Prod.mk.injEq] at e
              obtain ⟨rfl, rfl⟩ := e
              obtain ⟨u1, e1, g1, n1, l1⟩ := ruleF_snd h _ _ _ ho
              refine ⟨t :: u1 ++ [c], by rw [e1]; simp, ?_, n1.mono (by simp +contextual), ?_⟩
              · intro x hx
                simp only [List.cons_append, List.mem_cons, List.mem_append, List.not_mem_nil, or_false] at hx
                rcases hx with rfl | hx | rfl
                · exact .inr (.inl ht)
                · exact g1 x hx
                · exact .inr (.inr (.inl hc))
              · rw [bt_zero] at l1
                have := bt_le 2 q
                simp; omega
            · cases e
      · split at e
        · rename_i ht
          simp only [Option.some.injEq, Prod.mk.injEq] at e
          obtain ⟨rfl, rfl⟩ := e
          exact ⟨[t], rfl, (by simp [Gd, ht]), (fun s hs => by simp [Pt.names] at hs), (by simp [bt, brkL, toks, Pt.rank])⟩
        · rename_i hne
          split at e
          · rename_i ht
            simp only [Option.some.injEq, Prod.mk.injEq] at e
            obtain ⟨rfl, rfl⟩ := e
            exact ⟨[t], rfl, by simp [Gd, ht], fun s hs => by simp [Pt.names] at hs; subst hs; exact ⟨by simp, ht, hne⟩, by simp [bt, brkL, toks, Pt.rank]⟩
          · cases e
theorem one_snd : ∀ n, Snd 2 (one n)
  | 0 => fun _ _ _ e => by cases e
  | n + 1 => oneF_snd (one_snd n)
theorem parse_snd {ts : List Bs} {p : Pt} (h : parse ts = some p) : (∀ t ∈ ts, Gd t) ∧ Nm p ts ∧ (toks p).length ≤ ts.length := by
  unfold parse at h
  cases hr : rule (ts.length + 1) ts with
  | none => rw [hr] at h; cases h
  | some x =>
    obtain ⟨q, r⟩ := x
    rw [hr] at h
    cases r with
    | cons c r => cases h
    | nil =>
      simp only [whole, Option.some.injEq] at h
      subst h
      obtain ⟨u, e, g, n, l⟩ := ruleF_snd (one_snd _) _ _ _ hr
      rw [List.append_nil] at e
      subst e
      rw [bt_zero] at l
      exact ⟨g, n, l⟩
/-- the same text, the same sets -/
structure Sim (p q : Pt) : Prop where
  text : q.text = p.text
  rank : q.rank = p.rank
  holds : ∀ set, q.holds set = p.holds set
theorem Sim.refl (p : Pt) : Sim p p := ⟨rfl, rfl, fun _ => rfl⟩
theorem Sim.trans {p q r : Pt} (h : Sim p q) (k : Sim q r) : Sim p r := ⟨k.text.trans h.text, k.rank.trans h.rank, fun s => (k.holds s).trans (h.holds s)⟩
theorem Sim.brk {p q : Pt} (h : Sim p q) (k : Nat) : q.brk k q.text = p.brk k p.text := by simp [Pt.brk, h.rank, h.text]
theorem Sim.not {p q : Pt} (h : Sim p q) : Sim (.not p) (.not q) := ⟨by simp [Pt.text, h.brk], rfl, fun s => by simp [Pt.holds, h.holds]⟩
theorem Sim.both {a b p q : Pt} (h : Sim a p) (k : Sim b q) : Sim (.both a b) (.both p q) := ⟨by simp [Pt.text, h.brk, k.brk], rfl, fun s => by simp [Pt.holds, h.holds, k.holds]⟩
theorem Sim.either {a b p q : Pt} (h : Sim a p) (k : Sim b q) : Sim (.either a b) (.either p q) := ⟨by simp [Pt.text, h.brk, k.brk], rfl, fun s => by simp [Pt.holds, h.holds, k.holds]⟩
theorem Sim.both_assoc (a b c : Pt) : Sim (.both a (.both b c)) (.both (.both a b) c) := ⟨by simp [Pt.text, Pt.brk, Pt.rank], rfl, fun s => by simp [Pt.holds, Bool.and_assoc]⟩
theorem Sim.either_assoc (a b c : Pt) : Sim (.either a (.either b c)) (.either (.either a b) c) := ⟨by simp [Pt.text, Pt.brk, Pt.rank], rfl, fun s => by simp [Pt.holds, Bool.or_assoc]⟩
def moreN (sg : Bs) (op : Rd) (jn : Pt → Pt → Pt) (l : Pt) (ts : List Bs) : Option (Pt × List Bs) := more sg op jn (ts.length + 1) l ts
theorem moreN_step {sg : Bs} {op : Rd} {jn : Pt → Pt → Pt} (hs : Shr op) (l : Pt) (ts : List Bs) : moreN sg op jn l (sg :: ts) = (op ts).bind fun x => moreN sg op jn (jn l x.1) x.2 := by
  simp only [moreN, more]
  rw [if_pos trivial]
  cases ho : op ts with
  | none => rfl
  | some x =>
    have := hs _ _ _ ho
    exact more_eqv hs (k := x.2.length) (fun _ _ => rfl) _ _ _ _ (Nat.le_refl _) (by simp; omega) (by omega)
theorem moreN_end {sg : Bs} {op : Rd} {jn : Pt → Pt → Pt} (l : Pt) (ts : List Bs) (h : ∀ t, ts.head? = some t → t ≠ sg) : moreN sg op jn l ts = some (l, ts) := by
  cases ts with
  | nil => rfl
  | cons t ts => simp only [moreN, more]; rw [if_neg (h t rfl)]
theorem rowF_moreN (sg : Bs) (op : Rd) (jn : Pt → Pt → Pt) (ts : List Bs) : rowF sg op jn ts = (op ts).bind fun x => moreN sg op jn x.1 x.2 := rfl
/-- tags that are read as tags -/
def Tg (p : Pt) : Prop := ∀ s ∈ p.names, idB s = true ∧ s ≠ sTrue
/-- what is read back -/
structure Bk (q : Pt) : Prop where
  b2 : ∃ q', Sim q q' ∧ ∀ n X, (bt 2 q).length ≤ n → one n (bt 2 q ++ X) = some (q', X)
  f : ∃ q', Sim q q' ∧ ∀ n X, (bt 1 q).length ≤ n → (one n (bt 1 q ++ X)).bind (fun x => moreN sAnd (one n) .both x.1 x.2) = moreN sAnd (one n) .both q' X
  m : ∃ g : Pt → Pt, (∀ l, Sim (.both l q) (g l)) ∧ ∀ n X l, (bt 1 q).length ≤ n → (one n (bt 1 q ++ X)).bind (fun x => moreN sAnd (one n) .both (.both l x.1) x.2) = moreN sAnd (one n) .both (g l) X
  fo : ∃ q', Sim q q' ∧ ∀ n X, (toks q).length ≤ n → (∀ t, X.head? = some t → t ≠ sAnd) → (allF (one n) (toks q ++ X)).bind (fun x => moreN sOr (allF (one n)) .either x.1 x.2) = moreN sOr (allF (one n)) .either q' X
  mo : ∃ g : Pt → Pt, (∀ l, Sim (.either l q) (g l)) ∧ ∀ n X l, (toks q).length ≤ n → (∀ t, X.head? = some t → t ≠ sAnd) → (allF (one n) (toks q ++ X)).bind (fun x => moreN sOr (allF (one n)) .either (.either l x.1) x.2) = moreN sOr (allF (one n)) .either (g l) X
abbrev B2 (q : Pt) : Prop := ∃ q', Sim q q' ∧ ∀ n X, (bt 2 q).length ≤ n → one n (bt 2 q ++ X) = some (q', X)
abbrev Fq (q : Pt) : Prop := ∃ q', Sim q q' ∧ ∀ n X, (bt 1 q).length ≤ n → (one n (bt 1 q ++ X)).bind (fun x => moreN sAnd (one n) .both x.1 x.2) = moreN sAnd (one n) .both q' X
abbrev Mq (q : Pt) : Prop := ∃ g : Pt → Pt, (∀ l, Sim (.both l q) (g l)) ∧ ∀ n X l, (bt 1 q).length ≤ n → (one n (bt 1 q ++ X)).bind (fun x => moreN sAnd (one n) .both (.both l x.1) x.2) = moreN sAnd (one n) .both (g l) X
abbrev FOq (q : Pt) : Prop := ∃ q', Sim q q' ∧ ∀ n X, (toks q).length ≤ n → (∀ t, X.head? = some t → t ≠ sAnd) → (allF (one n) (toks q ++ X)).bind (fun x => moreN sOr (allF (one n)) .either x.1 x.2) = moreN sOr (allF (one n)) .either q' X
abbrev MOq (q : Pt) : Prop := ∃ g : Pt → Pt, (∀ l, Sim (.either l q) (g l)) ∧ ∀ n X l, (toks q).length ≤ n → (∀ t, X.head? = some t → t ≠ sAnd) → (allF (one n) (toks q ++ X)).bind (fun x => moreN sOr (allF (one n)) .either (.either l x.1) x.2) = moreN sOr (allF (one n)) .either (g l) X
theorem f_of {q : Pt} (hr : q.rank ≠ 1) (h : B2 q) : Fq q := by
  obtain ⟨q', s, h⟩ := h
  have e : bt 1 q = bt 2 q := by
    simp only [bt, brkL]
    by_cases h1 : q.rank < 1
    · rw [if_pos h1, if_pos (by omega)]
    · have : ¬ q.rank < 2 := by omega
      rw [if_neg h1, if_neg this]
  exact ⟨q', s, fun n X hn => by rw [e] at hn ⊢; rw [h n X hn]; rfl⟩
theorem m_of {q : Pt} (hr : q.rank ≠ 1) (h : B2 q) : Mq q := by
  obtain ⟨q', s, h⟩ := h
  have e : bt 1 q = bt 2 q := by
    simp only [bt, brkL]
    by_cases h1 : q.rank < 1
    · rw [if_pos h1, if_pos (by omega)]
    · have : ¬ q.rank < 2 := by omega
      rw [if_neg h1, if_neg this]
  exact ⟨fun l => .both l q', fun l => (Sim.refl l).both s, fun n X l hn => by rw [e] at hn ⊢; rw [h n X hn]; rfl⟩
theorem all_of {q : Pt} (hr : 1 ≤ q.rank) {q' : Pt} (h : ∀ n X, (bt 1 q).length ≤ n → (one n (bt 1 q ++ X)).bind (fun x => moreN sAnd (one n) .both x.1 x.2) = moreN sAnd (one n) .both q' X) (n : Nat) (X : List Bs) (hn : (toks q).length ≤ n) (hx : ∀ t, X.head? = some t → t ≠ sAnd) : allF (one n) (toks q ++ X) = some (q', X) := by
  have e : bt 1 q = toks q := by simp only [bt, brkL]; rw [if_neg (by omega)]
  rw [e] at h
  rw [allF, rowF_moreN, h n X hn, moreN_end _ _ hx]
theorem fo_of {q : Pt} (hr : 1 ≤ q.rank) (h : Fq q) : FOq q := by
  obtain ⟨q', s, h⟩ := h
  exact ⟨q', s, fun n X hn hx => by rw [all_of hr h n X hn hx]; rfl⟩
theorem mo_of {q : Pt} (hr : 1 ≤ q.rank) (h : Fq q) : MOq q := by
  obtain ⟨q', s, h⟩ := h
  exact ⟨fun l => .either l q', fun l => (Sim.refl l).either s, fun n X l hn hx => by rw [all_of hr h n X hn hx]; rfl⟩
theorem r_of {q : Pt} (h : FOq q) : ∃ q', Sim q q' ∧ ∀ n X, (toks q).length ≤ n → (∀ t, X.head? = some t → t ≠ sAnd ∧ t ≠ sOr) → rule n (toks q ++ X) = some (q', X) := by
  obtain ⟨q', s, h⟩ := h
  refine ⟨q', s, fun n X hn hx => ?_⟩
  rw [rule, ruleF, rowF_moreN, h n X hn (fun t ht => (hx t ht).1), moreN_end _ _ (fun t ht => (hx t ht).2)]
theorem b2_of {q : Pt} (hr : q.rank < 2) (h : FOq q) : B2 q := by
  obtain ⟨q', s, h⟩ := r_of h
  refine ⟨q', s, fun n X hn => ?_⟩
  have e : bt 2 q = sO :: (toks q ++ [sC]) := by simp only [bt, brkL]; rw [if_pos hr]
  rw [e] at hn ⊢
  cases n with
  | zero => simp at hn
  | succ n =>
    show oneF (one n) (sO :: ((toks q ++ [sC]) ++ X)) = _
    simp only [oneF]
    rw [if_neg (by decide), if_pos trivial, List.append_assoc]
    simp at hn
    rw [show ruleF (one n) (toks q ++ ([sC] ++ X)) = _ from h n ([sC] ++ X) (by omega) (fun t ht => by
      simp only [List.singleton_append, List.head?_cons, Option.some.injEq] at ht; subst ht; decide)]
    simp [shut]
theorem bk : ∀ q : Pt, Tg q → Bk q
  | .yes, _ => by
    have h2 : B2 .yes := ⟨.yes, .refl _, fun n X hn => by
      cases n with
      | zero => simp [bt, brkL, toks, Pt.rank] at hn
      | succ n => rfl⟩
    have hf := f_of (by decide) h2
    exact ⟨h2, hf, m_of (by decide) h2, fo_of (by decide) hf, mo_of (by decide) hf⟩
  | .tag s, ht => by
    have h2 : B2 (.tag s) := ⟨.tag s, .refl _, fun n X hn => by
      obtain ⟨hi, hne⟩ := ht s (by simp [Pt.names])
      cases n with
      | zero => simp [bt, brkL, toks, Pt.rank] at hn
      | succ n =>
        show oneF (one n) (s :: X) = _
        simp only [oneF]
        rw [if_neg (by rintro rfl; exact absurd hi (by decide)), if_neg (by rintro rfl; exact absurd hi (by decide)), if_neg hne, if_pos hi]⟩
    have hf := f_of (by simp [Pt.rank]) h2
    exact ⟨h2, hf, m_of (by simp [Pt.rank]) h2, fo_of (by simp [Pt.rank]) hf, mo_of (by simp [Pt.rank]) hf⟩
  | .not p, ht => by
    obtain ⟨p', sp, hp⟩ := (bk p ht).b2
    have h2 : B2 (.not p) := ⟨.not p', sp.not, fun n X hn => by
      cases n with
      | zero => simp [bt, brkL, toks, Pt.rank] at hn
      | succ n =>
        have e : bt 2 (.not p) = sNot :: bt 2 p := by simp [bt, brkL, toks, Pt.rank]
        rw [e] at hn ⊢
        show oneF (one n) (sNot :: (bt 2 p ++ X)) = _
        simp only [oneF]
        rw [if_pos trivial, hp n X (by simp at hn; omega)]
        rfl⟩
    have hf := f_of (by simp [Pt.rank]) h2
    exact ⟨h2, hf, m_of (by simp [Pt.rank]) h2, fo_of (by simp [Pt.rank]) hf, mo_of (by simp [Pt.rank]) hf⟩
  | .both a b, ht => by
    have ha := bk a (fun s hs => ht s (by simp [Pt.names, hs]))
    have hb := bk b (fun s hs => ht s (by simp [Pt.names, hs]))
    obtain ⟨a', sa, fa⟩ := ha.f
    obtain ⟨ga, sga, ma⟩ := ha.m
    obtain ⟨gb, sgb, mb⟩ := hb.m
    have e : bt 1 (.both a b) = bt 1 a ++ sAnd :: bt 1 b := by simp [bt, brkL, toks, Pt.rank]
    have hf : Fq (.both a b) := ⟨gb a', (sa.both (.refl b)).trans (sgb a'), fun n X hn => by
      rw [e] at hn ⊢
      simp at hn
      rw [List.append_assoc, fa n _ (by omega), List.cons_append, moreN_step (one_shr n), mb n X a' (by omega)]⟩
    have hm : Mq (.both a b) := ⟨fun l => gb (ga l), fun l => (Sim.both_assoc l a b).trans (((sga l).both (.refl b)).trans (sgb (ga l))), fun n X l hn => by
      rw [e] at hn ⊢
      simp at hn
      rw [List.append_assoc, ma n _ l (by omega), List.cons_append, moreN_step (one_shr n), mb n X _ (by omega)]⟩
    have hfo := fo_of (q := .both a b) (by simp [Pt.rank]) hf
    exact ⟨b2_of (by simp [Pt.rank]) hfo, hf, hm, hfo, mo_of (by simp [Pt.rank]) hf⟩
  | .either a b, ht => by
    have ha := bk a (fun s hs => ht s (by simp [Pt.names, hs]))
    have hb := bk b (fun s hs => ht s (by simp [Pt.names, hs]))
    obtain ⟨a', sa, fa⟩ := ha.fo
    obtain ⟨ga, sga, ma⟩ := ha.mo
    obtain ⟨gb, sgb, mb⟩ := hb.mo
    have e : toks (.either a b) = toks a ++ sOr :: toks b := by simp [toks, brkL]
    have hne : ∀ t, (sOr :: toks b).head? = some t → t ≠ sAnd := by intro t ht; simp only [List.head?_cons, Option.some.injEq] at ht; subst ht; decide
    have hfo : FOq (.either a b) := ⟨gb a', (sa.either (.refl b)).trans (sgb a'), fun n X hn hx => by
      rw [e] at hn ⊢
      simp at hn
      rw [List.append_assoc, fa n _ (by omega) (by simpa using hne), List.cons_append, moreN_step (show Shr (allF (one n)) from rowF_shr (one_shr n)), mb n X a' (by omega) hx]⟩
    have hmo : MOq (.either a b) := ⟨fun l => gb (ga l), fun l => (Sim.either_assoc l a b).trans (((sga l).either (.refl b)).trans (sgb (ga l))), fun n X l hn hx => by
      rw [e] at hn ⊢
      simp at hn
      rw [List.append_assoc, ma n _ l (by omega) (by simpa using hne), List.cons_append, moreN_step (show Shr (allF (one n)) from rowF_shr (one_shr n)), mb n X _ (by omega) hx]⟩
    have h2 := b2_of (q := .either a b) (by simp [Pt.rank]) hfo
    exact ⟨h2, f_of (by simp [Pt.rank]) h2, m_of (by simp [Pt.rank]) h2, hfo, hmo⟩
theorem parse_back {q : Pt} (h : Tg q) : ∃ q', Sim q q' ∧ parse (toks q) = some q' := by
  obtain ⟨q', s, e⟩ := r_of (bk q h).fo
  refine ⟨q', s, ?_⟩
  have := e ((toks q).length + 1) [] (by omega) (by simp)
  rw [List.append_nil] at this
  rw [parse, this]
  rfl
end Go.Proofs.YtleiohccaagalaaGreat
