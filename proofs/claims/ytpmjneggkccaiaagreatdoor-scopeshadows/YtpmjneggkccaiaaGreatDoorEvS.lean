/- The evaluator's choices, as plain facts; operands. -/
import Derived.Test.YtpmjneggkccaiaaGreatDoorEvR
set_option linter.unusedVariables false
set_option linter.unusedSimpArgs false
namespace Go.Proofs.YtpmjneggkccaiaaGreatDoor
namespace Ev
theorem ob_some {α β : Type} {x : Option α} {f : α → Option β} {b : β} (h : ob x f = some b) : ∃ a, x = some a ∧ f a = some b := by
  cases x with
  | none => cases h
  | some a => exact ⟨a, rfl, h⟩
theorem cb_some {β : Type} {b : Bool} {x : Option β} {y : β} (h : cb b x = some y) : b = true ∧ x = some y := by
  cases b with
  | false => cases h
  | true => exact ⟨rfl, h⟩
theorem oc_none {α β : Type} (d : β) (f : α → β) : oc none d f = d := rfl
theorem oc_some {α β : Type} (a : α) (d : β) (f : α → β) : oc (some a) d f = f a := rfl
theorem tb_true {β : Type} (x y : β) : tb true x y = x := rfl
theorem tb_false {β : Type} (x y : β) : tb false x y = y := rfl
/-- Which of the two it is. -/
theorem oc_or {α β : Type} {x : Option α} {d : β} {f : α → β} {r : β} (h : oc x d f = r) : (x = none ∧ d = r) ∨ ∃ a, x = some a ∧ f a = r := by
  cases x with
  | none => exact .inl ⟨rfl, h⟩
  | some a => exact .inr ⟨a, rfl, h⟩
theorem tb_or {β : Type} {b : Bool} {x y : β} {r : β} (h : tb b x y = r) : (b = true ∧ x = r) ∨ (b = false ∧ y = r) := by
  cases b with
  | false => exact .inr ⟨rfl, h⟩
  | true => exact .inl ⟨rfl, h⟩
theorem asI_some {v : AV} {p : IntKind × Int} (h : asI v = some p) : v = .int p.1 p.2 := by cases v <;> cases h <;> rfl
theorem asS_some {v : AV} {l : List Nat} (h : asS v = some l) : v = .str l := by cases v <;> cases h <;> rfl
theorem asB_some {v : AV} {b : Bool} (h : asB v = some b) : v = .bool b := by cases v <;> cases h <;> rfl
theorem asAgg_some {v : AV} {l : List AV} (h : asAgg v = some l) : v = .agg l := by cases v <;> cases h <;> rfl
theorem asTup_some {v : AV} {l : List AV} (h : asTup v = some l) : v = .tup l := by cases v <;> cases h <;> rfl
theorem asPt_some {v : AV} {p : Pt} (h : asPt v = some p) : v = .ptr p.b p.off := by cases v <;> cases h <;> rfl
theorem asSk_some {v : AV} {p : Sk} (h : asSk v = some p) : v = .slk p.b p.off p.len p.c := by cases v <;> cases h <;> rfl
theorem asSu_some {v : AV} {p : Sk} (h : asSu v = some p) : v = .slu p.b p.off p.len p.c := by cases v <;> cases h <;> rfl
theorem asSl_some {v : AV} {p : Sl} (h : asSl v = some p) : (∃ c, v = .slk p.b p.off p.len c) ∨ ∃ c, v = .slu p.b p.off p.len c := by
  cases v <;> cases h
  · exact .inl ⟨_, rfl⟩
  · exact .inr ⟨_, rfl⟩
theorem asFv_some {v : AV} {p : Fv} (h : asFv v = some p) : v = .func p.fn p.first p.cap := by cases v <;> cases h <;> rfl
theorem asYield_some {v : AV} {b : Bn} (h : asYield v = some b) : v = .yield b := by cases v <;> cases h <;> rfl
theorem asMap_some {v : AV} {m : Option Bn} (h : asMap v = some m) : v = (match m with | none => .map0 | some b => .map b) := by cases v <;> cases h <;> rfl
theorem isSl0_true {v : AV} (h : isSl0 v = true) : v = .sl0 := by cases v <;> cases h <;> rfl
theorem isIface_true {v : AV} (h : isIface v = true) : ∃ t x, v = .iface t x := by cases v <;> cases h; exact ⟨_, _, rfl⟩
theorem fnF_some {f : Fn} {n : Nat} (h : fnF f = some n) : f = .func n := by cases f <;> cases h <;> rfl
theorem natI_some {n : Int} {m : Nat} (h : natI n = some m) : n = .ofNat m := by cases n <;> cases h <;> rfl
theorem intOf_some {v : AV} {n : Nat} (h : intOf v = some n) : ∃ k, v = .int k (.ofNat n) := by
  cases v with
  | int k i => exact ⟨k, by rw [natI_some h]⟩
  | _ => cases h
theorem isI64_true {k : IntKind} (h : isI64 k = true) : k = .i64 := by cases k <;> cases h <;> rfl
theorem kindEq_true {j k : IntKind} (h : kindEq j k = true) : j = k := by
  cases j <;> cases k <;> first | rfl | (exact absurd h (by decide))
theorem asCe_some {o : AO} {c : Ce} (h : asCe o = some c) : o = .cells c.t c.n c.es c.el := by cases o <;> cases h <;> rfl
theorem asMp_some {o : AO} {c : Mp} (h : asMp o = some c) : o = .map c.es c.clock := by cases o <;> cases h <;> rfl
theorem asMi_some {o : AO} {c : Mi} (h : asMi o = some c) : o = .miter c.m c.since c.seen c.last := by cases o <;> cases h <;> rfl
theorem asLp_some {o : AO} {c : Lp} (h : asLp o = some c) : o = c.o c.st c.pend := by cases o <;> cases h <;> rfl
theorem asSi_some {o : AO} {c : List Nat × Nat} (h : asSi o = some c) : o = .siter c.1 c.2 := by cases o <;> cases h <;> rfl
theorem cellsAt_some {H : T AO} {b : Bn} {c : Ce} (h : cellsAt H b = some c) : H.get b = some (.cells c.t c.n c.es c.el) := by
  obtain ⟨o, h1, h2⟩ := ob_some h
  rw [h1, asCe_some h2]
theorem mapAt_some {H : T AO} {b : Bn} {c : Mp} (h : mapAt H b = some c) : H.get b = some (.map c.es c.clock) := by
  obtain ⟨o, h1, h2⟩ := ob_some h
  rw [h1, asMp_some h2]
theorem lpAt_some {H : T AO} {b : Bn} {c : Lp} (h : lpAt H b = some c) : H.get b = some (c.o c.st c.pend) := by
  obtain ⟨o, h1, h2⟩ := ob_some h
  rw [h1, asLp_some h2]
theorem lenN_eq {α : Type} : ∀ l : List α, lenN l = l.length
  | [] => rfl
  | _ :: l => congrArg Nat.succ (lenN_eq l)
theorem nthO_eq {α : Type} : ∀ (l : List α) (n : Nat), nthO l n = l[n]?
  | [], n => by cases n <;> rfl
  | _ :: _, 0 => rfl
  | _ :: l, n + 1 => by
    show nthO l n = _
    rw [nthO_eq l n]; simp
theorem takeN_eq {α : Type} : ∀ (l : List α) (n : Nat), takeN l n = l.take n
  | [], n => by cases n <;> rfl
  | _ :: _, 0 => rfl
  | x :: l, n + 1 => by
    show x :: takeN l n = _
    rw [takeN_eq l n]; rfl
theorem dropN_eq {α : Type} : ∀ (n : Nat) (l : List α), dropN l n = l.drop n
  | 0, _ => rfl
  | n + 1, [] => by show ([] : List α) = _; simp
  | n + 1, _ :: l => by
    show dropN l n = _
    rw [dropN_eq n l]; rfl
theorem appN_eq {α : Type} : ∀ a b : List α, appN a b = a ++ b
  | [], _ => rfl
  | x :: a, b => by
    show x :: appN a b = _
    rw [appN_eq a b]; rfl
theorem headL_eq {α : Type} (l : List α) : headL l = l.head? := by cases l <;> rfl
theorem notB_eq (b : Bool) : notB b = !b := by cases b <;> rfl
theorem eqB_eq (a b : Bool) : eqB a b = (a == b) := by cases a <;> cases b <;> rfl
theorem eqLN_eq : ∀ a b : List Nat, eqLN a b = decide (a = b)
  | [], [] => rfl
  | [], _ :: _ => rfl
  | _ :: _, [] => rfl
  | x :: a, y :: b => by
    show tb (Nat.beq x y) (eqLN a b) false = _
    rw [eqLN_eq a b]
    cases h : Nat.beq x y with
    | true =>
      have := Nat.eq_of_beq_eq_true h
      simp [tb_true, this]
    | false =>
      have := Nat.ne_of_beq_eq_false h
      simp [tb_false, this]
theorem eqInt_eq (a b : Int) : eqInt a b = (a == b) := by
  cases a with
  | ofNat m => cases b with
    | ofNat n =>
      show Nat.beq m n = _
      cases h : Nat.beq m n with
      | true => rw [Nat.eq_of_beq_eq_true h]; simp
      | false => have := Nat.ne_of_beq_eq_false h; symm; simp; omega
    | negSucc n => rfl
  | negSucc m => cases b with
    | ofNat n => rfl
    | negSucc n =>
      show Nat.beq m n = _
      cases h : Nat.beq m n with
      | true => rw [Nat.eq_of_beq_eq_true h]; simp
      | false => have := Nat.ne_of_beq_eq_false h; symm; simp; omega
theorem blt_eq (m n : Nat) : Nat.blt m n = decide (m < n) := by
  cases h : Nat.blt m n with
  | true => have := Nat.le_of_ble_eq_true h; simp; omega
  | false =>
    have : ¬ Nat.succ m ≤ n := fun q => by rw [Nat.blt, Nat.ble_eq_true_of_le q] at h; cases h
    simp; omega
theorem ltInt_eq (a b : Int) : ltInt a b = decide (a < b) := by
  cases a with
  | ofNat m => cases b with
    | ofNat n => show Nat.blt m n = _; rw [blt_eq]; simp
    | negSucc n => show false = _; symm; simp; omega
  | negSucc m => cases b with
    | ofNat n => show true = _; symm; simp; omega
    | negSucc n => show Nat.blt n m = _; rw [blt_eq]; by_cases q : n < m <;> simp <;> omega
theorem ble_true {m n : Nat} (h : Nat.ble m n = true) : m ≤ n := Nat.le_of_ble_eq_true h
theorem beq_true {m n : Nat} (h : Nat.beq m n = true) : m = n := Nat.eq_of_beq_eq_true h
theorem cells_cv (v : AV) : v.cells = (match v with | .agg l => l | v => [v]) := by cases v <;> rfl
theorem cv1_sound (μ : Mu) {v : Value} {a : AV} (h : cv1 v = some a) : RV μ a v := by
  unfold cv1 at h
  split at h <;> first | (cases h; exact .str rfl) | (cases h; constructor) | cases h
theorem cvs_sound (μ : Mu) : ∀ {l : List Value} {a : List AV}, cvs l = some a → RVs μ a l
  | [], _, h => by cases h; exact .nil
  | v :: l, a, h => by
    obtain ⟨x, h1, h2⟩ := ob_some (x := cv1 v) h
    obtain ⟨y, h3, h4⟩ := ob_some (x := cvs l) h2
    cases h4
    exact .cons (cv1_sound μ h1) (cvs_sound μ h3)
theorem cv_sound (μ : Mu) {v : Value} {a : AV} (h : cv v = some a) : RV μ a v := by
  unfold cv at h
  split at h
  · obtain ⟨l, h1, h2⟩ := ob_some h; cases h2; exact .agg (cvs_sound μ h1)
  · obtain ⟨l, h1, h2⟩ := ob_some h; cases h2; exact .tup (cvs_sound μ h1)
  · exact cv1_sound μ h
/-- The temporaries. -/
def RT (μ : Mu) (tm : T AV) (tmps : Array Value) : Prop := ∀ t v, tm.get (pOf t) = some v → RV μ v (tmps.getD t undef)
theorem opnd_sound {μ : Mu} {tm : T AV} {a : Act} (h : RT μ tm a.tmps) {x : Operand} {v : AV} (e : opnd tm x = some v) : RV μ v (a.eval x) := by
  cases x with
  | tmp t => exact h t v e
  | const c => exact cv_sound μ e
  | global g => cases e
  | func f => cases e; exact .func (fun n q => by cases q) .nil .nil
theorem opnds_sound {μ : Mu} {tm : T AV} {a : Act} (h : RT μ tm a.tmps) : ∀ {l : List Operand} {vs : List AV}, opnds tm l = some vs → RVs μ vs (l.map a.eval)
  | [], _, e => by cases e; exact .nil
  | x :: l, vs, e => by
    obtain ⟨v, h1, h2⟩ := ob_some (x := opnd tm x) e
    obtain ⟨r, h3, h4⟩ := ob_some (x := opnds tm l) h2
    cases h4
    exact .cons (opnd_sound h h1) (opnds_sound h h3)
theorem RT.put {μ : Mu} {tm : T AV} {tmps : Array Value} (h : RT μ tm tmps) {d nt : Nat} {v : AV} {x : Value} (hn : tmps.size = nt) (r : RV μ v x) :
    RT μ (tm.put (pOf d) (tb (Nat.blt d nt) (some v) none)) (tmps.setIfInBounds d x) := by
  intro t u e
  rw [T.put_get] at e
  split at e
  · rename_i q
    have q := pOf_inj q
    subst q
    rcases tb_or e with ⟨h1, h2⟩ | ⟨_, h2⟩
    · cases h2
      rw [blt_eq] at h1
      have : t < tmps.size := by rw [hn]; simpa using h1
      simp [Array.getD, this]; exact r
    · cases h2
  · rename_i q
    have hne : d ≠ t := fun e => q (by rw [e])
    have := h t u e
    simp only [Array.getD_eq_getD_getElem?, Array.getElem?_setIfInBounds_ne hne] at this ⊢
    exact this
theorem RT.mono {μ ν : Mu} (h : Mu.le μ ν) {tm : T AV} {tmps : Array Value} (r : RT μ tm tmps) : RT ν tm tmps := fun t v e => (r t v e).mono h
theorem bl_lt (s : ByteArray) : ∀ x ∈ bl s, x < 256 := by
  intro x hx
  obtain ⟨b, _, rfl⟩ := List.mem_map.1 hx
  exact b.toNat_lt
theorem codeN_cons (x : Nat) (l : List Nat) : codeN (x :: l) = x + 256 * codeN l := rfl
theorem codeN_drop : ∀ (o : Nat) (l : List Nat), (∀ x ∈ l, x < 256) → codeN l / 256 ^ o = codeN (l.drop o)
  | 0, l, _ => by simp
  | o + 1, [], _ => by show 0 / 256 ^ (o + 1) = codeN []; rw [Nat.zero_div]; rfl
  | o + 1, x :: l, h => by
    have hx := h x (.head _)
    have ih := codeN_drop o l (fun y hy => h y (.tail _ hy))
    rw [codeN_cons, Nat.pow_succ, Nat.mul_comm (256 ^ o) 256, ← Nat.div_div_eq_div_mul, show (x + 256 * codeN l) / 256 = codeN l by omega, ih]
    rfl
theorem land255 (c : Nat) : Nat.land c 255 = c % 256 := Nat.and_two_pow_sub_one_eq_mod c 8
theorem shr8 (c n : Nat) : Nat.shiftRight c (Nat.mul 8 n) = c / 256 ^ n := by
  show c >>> (8 * n) = _
  rw [Nat.shiftRight_eq_div_pow, Nat.pow_mul]
theorem chrAt_eq {l : List Nat} (h : ∀ x ∈ l, x < 256) (n : Nat) : chrAt l n = l[n]? := by
  show cb (Nat.blt n (lenN l)) (some (Nat.land (Nat.shiftRight (codeN l) (Nat.mul 8 n)) 255)) = _
  rw [land255, shr8, codeN_drop n l h, lenN_eq, blt_eq]
  by_cases hn : n < l.length
  · simp only [hn, decide_true]
    rw [List.getElem?_eq_getElem hn, List.drop_eq_getElem_cons hn, codeN_cons]
    have := h _ (List.getElem_mem hn)
    show some _ = some _
    congr 1
    omega
  · simp only [hn, decide_false]
    rw [List.getElem?_eq_none (by omega)]
    rfl
theorem unp_take : ∀ (m : Nat) (l : List Nat), (∀ x ∈ l, x < 256) → m ≤ l.length → unp m (codeN l) = l.take m
  | 0, l, _, _ => rfl
  | m + 1, [], _, h => by simp at h
  | m + 1, x :: l, h, hm => by
    have hx := h x (.head _)
    have ih := unp_take m l (fun y hy => h y (.tail _ hy)) (by simpa using hm)
    show Nat.land (codeN (x :: l)) 255 :: unp m (Nat.shiftRight (codeN (x :: l)) 8) = _
    rw [land255, show Nat.shiftRight (codeN (x :: l)) 8 = codeN (x :: l) / 256 by
      show codeN (x :: l) >>> 8 = _
      rw [Nat.shiftRight_eq_div_pow], codeN_cons, show (x + 256 * codeN l) / 256 = codeN l by omega, show (x + 256 * codeN l) % 256 = x by omega, ih]
    rfl
theorem cutN_eq {l : List Nat} (h : ∀ x ∈ l, x < 256) {o m : Nat} (hm : o + m ≤ l.length) : cutN l o m = (l.drop o).take m := by
  show unp m (Nat.shiftRight (codeN l) (Nat.mul 8 o)) = _
  rw [shr8, codeN_drop o l h]
  exact unp_take m _ (fun x hx => h x (List.mem_of_mem_drop hx)) (by rw [List.length_drop]; omega)
theorem codeN_inj : ∀ {a b : List Nat}, (∀ x ∈ a, x < 256) → (∀ x ∈ b, x < 256) → a.length = b.length → codeN a = codeN b → a = b
  | [], [], _, _, _, _ => rfl
  | [], _ :: _, _, _, h, _ => by simp at h
  | _ :: _, [], _, _, h, _ => by simp at h
  | x :: a, y :: b, ha, hb, h, e => by
    rw [codeN_cons, codeN_cons] at e
    have h1 := ha x (.head _)
    have h2 := hb y (.head _)
    rw [codeN_inj (a := a) (b := b) (fun z hz => ha z (.tail _ hz)) (fun z hz => hb z (.tail _ hz)) (by simpa using h) (by omega), show x = y by omega]
theorem eqTx_eq {a b : List Nat} (ha : ∀ x ∈ a, x < 256) (hb : ∀ x ∈ b, x < 256) : eqTx a b = decide (a = b) := by
  show tb (Nat.beq (lenN a) (lenN b)) (Nat.beq (codeN a) (codeN b)) false = _
  rw [lenN_eq, lenN_eq]
  by_cases h : a = b
  · subst h
    rw [show Nat.beq a.length a.length = true from Nat.beq_refl _, show Nat.beq (codeN a) (codeN a) = true from Nat.beq_refl _]
    simp [tb_true]
  · simp only [h, decide_false]
    cases q : Nat.beq a.length b.length with
    | false => rfl
    | true =>
      rw [tb_true]
      cases r : Nat.beq (codeN a) (codeN b) with
      | false => rfl
      | true => exact absurd (codeN_inj ha hb (Nat.eq_of_beq_eq_true q) (Nat.eq_of_beq_eq_true r)) h
theorem eqTx_bl (s t : ByteArray) : eqTx (bl s) (bl t) = eqLN (bl s) (bl t) := by rw [eqTx_eq (bl_lt s) (bl_lt t), eqLN_eq]
end Ev
end Go.Proofs.YtpmjneggkccaiaaGreatDoor
