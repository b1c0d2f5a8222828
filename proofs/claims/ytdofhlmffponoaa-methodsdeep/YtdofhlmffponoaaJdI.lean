/-
  What lies in the evaluator's blocks, read as declared types.
-/
import Derived.Test.YtdofhlmffponoaaEvTop
import Derived.Test.YtdofhlmffponoaaJdD
import Derived.Test.YtdofhlmffponoaaJdH
import Derived.Test.YtdofhlmffponoaaJdF
namespace Go.Proofs.Ytdofhlmffponoaa
namespace Ev
open Go.RowKit
/-- what only grows leaves what the evaluator knows -/
theorem HR.still {w0 : Fx} {μ : Mu} {H : T AO} {nx : Bn} {w w' : World} (h : HR w0 μ H nx w) (hb : Below w.heap.size w w') : HR w0 μ H nx w' := by
  refine ⟨h.ext.to hb.os hb.tape hb.output (fun i hi _ => hb.block i hi), h.base, fun b o hg => ?_, h.sep, h.new, h.res⟩
  obtain ⟨l, h1, h2⟩ := h.live b o hg
  exact ⟨l, h1, RO.keep (Mu.le.refl _) (hb.block _ h2.lt) h2⟩
/-- a call that only reads is known, if what it answers is -/
theorem met_still {P : Program} {m : Met} (hp : m.news = m.pre) (hz : m.nz = m.nx) (h : ∀ (w0 : Fx) (μ : Mu) (w : World) (xs : List Value), HR w0 μ (putL m.pre .leaf) m.nx w → RVs μ m.args xs → ∃ x, RV μ m.v x ∧ Calls P m.f ⟨xs⟩ w (fun e w' => e = .returned x ∧ Below w.heap.size w w')) : MetOk P m := by
  intro w0 μ w xs hR hx
  obtain ⟨x, hv, hc⟩ := h w0 μ w xs hR hx
  refine hc.mono ?_
  rintro e w' ⟨rfl, hb⟩
  exact ⟨μ, x, Mu.le.refl _, by rw [hp, hz]; exact hR.still hb, hv, rfl⟩
/-- a cell of a block -/
noncomputable def celA (H : T AO) (b : Bn) (i : Nat) : Option AV := match H.get b with
  | some (.cells t n _ _) => if i < n then t.getN i else none
  | _ => none
theorem celA_ok {w0 : Fx} {μ : Mu} {H : T AO} {nx : Bn} {w : World} (h : HR w0 μ H nx w) {b : Bn} {i : Nat} {v : AV} {l : Loc} (hl : μ b = some l) (e : celA H b i = some v) : l.blk < w.heap.size ∧ ∃ x, w.cell? ⟨l.blk, l.base + i, none⟩ = some x ∧ RV μ v x := by
  unfold celA at e
  split at e
  · rename_i t n es el hg
    split at e
    · rename_i hi
      obtain ⟨l', h1, h2⟩ := h.live b _ hg
      rw [hl] at h1
      injection h1 with h1
      subst h1
      have hlt := h2.lt
      obtain ⟨c, h3, _, _, h4⟩ := h2
      obtain ⟨x, h5, h6⟩ := h4 i v hi e
      exact ⟨hlt, x, by rw [cell_of h3]; exact h5, h6⟩
    · cases e
  · cases e
/-- a row of things, told one by one -/
def rowN {α : Type} (g : Nat → Option α) : Nat → Nat → Option (List α)
  | 0, _ => some []
  | n + 1, i => match g i, rowN g n (i + 1) with
    | some a, some l => some (a :: l)
    | _, _ => none
theorem rowN_ok {α : Type} {g : Nat → Option α} : ∀ (n i : Nat) (l : List α), rowN g n i = some l → l.length = n ∧ ∀ j (hj : j < l.length), g (i + j) = some l[j]
  | 0, i, l, h => by
    have : l = [] := by simpa [rowN] using h.symm
    subst this
    exact ⟨rfl, fun j hj => by cases hj⟩
  | n + 1, i, l, h => by
    simp only [rowN] at h
    split at h
    · rename_i a r h1 h2
      injection h with h
      subst h
      obtain ⟨h3, h4⟩ := rowN_ok n (i + 1) r h2
      refine ⟨by simp [h3], fun j hj => ?_⟩
      cases j with
      | zero => simpa using h1
      | succ j =>
        have := h4 j (by simpa using hj)
        rw [show i + (j + 1) = i + 1 + j by omega]
        simpa using this
    · cases h
/-- where a slice's elements lie, and how many -/
inductive Sli where
  | nil
  | at (b : Bn) (o n : Nat)
def sli : AV → Option Sli
  | .sl0 => some .nil
  | .sle => some .nil
  | .slk b o n _ => some (.at b o n)
  | .slu b o n _ => some (.at b o n)
  | _ => none
theorem sli_nil {μ : Mu} {v : AV} {x : Value} (r : RV μ v x) (h : sli v = some .nil) : ∃ a c, x = .slice a 0 c := by
  cases r <;> simp [sli] at h
  · exact ⟨_, _, rfl⟩
  · exact ⟨_, _, rfl⟩
theorem sli_at {μ : Mu} {v : AV} {x : Value} {b : Bn} {o n : Nat} (r : RV μ v x) (h : sli v = some (.at b o n)) : ∃ l c, μ b = some l ∧ x = .slice (some ⟨l.blk, l.base + o, none⟩) n c := by
  cases r <;> simp [sli] at h
  · rename_i h1 h2; obtain ⟨rfl, rfl, rfl⟩ := h; exact ⟨_, _, h1, rfl⟩
  · rename_i h1 h2; obtain ⟨rfl, rfl, rfl⟩ := h; exact ⟨_, _, h1, rfl⟩
/-- the bytes of a list -/
def bsA (l : List Nat) : ByteArray := ⟨(l.map UInt8.ofNat).toArray⟩
theorem bsA_ok {s : ByteArray} {l : List Nat} (h : bl s = l) : bsA l = s := by
  subst h
  unfold bsA bl
  obtain ⟨d⟩ := s
  simp [List.map_map, Function.comp_def]
def strA : AV → Option ByteArray
  | .str l => some (bsA l)
  | _ => none
def booA : AV → Option Bool
  | .bool b => some b
  | _ => none
def intA : AV → Option Int
  | .int .i64 n => some n
  | _ => none
theorem strA_ok {μ : Mu} {v : AV} {x : Value} {s : ByteArray} (r : RV μ v x) (h : strA v = some s) : x = .string s := by
  cases r <;> simp [strA] at h
  rename_i h1; subst h; rw [bsA_ok h1]
theorem booA_ok {μ : Mu} {v : AV} {x : Value} {s : Bool} (r : RV μ v x) (h : booA v = some s) : x = .bool s := by
  cases r <;> simp [booA] at h
  subst h; rfl
theorem intA_ok {μ : Mu} {v : AV} {x : Value} {s : Int} (r : RV μ v x) (h : intA v = some s) : x = .int .i64 s := by
  cases r with
  | int => rename_i k n; cases k <;> simp [intA] at h; subst h; rfl
  | _ => simp [intA] at h
/-- a slice of plain things -/
noncomputable def rowA {α : Type} (f : AV → Option α) (H : T AO) (v : AV) : Option (List α) := match sli v with
  | some .nil => some []
  | some (.at b o n) => rowN (fun j => (celA H b (o + j)).bind f) n 0
  | none => none
theorem rowA_ok {α : Type} {f : AV → Option α} {g : α → Value} (hf : ∀ {μ : Mu} {v : AV} {x : Value} {s : α}, RV μ v x → f v = some s → x = g s) {w0 : Fx} {μ : Mu} {H : T AO} {nx : Bn} {w : World} (h : HR w0 μ H nx w) {v : AV} {x : Value} {l : List α} (r : RV μ v x) (e : rowA f H v = some l) (hn : l.length ≤ 1000000) : RowV g (fun _ => True) w x l := by
  unfold rowA at e
  split at e
  · rename_i hs
    obtain ⟨a, c, rfl⟩ := sli_nil r hs
    exact .inl ⟨a, c, rfl, by simpa using e.symm⟩
  · rename_i b o n hs
    obtain ⟨lo, c, h1, rfl⟩ := sli_at r hs
    obtain ⟨h2, h3⟩ := rowN_ok _ _ _ e
    cases l with
    | nil => exact .inl ⟨_, _, by rw [← h2]; rfl, rfl⟩
    | cons a0 r0 =>
      have hc : ∀ j (hj : j < (a0 :: r0).length), lo.blk < w.heap.size ∧ w.cell? ⟨lo.blk, lo.base + o + j, none⟩ = some (g (a0 :: r0)[j]) := fun j hj => by
        have := h3 j hj
        rw [Nat.zero_add] at this
        obtain ⟨v1, e1, e2⟩ := Option.bind_eq_some_iff.1 this
        obtain ⟨h4, x1, h5, h6⟩ := celA_ok h h1 e1
        rw [hf h6 e2] at h5
        exact ⟨h4, by rw [Nat.add_assoc]; exact h5⟩
      refine .inr ⟨lo.blk, lo.base + o, c, by rw [h2], by omega, (hc 0 (by simp)).1, trivial, fun i y hy => ?_⟩
      obtain ⟨hi, rfl⟩ := List.getElem?_eq_some_iff.1 hy
      exact (hc i hi).2
  · cases e
end Ev
end Go.Proofs.Ytdofhlmffponoaa

/-
  Declared types in the evaluator's blocks: a map of them is the table of the walks.
-/
namespace Go.Proofs.Ytdofhlmffponoaa
namespace Ev
open Go.RowKit
/-- m cells in a row -/
noncomputable def celsA (H : T AO) (b : Bn) (o m : Nat) : Option (List AV) := rowN (fun j => celA H b (o + j)) m 0
theorem celsA_ok {w0 : Fx} {μ : Mu} {H : T AO} {nx : Bn} {w : World} (h : HR w0 μ H nx w) {b : Bn} {o m : Nat} {l : Loc} {vs : List AV} (hl : μ b = some l) (e : celsA H b o m = some vs) : ∃ xs, RVs μ vs xs ∧ xs.length = m ∧ ∀ j, j < m → w.cell? ⟨l.blk, l.base + o + j, none⟩ = xs[j]? := by
  obtain ⟨h1, h2⟩ := rowN_ok _ _ _ e
  have key : ∀ (vs : List AV) (k : Nat), (∀ j (hj : j < vs.length), celA H b (o + (k + j)) = some vs[j]) → ∃ xs, RVs μ vs xs ∧ xs.length = vs.length ∧ ∀ j, j < vs.length → w.cell? ⟨l.blk, l.base + o + (k + j), none⟩ = xs[j]? := by
    intro vs
    induction vs with
    | nil => intro k _; exact ⟨[], .nil, rfl, fun j hj => by cases hj⟩
    | cons v r ih =>
      intro k hk
      obtain ⟨xs, r1, r2, r3⟩ := ih (k + 1) (fun j hj => by
        have := hk (j + 1) (by simpa using hj)
        rw [show k + (j + 1) = k + 1 + j by omega] at this
        simpa using this)
      obtain ⟨_, x, hx, hv⟩ := celA_ok h hl (hk 0 (by simp))
      refine ⟨x :: xs, .cons hv r1, by simp [r2], fun j hj => ?_⟩
      cases j with
      | zero => rw [show l.base + o + (k + 0) = l.base + (o + (k + 0)) by omega]; simpa using hx
      | succ j =>
        have := r3 j (by simpa using hj)
        rw [show k + 1 + j = k + (j + 1) by omega] at this
        simpa using this
  obtain ⟨xs, r1, r2, r3⟩ := key vs 0 (fun j hj => by have := h2 j hj; rwa [Nat.zero_add] at this ⊢)
  exact ⟨xs, r1, by rw [r2, h1], fun j hj => by have := r3 j (by omega); rwa [Nat.zero_add] at this⟩
/-- a type, out of its seven cells -/
noncomputable def tyA (H : T AO) : Nat → List AV → Option Ty
  | 0, _ => none
  | f + 1, l => match l with
    | [a0, a1, a2, a3, a4, a5, a6] =>
      (intA a0).bind fun k => (strA a1).bind fun nm => (intA a2).bind fun n => (booA a3).bind fun fl => (rowA strA H a4).bind fun ns => (rowA booA H a5).bind fun ms =>
        (match sli a6 with
          | some .nil => some []
          | some (.at b o m) => rowN (fun j => (celsA H b (o + j * 7) 7).bind (tyA H f)) m 0
          | none => none).bind fun ks => if ns.length ≤ 1000 ∧ ms.length ≤ 1000 ∧ ks.length ≤ 1000 then some (.mk k nm n fl ns ms ks) else none
    | _ => none
theorem tyA_ok {w0 : Fx} {μ : Mu} {H : T AO} {nx : Bn} {w : World} (h : HR w0 μ H nx w) : ∀ (f : Nat) (vs : List AV) (xs : List Value) (t : Ty), RVs μ vs xs → tyA H f vs = some t → ∃ v : V3, xs = cel t v ∧ Prt (fun _ => True) w t v.n v.m v.k
  | 0, _, _, _, _, e => by cases e
  | f + 1, vs, xs, t, r, e => by
    simp only [tyA] at e
    split at e
    · rename_i a0 a1 a2 a3 a4 a5 a6
      cases r with | cons r0 r => cases r with | cons r1 r => cases r with | cons r2 r => cases r with | cons r3 r => cases r with | cons r4 r => cases r with | cons r5 r => cases r with | cons r6 r => cases r with | nil =>
      obtain ⟨k, e0, e⟩ := Option.bind_eq_some_iff.1 e
      obtain ⟨nm, e1, e⟩ := Option.bind_eq_some_iff.1 e
      obtain ⟨n, e2, e⟩ := Option.bind_eq_some_iff.1 e
      obtain ⟨fl, e3, e⟩ := Option.bind_eq_some_iff.1 e
      obtain ⟨ns, e4, e⟩ := Option.bind_eq_some_iff.1 e
      obtain ⟨ms, e5, e⟩ := Option.bind_eq_some_iff.1 e
      obtain ⟨ks, e6, e⟩ := Option.bind_eq_some_iff.1 e
      split at e
      · rename_i hlen
        injection e with e
        subst e
        have q0 := intA_ok r0 e0
        have q1 := strA_ok r1 e1
        have q2 := intA_ok r2 e2
        have q3 := booA_ok r3 e3
        have q4 := rowA_ok (g := Value.string) (fun r e => strA_ok r e) h r4 e4 (by omega)
        have q5 := rowA_ok (g := Value.bool) (fun r e => booA_ok r e) h r5 e5 (by omega)
        subst q0 q1 q2 q3
        refine ⟨⟨_, _, _⟩, rfl, q4, q5, (?_ : SlT (fun _ => True) w _ ks)⟩
        split at e6
        · rename_i hs
          obtain ⟨a, c, rfl⟩ := sli_nil r6 hs
          exact .inl ⟨a, c, rfl, by simpa using e6.symm⟩
        · rename_i b o m hs
          obtain ⟨lo, c, h1, rfl⟩ := sli_at r6 hs
          obtain ⟨h2, h3⟩ := rowN_ok _ _ _ e6
          cases ks with
          | nil => exact .inl ⟨_, _, by rw [← h2]; rfl, rfl⟩
          | cons k0 kr =>
            have hc : ∀ j (hj : j < (k0 :: kr).length), ∃ ys v, RVs μ v ys ∧ ys.length = 7 ∧ (∀ q, q < 7 → w.cell? ⟨lo.blk, lo.base + (o + j * 7) + q, none⟩ = ys[q]?) ∧ tyA H f v = some (k0 :: kr)[j] := fun j hj => by
              have := h3 j hj
              rw [Nat.zero_add] at this
              obtain ⟨v1, e1, e2⟩ := Option.bind_eq_some_iff.1 this
              obtain ⟨ys, h4, h5, h6⟩ := celsA_ok h h1 e1
              exact ⟨ys, v1, h4, h5, h6, e2⟩
            have hlt : lo.blk < w.heap.size := by
              obtain ⟨ys, _, _, h5, h6, _⟩ := hc 0 (by simp)
              have := h6 0 (by omega)
              rw [List.getElem?_eq_getElem (by omega)] at this
              exact World.block_lt_of_cell? _ _ this
            have hle : (k0 :: kr).length ≤ 1000 := hlen.2.2
            refine .inr ⟨lo.blk, lo.base + o, c, by rw [h2], by show ((k0 :: kr).length : Int) ≤ _; omega, hlt, trivial, liesT_of fun i hi => ?_⟩
            obtain ⟨ys, v, h4, _, h6, h7⟩ := hc i hi
            obtain ⟨v3, rfl, hp⟩ := tyA_ok h f v ys _ h4 h7
            have kk : ∀ q, q < 7 → w.cell? ⟨lo.blk, lo.base + o + i * 7 + q, none⟩ = (cel (k0 :: kr)[i] v3)[q]? := fun q hq => by
              have := h6 q hq
              rwa [show lo.base + (o + i * 7) + q = lo.base + o + i * 7 + q by omega] at this
            exact lies_iff.2 ⟨by simpa [cel] using kk 0 (by omega), by simpa [cel] using kk 1 (by omega), by simpa [cel] using kk 2 (by omega), by simpa [cel] using kk 3 (by omega), _, _, _, by simpa [cel] using kk 4 (by omega), by simpa [cel] using kk 5 (by omega), by simpa [cel] using kk 6 (by omega), hp⟩
        · cases e6
      · cases e
    · cases e
end Ev
end Go.Proofs.Ytdofhlmffponoaa

/-
  A map of declared types in the evaluator's blocks is the table of the walks.
-/
namespace Go.Proofs.Ytdofhlmffponoaa
namespace Ev
open Go.RowKit
/-- a method, out of its nine cells -/
noncomputable def mthA (H : T AO) (f : Nat) (l : List AV) : Option Mth := match l with
  | [a0, a1, a2, a3, a4, a5, a6, a7, a8] => (strA a0).bind fun nm => (booA a1).bind fun p => (tyA H f [a2, a3, a4, a5, a6, a7, a8]).bind fun t => some ⟨nm, p, t⟩
  | _ => none
/-- a declared type, out of its nine cells -/
noncomputable def nmdA (H : T AO) (f : Nat) (l : List AV) : Option Nmd := match l with
  | [a0, a1, a2, a3, a4, a5, a6, a7, a8] => (strA a0).bind fun nm => (tyA H f [a1, a2, a3, a4, a5, a6, a7]).bind fun t =>
    (match sli a8 with
      | some .nil => some []
      | some (.at b o m) => rowN (fun j => (celsA H b (o + j * 9) 9).bind (mthA H f)) m 0
      | none => none).bind fun ms => if ms.length ≤ 1000 then some ⟨nm, t, ms⟩ else none
  | _ => none
theorem mthA_ok {w0 : Fx} {μ : Mu} {H : T AO} {nx : Bn} {w : World} (h : HR w0 μ H nx w) {f : Nat} {vs : List AV} {xs : List Value} {t : Mth} (r : RVs μ vs xs) (e : mthA H f vs = some t) : ∃ v : V3, xs = celM t v ∧ Prt (fun _ => True) w t.sig v.n v.m v.k := by
  unfold mthA at e
  split at e
  · rename_i a0 a1 a2 a3 a4 a5 a6 a7 a8
    cases r with | cons r0 r => cases r with | cons r1 r =>
    obtain ⟨nm, e0, e⟩ := Option.bind_eq_some_iff.1 e
    obtain ⟨p, e1, e⟩ := Option.bind_eq_some_iff.1 e
    obtain ⟨t', e2, e⟩ := Option.bind_eq_some_iff.1 e
    injection e with e
    subst e
    have q0 := strA_ok r0 e0
    have q1 := booA_ok r1 e1
    subst q0 q1
    obtain ⟨v, rfl, hp⟩ := tyA_ok h f _ _ _ r e2
    exact ⟨v, rfl, hp⟩
  · cases e
theorem nmdA_ok {w0 : Fx} {μ : Mu} {H : T AO} {nx : Bn} {w : World} (h : HR w0 μ H nx w) {f : Nat} {vs : List AV} {xs : List Value} {t : Nmd} (r : RVs μ vs xs) (e : nmdA H f vs = some t) : ∃ vn vm vk vs', (Value.agg ⟨xs⟩) = agN t vn vm vk vs' ∧ NmP (fun _ => True) w t vn vm vk vs' := by
  unfold nmdA at e
  split at e
  · rename_i a0 a1 a2 a3 a4 a5 a6 a7 a8
    cases r with | cons r0 r => cases r with | cons r1 r => cases r with | cons r2 r => cases r with | cons r3 r => cases r with | cons r4 r => cases r with | cons r5 r => cases r with | cons r6 r => cases r with | cons r7 r => cases r with | cons r8 r => cases r with | nil =>
    obtain ⟨nm, e0, e⟩ := Option.bind_eq_some_iff.1 e
    obtain ⟨t', e1, e⟩ := Option.bind_eq_some_iff.1 e
    obtain ⟨ms, e2, e⟩ := Option.bind_eq_some_iff.1 e
    split at e
    · rename_i hlen
      injection e with e
      subst e
      have q0 := strA_ok r0 e0
      subst q0
      obtain ⟨v, hxs, hp⟩ := tyA_ok h f _ _ _ (.cons r1 (.cons r2 (.cons r3 (.cons r4 (.cons r5 (.cons r6 (.cons r7 .nil))))))) e1
      simp only [cel, List.cons.injEq, and_true] at hxs
      obtain ⟨rfl, rfl, rfl, rfl, rfl, rfl, rfl⟩ := hxs
      refine ⟨_, _, _, _, rfl, hp, (?_ : SlM (fun _ => True) w _ ms)⟩
      split at e2
      · rename_i hs
        obtain ⟨a, c, rfl⟩ := sli_nil r8 hs
        exact .inl ⟨a, c, rfl, by simpa using e2.symm⟩
      · rename_i b o m hs
        obtain ⟨lo, c, h1, rfl⟩ := sli_at r8 hs
        obtain ⟨h2, h3⟩ := rowN_ok _ _ _ e2
        cases ms with
        | nil => exact .inl ⟨_, _, by rw [← h2]; rfl, rfl⟩
        | cons k0 kr =>
          have hc : ∀ j (hj : j < (k0 :: kr).length), ∃ ys v, RVs μ v ys ∧ ys.length = 9 ∧ (∀ q, q < 9 → w.cell? ⟨lo.blk, lo.base + (o + j * 9) + q, none⟩ = ys[q]?) ∧ mthA H f v = some (k0 :: kr)[j] := fun j hj => by
            have := h3 j hj
            rw [Nat.zero_add] at this
            obtain ⟨v1, e1, e2⟩ := Option.bind_eq_some_iff.1 this
            obtain ⟨ys, h4, h5, h6⟩ := celsA_ok h h1 e1
            exact ⟨ys, v1, h4, h5, h6, e2⟩
          have hlt : lo.blk < w.heap.size := by
            obtain ⟨ys, _, _, h5, h6, _⟩ := hc 0 (by simp)
            have := h6 0 (by omega)
            rw [List.getElem?_eq_getElem (by omega)] at this
            exact World.block_lt_of_cell? _ _ this
          refine .inr ⟨lo.blk, lo.base + o, c, by rw [h2], by omega, hlt, trivial, fun i hi => ?_⟩
          obtain ⟨ys, v, h4, _, h6, h7⟩ := hc i hi
          obtain ⟨v3, rfl, hp⟩ := mthA_ok h h4 h7
          have kk : ∀ q, q < 9 → w.cell? ⟨lo.blk, lo.base + o + i * 9 + q, none⟩ = (celM (k0 :: kr)[i] v3)[q]? := fun q hq => by
            have := h6 q hq
            rwa [show lo.base + (o + i * 9) + q = lo.base + o + i * 9 + q by omega] at this
          exact ⟨by simpa [celM, cel] using kk 0 (by omega), by simpa [celM, cel] using kk 1 (by omega), lies_iff.2 ⟨by simpa [celM, cel] using kk 2 (by omega), by simpa [celM, cel] using kk 3 (by omega), by simpa [celM, cel] using kk 4 (by omega), by simpa [celM, cel] using kk 5 (by omega), _, _, _, by simpa [celM, cel] using kk 6 (by omega), by simpa [celM, cel] using kk 7 (by omega), by simpa [celM, cel] using kk 8 (by omega), hp⟩⟩
      · cases e2
    · cases e
  · cases e
theorem agg_inv {μ : Mu} {l : List AV} {x : Value} (h : RV μ (.agg l) x) : ∃ xs, x = .agg ⟨xs⟩ ∧ RVs μ l xs := by
  cases h with
  | agg r => exact ⟨_, rfl, r⟩
/-- an entry of the table -/
noncomputable def entA (H : T AO) (f : Nat) (m : Me) : Option Nmd := (strA m.k).bind fun s => (match m.v with | .agg l => nmdA H f l | _ => none).bind fun t => if t.name = s ∧ s.size ≤ maxLen then some t else none
noncomputable def entsA (H : T AO) (f : Nat) : List Me → Option (List Nmd)
  | [] => some []
  | m :: r => (entA H f m).bind fun t => (entsA H f r).bind fun l => some (t :: l)
theorem entsA_ok {w0 : Fx} {μ : Mu} {H : T AO} {nx : Bn} {w : World} (h : HR w0 μ H nx w) {f : Nat} : ∀ {es : List Me} {E : List MapEntry} {l : List Nmd}, RE μ es E → entsA H f es = some l → ∃ P : List (ByteArray × Value), E.map (fun x => (x.key, x.val)) = P.map (fun p => (Value.string p.1, p.2)) ∧ P.map (·.1) = l.map Nmd.name ∧ (∀ p ∈ P, p.1.size ≤ maxLen) ∧ E.map (·.born) = es.map (·.born) ∧ ∀ t ∈ l, ∃ vn vm vk vs, (t.name, agN t vn vm vk vs) ∈ P ∧ NmP (fun _ => True) w t vn vm vk vs
  | [], _, l, .nil, e => by
    have : l = [] := by simpa [entsA] using e.symm
    subst this
    exact ⟨[], rfl, rfl, fun p hp => (by cases hp), rfl, fun t ht => by cases ht⟩
  | m :: r, _, l, .cons hk hv hb hr, e => by
    simp only [entsA] at e
    obtain ⟨t, e1, e⟩ := Option.bind_eq_some_iff.1 e
    obtain ⟨l', e2, e⟩ := Option.bind_eq_some_iff.1 e
    injection e with e
    subst e
    obtain ⟨P, p1, p2, p3, p4, p5⟩ := entsA_ok h hr e2
    unfold entA at e1
    obtain ⟨s, e3, e1⟩ := Option.bind_eq_some_iff.1 e1
    obtain ⟨t', e4, e1⟩ := Option.bind_eq_some_iff.1 e1
    split at e1
    · rename_i hc
      injection e1 with e1
      subst e1
      have q0 := strA_ok hk e3
      split at e4
      · rename_i lv hlv
        rw [hlv] at hv
        obtain ⟨xs, hxv, hv⟩ := agg_inv hv
        obtain ⟨vn, vm, vk, vs, hx, hp⟩ := nmdA_ok h hv e4
        refine ⟨(s, agN t' vn vm vk vs) :: P, ?_, ?_, ?_, ?_, ?_⟩
        · simp only [List.map_cons, p1, q0, hxv, hx]
        · simp only [List.map_cons, p2, hc.1]
        · intro p hp'
          rcases List.mem_cons.1 hp' with rfl | hp'
          · exact hc.2
          · exact p3 p hp'
        · simp only [List.map_cons, p4, hb]
        · intro u hu
          rcases List.mem_cons.1 hu with rfl | hu
          · exact ⟨vn, vm, vk, vs, by rw [hc.1]; simp, hp⟩
          · obtain ⟨a, b, c, d, h1, h2⟩ := p5 u hu
            exact ⟨a, b, c, d, List.mem_cons_of_mem _ h1, h2⟩
      · cases e4
    · cases e1
end Ev
end Go.Proofs.Ytdofhlmffponoaa

/-
  circular and closed of a known table are known calls.
-/
namespace Go.Proofs.Ytdofhlmffponoaa
open Go.RowKit
theorem fdP_mem {P : List (ByteArray × Value)} (hn : (P.map (·.1)).Nodup) {s : ByteArray} {v : Value} (h : (s, v) ∈ P) : fdP P s = some v := by
  unfold fdP
  induction P with
  | nil => cases h
  | cons p r ih =>
    rw [List.map_cons, List.nodup_cons] at hn
    rw [List.find?_cons]
    by_cases e : p.1 = s
    · rcases List.mem_cons.1 h with h | h
      · subst h; simp
      · exact absurd (e ▸ List.mem_map_of_mem (f := Prod.fst) h) hn.1
    · rcases List.mem_cons.1 h with h | h
      · subst h; exact absurd rfl e
      · simp only [e, decide_false]
        exact ih hn.2 h
namespace Ev
/-- the table of the walks, out of a map in the evaluator's blocks -/
theorem tab_of {w0 : Fx} {μ : Mu} {H : T AO} {nx : Bn} {w : World} (h : HR w0 μ H nx w) {b : Bn} {lo : Loc} {es : List Me} {clock f : Nat} {l : List Nmd} (hb : μ b = some lo) (hg : H.get b = some (.map es clock)) (he : entsA H f es = some l) (hd : (l.map Nmd.name).Nodup) (hbn : (es.map (·.born)).Nodup) (hbl : ∀ x ∈ es, x.born < clock) (hl : l.length ≤ 1000) : TbS (fun _ => True) w lo.blk l.length l := by
  obtain ⟨l', h1, h2⟩ := h.live b _ hg
  rw [hb] at h1
  injection h1 with h1
  subst h1
  obtain ⟨E, h3, h4⟩ := h2
  obtain ⟨P, p1, p2, p3, p4, p5⟩ := entsA_ok h h4 he
  have hpl : P.length = l.length := by have := congrArg List.length p2; simpa using this
  have hpn : (P.map (·.1)).Nodup := by rw [p2]; exact hd
  have hst : MapKept.Stamped E.toArray clock := by
    refine ⟨fun x hx => ?_, ?_, ?_⟩
    · have hx' : x ∈ E := by simpa using hx
      have : x.born ∈ E.map (·.born) := List.mem_map_of_mem hx'
      rw [p4] at this
      obtain ⟨y, hy, e⟩ := List.mem_map.1 this
      rw [← e]; exact hbl y hy
    · have : (E.toArray.toList.map (·.born)) = es.map (·.born) := by simpa using p4
      rw [this]; exact hbn
    · have h5 : (E.toArray.toList.map (·.key)) = (P.map (·.1)).map Value.string := by
        have := congrArg (List.map Prod.fst) p1
        simpa [Function.comp_def] using this
      rw [h5]
      exact List.Pairwise.map Value.string (fun a b h e => h (by injection e)) hpn
  have hm := MpS.raw h3 p1 hst p3 (by rw [hpl]; unfold maxLen; omega)
  rw [p2, hpl] at hm
  refine ⟨fdP P, hm, fun t ht => ?_⟩
  obtain ⟨vn, vm, vk, vs, q1, q2⟩ := p5 t ht
  exact ⟨vn, vm, vk, vs, fdP_mem hpn q1, q2⟩
theorem map_inv {μ : Mu} {b : Bn} {xs : List Value} (h : RVs μ [.map b] xs) : ∃ lo, μ b = some lo ∧ xs = [.map (some lo.blk)] := by
  cases h with
  | cons r0 r =>
    cases r
    cases r0 with
    | map e => exact ⟨_, e, rfl⟩
/-- circular of a known table -/
theorem met_circ {m : Met} {b : Bn} {es : List Me} {clock f : Nat} {l : List Nmd} (hf : m.f = 15) (ha : m.args = [.map b]) (hv : m.v = .bool false) (hp : m.news = m.pre) (hz : m.nz = m.nx) (hg : (putL m.pre .leaf).get b = some (.map es clock)) (he : entsA (putL m.pre .leaf) f es = some l) (hd : (l.map Nmd.name).Nodup) (hbn : (es.map (·.born)).Nodup) (hbl : ∀ x ∈ es, x.born < clock) (hl : l.length ≤ 1000)
    (hs : ∀ t ∈ l, NmS t) (hc : ∀ t ∈ l, t.under.cnt ≤ 1000) (hnc : ¬ ∃ a ∈ l.map Nmd.name, Rch (Hf l) a a) : MetOk Try.prog m := by
  refine met_still hp hz fun w0 μ w xs hR hx => ⟨.bool false, by rw [hv]; exact .bool, ?_⟩
  rw [ha] at hx
  obtain ⟨lo, hb, rfl⟩ := map_inv hx
  rw [hf]
  refine (circular_any (tab_of hR hb hg he hd hbn hbl hl) hs hl hc).mono ?_
  rintro e w' ⟨⟨q, rfl, hq⟩, hbl⟩
  refine ⟨?_, hbl⟩
  cases q with
  | true => exact absurd (hq.1 rfl) hnc
  | false => rfl
/-- closed of a known table -/
theorem met_clo {m : Met} {b : Bn} {es : List Me} {clock f : Nat} {l : List Nmd} (hf : m.f = 16) (ha : m.args = [.map b]) (hv : m.v = .bool (l.all (Nmd.clo (l.map Nmd.name)))) (hp : m.news = m.pre) (hz : m.nz = m.nx) (hg : (putL m.pre .leaf).get b = some (.map es clock)) (he : entsA (putL m.pre .leaf) f es = some l) (hd : (l.map Nmd.name).Nodup) (hbn : (es.map (·.born)).Nodup) (hbl : ∀ x ∈ es, x.born < clock) (hl : l.length ≤ 1000)
    (hs : ∀ t ∈ l, NmS t) : MetOk Try.prog m := by
  refine met_still hp hz fun w0 μ w xs hR hx => ⟨.bool (l.all (Nmd.clo (l.map Nmd.name))), by rw [hv]; exact .bool, ?_⟩
  rw [ha] at hx
  obtain ⟨lo, hb, rfl⟩ := map_inv hx
  rw [hf]
  exact closed_any (tab_of hR hb hg he hd hbn hbl hl) hs
end Ev
end Go.Proofs.Ytdofhlmffponoaa

/-
  Declared types that hold only what stands behind them reach themselves nowhere; what a walk asks of a table, told by a check.
-/
namespace Go.Proofs.Ytdofhlmffponoaa
open Go.RowKit
/-- each holds only what stands behind it -/
def acyN (al : List Nmd) : List Nmd → Nat → Bool
  | [], _ => true
  | t :: r, i => (t.under.hol (al.map Nmd.name)).all (fun y => decide ((i : Int) < fnd al y)) && acyN al r (i + 1)
theorem acyN_at {al : List Nmd} : ∀ (l : List Nmd) (i : Nat), acyN al l i = true → ∀ j (hj : j < l.length), ∀ y ∈ (l[j]).under.hol (al.map Nmd.name), ((i + j : Nat) : Int) < fnd al y
  | [], _, _, j, hj => by cases hj
  | t :: r, i, h, j, hj => by
    simp only [acyN, Bool.and_eq_true, List.all_eq_true, decide_eq_true_eq] at h
    cases j with
    | zero => intro y hy; exact h.1 y hy
    | succ j =>
      intro y hy
      have := acyN_at r (i + 1) h.2 j (by simpa using hj) y hy
      rw [show i + (j + 1) = i + 1 + j by omega]
      exact this
theorem fnd_lt {l : List Nmd} (hd : (l.map Nmd.name).Nodup) {i : Nat} (hi : i < l.length) : fnd l (l[i]).name = (i : Int) := by
  have h0 := (fnd_mem (l[i]).name l).1 (List.mem_map_of_mem (f := Nmd.name) (List.getElem_mem hi))
  induction l generalizing i with
  | nil => cases hi
  | cons t r ih =>
    rw [List.map_cons, List.nodup_cons] at hd
    have e1 : fnd (t :: r) ((t :: r)[i]).name = if t.name = ((t :: r)[i]).name then 0 else (if fnd r ((t :: r)[i]).name < 0 then -1 else fnd r ((t :: r)[i]).name + 1) := rfl
    rw [e1]
    cases i with
    | zero => simp
    | succ i =>
      have hi' : i < r.length := by simpa using hi
      have hm : ((t :: r)[i + 1]).name ∈ r.map Nmd.name := by simpa using List.mem_map_of_mem (f := Nmd.name) (List.getElem_mem hi')
      rw [if_neg (fun (e : t.name = ((t :: r)[i + 1]).name) => hd.1 (by rw [e]; exact hm))]
      have h2 : fnd r (r[i]).name = (i : Int) := ih hd.2 hi' ((fnd_mem _ _).1 (by simpa using hm))
      simp only [List.getElem_cons_succ]
      rw [h2]
      split
      · omega
      · omega
theorem acy {l : List Nmd} (hd : (l.map Nmd.name).Nodup) (h : acyN l l 0 = true) : ¬ ∃ a ∈ l.map Nmd.name, Rch (Hf l) a a := by
  rintro ⟨a, ha, hr⟩
  have one : ∀ a b, b ∈ Hf l a → fnd l a < fnd l b := by
    intro a b hb
    unfold Hf at hb
    split at hb
    · rename_i t ht
      have hm := List.mem_of_find?_eq_some ht
      have hn : t.name = a := by simpa using List.find?_some ht
      obtain ⟨j, hj, rfl⟩ := List.getElem_of_mem hm
      have h1 := acyN_at l 0 h j hj b hb
      rw [← hn, fnd_lt hd hj]
      rw [Nat.zero_add] at h1
      exact h1
    · cases hb
  have key : ∀ a b, Rch (Hf l) a b → fnd l a < fnd l b := by
    intro a b hr
    induction hr with
    | one h => exact one _ _ h
    | step h _ ih => have := one _ _ h; omega
  have := key a a hr
  omega
/-- what the walks ask of a declared type -/
def chkN (t : Nmd) : Bool := decide (t.name.size ≤ 1000) && t.under.nsz && decide (t.under.cnt ≤ 1000) && t.mths.all (fun m => m.sig.nsz && decide (m.sig.cnt ≤ 1000))
theorem chkN_ok {t : Nmd} (h : chkN t = true) : NmS t ∧ t.under.cnt ≤ 1000 := by
  simp only [chkN, Bool.and_eq_true, decide_eq_true_eq, List.all_eq_true] at h
  obtain ⟨⟨⟨h1, h2⟩, h3⟩, h4⟩ := h
  exact ⟨⟨by unfold maxLen; omega, h2, by omega, fun m hm => ⟨(h4 m hm).1, by have := (h4 m hm).2; omega⟩⟩, h3⟩
/-- all that is asked of a table -/
def chkT (l : List Nmd) : Bool := decide (l.map Nmd.name).Nodup && (decide (l.length ≤ 1000) && (l.all chkN && (acyN l l 0 && l.all (Nmd.clo (l.map Nmd.name)))))
namespace Ev
theorem mets_ok {mC mD : Met} {b : Bn} {es : List Me} {clock f : Nat} {l : List Nmd} (hpre : (putL mC.pre .leaf).get b = some (.map es clock)) (he : entsA (putL mC.pre .leaf) f es = some l) (hk : chkT l = true) (hbn : (es.map (·.born)).Nodup) (hbl : ∀ x ∈ es, x.born < clock)
    (c1 : mC.f = 15) (c2 : mC.args = [.map b]) (c3 : mC.v = .bool false) (c4 : mC.news = mC.pre) (c5 : mC.nz = mC.nx)
    (d1 : mD.f = 16) (d2 : mD.args = [.map b]) (d3 : mD.v = .bool true) (d4 : mD.news = mD.pre) (d5 : mD.nz = mD.nx) (d6 : mD.pre = mC.pre) : ∀ m, m ∈ [mC, mD] → MetOk Try.prog m := by
  simp only [chkT, Bool.and_eq_true, decide_eq_true_eq] at hk
  obtain ⟨k1, k2, k3, k4, k5⟩ := hk
  have hs : ∀ t ∈ l, chkN t = true := by simpa using k3
  intro m hm
  rcases List.mem_cons.1 hm with rfl | hm
  · exact met_circ c1 c2 c3 c4 c5 hpre he k1 hbn hbl k2 (fun t ht => (chkN_ok (hs t ht)).1) (fun t ht => (chkN_ok (hs t ht)).2) (acy k1 k4)
  · have e : m = mD := by simpa using hm
    subst e
    exact met_clo d1 d2 (by rw [d3, k5]) d4 d5 (by rw [d6]; exact hpre) (by rw [d6]; exact he) k1 hbn hbl k2 (fun t ht => (chkN_ok (hs t ht)).1)
end Ev
end Go.Proofs.Ytdofhlmffponoaa

