/-
  Read, walked.
-/
import Derived.Test.YtleiohccaagalaaGreatRed2
import Derived.Lib.IndexMore
namespace Go.Proofs.YtleiohccaagalaaGreat
open Go.RowKit
attribute [local go_sem ↓] Go.wp_at_zero Go.wp_at_succ
theorem index_form (s : Bs) : Lib.index s [10] = -1 ∨ 0 ≤ Lib.index s [10] := by
  induction s with
  | nil => left; rfl
  | cons b l ih =>
    simp only [Lib.index]
    split
    · right; omega
    · split
      · left; rfl
      · rename_i h
        rcases ih with ih | ih
        · simp [ih] at h
        · right; omega
theorem cut_eol (s : Bs) : (Lib.cut s [10]).1 = eol s := by
  induction s with
  | nil => rfl
  | cons b l ih =>
    unfold Lib.cut at ih ⊢
    by_cases hb : b = 10
    · subst hb; simp [Lib.index, eol]
    · have hp : ([10] : List UInt8).isPrefixOf (b :: l) = false := by simp [List.isPrefixOf]; exact fun h => hb h.symm
      have he : eol (b :: l) = b :: eol l := by simp [eol, hb]
      rw [he]
      rcases index_form l with h | h
      · rw [h] at ih
        simp only [Lib.index, hp, h] at ih ⊢
        simpa using ih
      · have hne : ¬ Lib.index l [10] = -1 := by omega
        rw [if_pos h] at ih
        simp only [Lib.index, hp, beq_iff_eq, hne, if_false, Bool.false_eq_true]
        rw [if_pos (by omega)]
        simp only at ih ⊢
        rw [show (Lib.index l [10] + 1).toNat = (Lib.index l [10]).toNat + 1 by omega, List.take_succ_cons, ih]
/-- internal/bytealg's MaxLen is an int -/
def Mx (w : World) : Prop := ∃ m, w.cell? ⟨0, 0, none⟩ = some (.int .i64 m)
theorem Mx.lt {w : World} (h : Mx w) : 0 < w.heap.size := by
  obtain ⟨m, h⟩ := h
  rcases Nat.lt_or_ge 0 w.heap.size with h1 | h1
  · exact h1
  · simp [World.cell?, show ¬ 0 < w.heap.size by omega] at h
theorem Mx.below {w w' : World} {n : Nat} (h : Mx w) (hn : 0 < n) (hb : Below n w w') : Mx w' := by
  obtain ⟨m, h⟩ := h
  exact ⟨m, by rw [← h]; exact hb.cell (by exact hn)⟩
/-- a rule at a block -/
def RuleAt (w : World) (b : Nat) (p : Pt) : Prop := ∃ v, w.heap[b]? = some (.cells #[v] 44 (0, 0)) ∧ (v = enc p ∨ v = .nilIface ∧ p = .yes)
theorem RuleAt.lt {w : World} {b : Nat} {p : Pt} (h : RuleAt w b p) : b < w.heap.size := by
  obtain ⟨v, h, _⟩ := h
  exact (Array.getElem?_eq_some_iff.1 h).1
theorem RuleAt.whole {w w' : World} {b : Nat} {p : Pt} (h : RuleAt w b p) (k : Below w.heap.size w w') : RuleAt w' b p := by
  have hl := h.lt
  obtain ⟨v, h, hv⟩ := h
  exact ⟨v, (k.block b hl).trans h, hv⟩
theorem RedQ.not {w w' : World} {e : Ending} (h : RedQ w none e w') : ∃ v, e = .returned (.tuple #[v, .bool false]) ∧ IfV v ∧ Below w.heap.size w w' := by
  obtain ⟨v, ok, he, hi, hy, hn⟩ := h.any
  cases ok with
  | false => exact ⟨v, he, hi, h.bl⟩
  | true => obtain ⟨_, h2, _⟩ := hy rfl; cases h2
theorem RedQ.yes {w w' : World} {e : Ending} {p : Pt} (h : RedQ w (some p) e w') : e = .returned (.tuple #[enc p, .bool true]) ∧ Below w.heap.size w w' := by
  obtain ⟨v, ok, he, hi, hy, hn⟩ := h.any
  cases ok with
  | false => cases hn rfl
  | true =>
    obtain ⟨_, h2, h3⟩ := hy rfl
    cases h2
    rw [h3] at he
    exact ⟨he, h.bl⟩
/-- what Read answers -/
structure RulQ (w : World) (res : Option Pt) (e : Ending) (w' : World) : Prop where
  bl : Below w.heap.size w w'
  no : res = none → e = .returned (.tuple #[.pointer none, .int .i64 3])
  yes : ∀ p, res = some p → ∃ b, e = .returned (.tuple #[.pointer (some ⟨b, 0, none⟩), .int .i64 0]) ∧ w.heap.size ≤ b ∧ RuleAt w' b p
set_option maxRecDepth 100000 in
set_option maxHeartbeats 4000000 in
theorem Read_any (S : ByteArray) (w : World) (hS : S.size ≤ 1000000) (hM : Mx w) : Calls Tryz.prog 6 #[.string S] w (RulQ w (readR S.data.toList)) := by
  have h1 := Tryz.strings_CutPrefix S ⟨#[47, 47, 98, 117, 105, 108, 100, 32]⟩ w
  change Calls Tryz.prog 13 _ w _ at h1
  unfold Lib.trimPrefix Lib.hasPrefix at h1
  rw [show (⟨#[47, 47, 98, 117, 105, 108, 100, 32]⟩ : ByteArray).data.toList = head8 from rfl] at h1
  unfold readR
  cases hp : head8.isPrefixOf S.data.toList with
  | false =>
    rw [hp] at h1
    simp only [Bool.false_eq_true, if_false] at h1 ⊢
    clear hp
    go_enter Tryz.func6, Tryz.ntmps6
    go_wp2_with (go_at_call 13; refine h1.mono ?_; rintro e w1 ⟨rfl, hw1⟩; obtain rfl := hw1.symm; clear h1)
    go_ret2
    exact ⟨(Below.refl _ _).alloc (Nat.le_refl _) _, (fun h => by cases h), fun p h => by cases h; exact ⟨_, rfl, Nat.le_refl _, _, Go.heap_alloc_new _ _, .inr ⟨rfl, rfl⟩⟩⟩
  | true =>
    rw [hp] at h1
    simp only [if_true] at h1 ⊢
    rw [show head8.length = 8 from rfl] at h1
    clear hp
    obtain ⟨m, hm⟩ := hM
    have hX : (⟨(S.data.toList.drop 8).toArray⟩ : ByteArray) = bs (S.data.toList.drop 8) := rfl
    rw [hX] at h1
    have hz : (bs (S.data.toList.drop 8)).size ≤ 1000000 := by rw [bs_size, List.length_drop, bal]; omega
    have h2 := Tryz.strings_Cut (bs (S.data.toList.drop 8)) ⟨#[10]⟩ m w (by omega) hm
    change Calls Tryz.prog 14 _ w _ at h2
    rw [show (⟨#[10]⟩ : ByteArray).data.toList = [10] from rfl, bs_list, cut_eol] at h2
    have hL : (⟨(eol (S.data.toList.drop 8)).toArray⟩ : ByteArray) = bs (eol (S.data.toList.drop 8)) := rfl
    rw [hL] at h2
    have hz2 : (bs (eol (S.data.toList.drop 8))).size ≤ 1000000 := by
      rw [bs_size] at hz ⊢
      have : (eol (S.data.toList.drop 8)).length ≤ (S.data.toList.drop 8).length := List.Sublist.length_le (List.takeWhile_sublist _)
      omega
    have h3 := fun W => read_any (bs (eol (S.data.toList.drop 8))) W hz2
    rw [bs_list] at h3
    generalize lineR (eol (S.data.toList.drop 8)) = RES at *
    generalize bs (eol (S.data.toList.drop 8)) = L at *
    generalize bs (S.data.toList.drop 8) = X at *
    generalize (Lib.cut (S.data.toList.drop 8) [10]).2.1 = Y at *
    generalize (Lib.cut (S.data.toList.drop 8) [10]).2.2 = Z at *
    clear hX hL hz hz2 hS hm
    cases RES with
    | none =>
      go_enter Tryz.func6, Tryz.ntmps6
      go_wp2_with (first
        | (go_at_call 13; refine h1.mono ?_; rintro e w1 ⟨rfl, hw1⟩; obtain rfl := hw1.symm; clear h1)
        | (go_at_call 14; refine h2.mono ?_; rintro e w2 ⟨rfl, q, hw2⟩; have HB2 : Hid (Below w.heap.size w w2) := by (show Below _ _ _); (rw [hw2]; exact below_draws _ _ _)
           have hz2 := HB2.out.size; clear h2 hw2)
        | (go_at_call 15; refine (h3 _).mono ?_; intro e w3 hq; obtain ⟨v, rfl, hv, hb3⟩ := hq.not; have HB3 : Hid (Below w.heap.size w w3) := HB2.out.trans (hb3.mono hz2); clear hq hb3))
      go_ret2
      exact ⟨HB3.out, fun _ => rfl, fun p h => by cases h⟩
    | some p =>
      obtain ⟨tp, xp, hp⟩ := enc_if p
      have HE : Hid (enc p = .iface tp xp) := hp
      clear hp
      go_enter Tryz.func6, Tryz.ntmps6
      go_wp2_with (first
        | (go_at_call 13; refine h1.mono ?_; rintro e w1 ⟨rfl, hw1⟩; obtain rfl := hw1.symm; clear h1)
        | (go_at_call 14; refine h2.mono ?_; rintro e w2 ⟨rfl, q, hw2⟩; have HB2 : Hid (Below w.heap.size w w2) := by (show Below _ _ _); (rw [hw2]; exact below_draws _ _ _)
           have hz2 := HB2.out.size; clear h2 hw2)
        | (go_at_call 15; refine (h3 _).mono ?_; intro e w3 hq; obtain ⟨he, hb3⟩ := hq.yes; rw [HE.out] at he; subst he; have HB3 : Hid (Below w.heap.size w w3) := HB2.out.trans (hb3.mono hz2); have hz3 := HB3.out.size; clear hq hb3))
      go_ret2
      exact ⟨HB3.out.alloc hz3 _, (fun h => by cases h), fun p' h => by cases h; exact ⟨_, rfl, hz3, _, Go.heap_alloc_new _ _, .inl HE.out.symm⟩⟩
end Go.Proofs.YtleiohccaagalaaGreat
