/-
  Whole constants and the ints that they are.
-/
import Derived.Test.YtfkkhabpnnealaaDoorKpG
import Derived.Test.YtfkkhabpnnealaaDoorMath
namespace Go.Proofs.YtfkkhabpnnealaaDoor
open Go.RowKit
attribute [local go_sem ↓] Go.wp_at_zero Go.wp_at_succ
/-- a constant that is the int z -/
structure Cz (w : World) (v : Value) (z : Int) : Prop where
  ex : ∃ (s : Bool) (ao : Option Addr) (n cap : Nat) (l : List Nat), v = cnV 1 s ao n cap ⟨#[]⟩ false ∧ Sl w ao n cap l ∧ zi s (vl 4294967296 l) = z ∧ n ≤ 40
theorem zi_of (z : Int) : zi (sgB (decide (z < 0)) z.natAbs) z.natAbs = z := by
  rw [zi_sg]
  unfold zi
  by_cases h : z < 0
  · simp [h]; omega
  · simp [h]; omega
theorem zi_abs (s : Bool) (N : Nat) : (zi s N).natAbs = N := by unfold zi; cases s <;> simp
theorem CnR.cz {w : World} {base : Nat} {v : Value} {s : Bool} {N : Nat} {z : Int} (h : CnR w base v 1 s N ⟨#[]⟩ false) (hN : N < 4294967296 ^ 40) (hz : zi s N = z) : Cz w v z := by
  obtain ⟨ao, n, cap, l, e, h1, h2, h3⟩ := h.open hN
  exact ⟨s, ao, n, cap, l, e, h1, by rw [h2]; exact hz, h3⟩
theorem zint_any (z : Int) (w : World) (h0 : -9223372036854775808 ≤ z) (h1 : z ≤ 9223372036854775807) : Calls Tryd.prog 14 #[.int .i64 z] w fun e w' => (∃ x, e = .returned x ∧ Cz w' x z) ∧ Below w.heap.size w w' :=
  (kint_any z w h0 h1).mono fun e w' ⟨⟨x, he, hx⟩, hb⟩ => ⟨⟨x, he, hx.cz (small_lt (by omega)) (zi_of z)⟩, hb⟩
/-- whole constants of one int are equal -/
theorem zeq_any (s1 s2 : Bool) (ao : Option Addr) (n cap : Nat) (l : List Nat) (ap : Option Addr) (m capb : Nat) (p : List Nat) (w : World) (hl : Sl w ao n cap l) (hp : Sl w ap m capb p) (hn : n ≤ 40) (hm : m ≤ 40) (he : zi s1 (vl 4294967296 l) = zi s2 (vl 4294967296 p)) :
    Calls Tryd.prog 13 #[cnV 1 s1 ao n cap ⟨#[]⟩ false, cnV 1 s2 ap m capb ⟨#[]⟩ false] w fun e w' => e = .returned (.bool true) ∧ Below w.heap.size w w' :=
  (kequal_any 1 1 s1 s2 ao n cap l ap m capb p ⟨#[]⟩ ⟨#[]⟩ false false w hl hp (by omega) (by omega)).mono fun e w' ⟨h, hb⟩ => ⟨by
    rw [h, if_pos rfl]
    have : cmK 1 s1 (vl 4294967296 l) ⟨#[]⟩ false s2 (vl 4294967296 p) ⟨#[]⟩ false = 0 := by
      unfold cmK
      rw [if_pos rfl, cmpV_eq, he]
      simp [cmpI]
    rw [this]; rfl, hb⟩
theorem big_no {N : Nat} (h : N ≤ 1000000) : bigN N = false := by
  have h1 := Nat.pow_le_pow_right (n := 4294967296) (by omega) (show 1 ≤ 16 by omega)
  have h2 : 4294967296 ^ 1 = 4294967296 := by simp
  simp [bigN]; omega
theorem eBig_no {N : Nat} (h : N ≤ 18446744073709551615) : eBig N = 0 := by
  have h1 := Nat.pow_le_pow_right (n := 4294967296) (by omega) (show 2 ≤ 16 by omega)
  have h2 : 4294967296 ^ 2 = 18446744073709551616 := by simp
  have : bigN N = false := by simp [bigN]; omega
  simp [eBig, this]
theorem add_small (s : Bool) (N : Nat) (t : Bool) (M : Nat) (h1 : N ≤ 1000000) (h2 : M ≤ 1000000) : addE s N t M = 0 := by
  unfold addE
  rw [big_no h1, big_no h2]
  simp only [Bool.or_self, Bool.false_eq_true, if_false]
  apply eBig_no
  unfold addR
  split
  · show N + M ≤ _; omega
  · split
    · show M - N ≤ _; omega
    · show N - M ≤ _; omega
theorem mul_small0 (N M : Nat) (h1 : N ≤ 1000000) (h2 : M ≤ 1000000) : mulE N M = 0 := by
  unfold mulE
  rw [big_no h1, big_no h2]
  simp only [Bool.or_self, Bool.false_eq_true, if_false]
  exact eBig_no (Nat.le_trans (Nat.mul_le_mul h1 h2) (by decide))
theorem quo_small (s : Bool) (N : Nat) (t : Bool) (M : Nat) (h1 : N ≤ 1000000) (h2 : M ≤ 1000000) (h0 : M ≠ 0) : quoE N M = 0 ∧ quoQ N M = N / M ∧ quoR N M = N % M ∧ zi (sgB (s != t) (N / M)) (N / M) = (zi s N).tdiv (zi t M) ∧ zi (sgB s (N % M)) (N % M) = (zi s N).tmod (zi t M) := by
  unfold quoE quoQ quoR
  rw [big_no h1, big_no h2]
  simp only [Bool.or_self, Bool.false_eq_true, if_false, h0, zi_sg]
  unfold zi
  refine ⟨trivial, trivial, trivial, ?_, ?_⟩
  · cases s <;> cases t <;> simp [Int.tdiv_neg, Int.neg_tdiv]
  · cases s <;> cases t <;> simp [Int.tmod_neg, Int.neg_tmod] <;> exact (Int.tmod_eq_emod_of_nonneg (by omega)).symm
theorem neg_zi (t : Bool) (M : Nat) : zi (!t) M = - zi t M := by unfold zi; cases t <;> simp
theorem zadd_any (s1 s2 : Bool) (ao : Option Addr) (n cap : Nat) (l : List Nat) (ap : Option Addr) (m capb : Nat) (p : List Nat) (w : World) (hl : Sl w ao n cap l) (hp : Sl w ap m capb p) (hn : n ≤ 40) (hm : m ≤ 40) (g1 : vl 4294967296 l ≤ 1000000) (g2 : vl 4294967296 p ≤ 1000000) :
    Calls Tryd.prog 9 #[.string ⟨#[43]⟩, cnV 1 s1 ao n cap ⟨#[]⟩ false, cnV 1 s2 ap m capb ⟨#[]⟩ false] w fun e w' => (∃ x, e = .returned (.tuple #[x, .int .i64 0]) ∧ Cz w' x (zi s1 (vl 4294967296 l) + zi s2 (vl 4294967296 p))) ∧ Below w.heap.size w w' := by
  refine (kbin_any ⟨#[43]⟩ 1 1 s1 s2 ao n cap l ap m capb p ⟨#[]⟩ ⟨#[]⟩ false false w hl hp (by omega) (by omega) (by decide) (by decide)).mono ?_
  have e0 := add_small s1 (vl 4294967296 l) s2 (vl 4294967296 p) g1 g2
  have hA : bnK ⟨#[43]⟩ 1 s1 (vl 4294967296 l) ⟨#[]⟩ false 1 s2 (vl 4294967296 p) ⟨#[]⟩ false = ⟨1, addS s1 (vl 4294967296 l) s2 (vl 4294967296 p), addV s1 (vl 4294967296 l) s2 (vl 4294967296 p), ⟨#[]⟩, false, 0⟩ := by
    simp [bnK, bkA, tkB, rkA, e0, arA]
  rw [hA]
  rintro e w' ⟨⟨x, rfl, hx⟩, hb⟩
  exact ⟨⟨x, rfl, hx.cz (addV_lt _ _ _ _) (addE_zero e0)⟩, hb⟩
theorem zsub_any (s1 s2 : Bool) (ao : Option Addr) (n cap : Nat) (l : List Nat) (ap : Option Addr) (m capb : Nat) (p : List Nat) (w : World) (hl : Sl w ao n cap l) (hp : Sl w ap m capb p) (hn : n ≤ 40) (hm : m ≤ 40) (g1 : vl 4294967296 l ≤ 1000000) (g2 : vl 4294967296 p ≤ 1000000) :
    Calls Tryd.prog 9 #[.string ⟨#[45]⟩, cnV 1 s1 ao n cap ⟨#[]⟩ false, cnV 1 s2 ap m capb ⟨#[]⟩ false] w fun e w' => (∃ x, e = .returned (.tuple #[x, .int .i64 0]) ∧ Cz w' x (zi s1 (vl 4294967296 l) - zi s2 (vl 4294967296 p))) ∧ Below w.heap.size w w' := by
  refine (kbin_any ⟨#[45]⟩ 1 1 s1 s2 ao n cap l ap m capb p ⟨#[]⟩ ⟨#[]⟩ false false w hl hp (by omega) (by omega) (by decide) (by decide)).mono ?_
  have e0 := add_small s1 (vl 4294967296 l) (!s2) (vl 4294967296 p) g1 g2
  have hA : bnK ⟨#[45]⟩ 1 s1 (vl 4294967296 l) ⟨#[]⟩ false 1 s2 (vl 4294967296 p) ⟨#[]⟩ false = ⟨1, addS s1 (vl 4294967296 l) (!s2) (vl 4294967296 p), addV s1 (vl 4294967296 l) (!s2) (vl 4294967296 p), ⟨#[]⟩, false, 0⟩ := by
    simp [bnK, bkA, tkB, rkA, e0, arA]
  rw [hA]
  rintro e w' ⟨⟨x, rfl, hx⟩, hb⟩
  exact ⟨⟨x, rfl, hx.cz (addV_lt _ _ _ _) (by show zi (addS _ _ _ _) (addV _ _ _ _) = _; rw [addE_zero e0, neg_zi]; omega)⟩, hb⟩
theorem zmul_any (s1 s2 : Bool) (ao : Option Addr) (n cap : Nat) (l : List Nat) (ap : Option Addr) (m capb : Nat) (p : List Nat) (w : World) (hl : Sl w ao n cap l) (hp : Sl w ap m capb p) (hn : n ≤ 40) (hm : m ≤ 40) (g1 : vl 4294967296 l ≤ 1000000) (g2 : vl 4294967296 p ≤ 1000000) :
    Calls Tryd.prog 9 #[.string ⟨#[42]⟩, cnV 1 s1 ao n cap ⟨#[]⟩ false, cnV 1 s2 ap m capb ⟨#[]⟩ false] w fun e w' => (∃ x, e = .returned (.tuple #[x, .int .i64 0]) ∧ Cz w' x (zi s1 (vl 4294967296 l) * zi s2 (vl 4294967296 p))) ∧ Below w.heap.size w w' := by
  refine (kbin_any ⟨#[42]⟩ 1 1 s1 s2 ao n cap l ap m capb p ⟨#[]⟩ ⟨#[]⟩ false false w hl hp (by omega) (by omega) (by decide) (by decide)).mono ?_
  have e0 := mul_small0 (vl 4294967296 l) (vl 4294967296 p) g1 g2
  have hA : bnK ⟨#[42]⟩ 1 s1 (vl 4294967296 l) ⟨#[]⟩ false 1 s2 (vl 4294967296 p) ⟨#[]⟩ false = ⟨1, mulS s1 (vl 4294967296 l) s2 (vl 4294967296 p), mulV (vl 4294967296 l) (vl 4294967296 p), ⟨#[]⟩, false, 0⟩ := by
    simp [bnK, bkA, tkB, rkA, e0, arA]
  rw [hA]
  rintro e w' ⟨⟨x, rfl, hx⟩, hb⟩
  exact ⟨⟨x, rfl, hx.cz (mulV_lt _ _) (mulE_zero e0)⟩, hb⟩
theorem zquo_any (s1 s2 : Bool) (ao : Option Addr) (n cap : Nat) (l : List Nat) (ap : Option Addr) (m capb : Nat) (p : List Nat) (w : World) (hl : Sl w ao n cap l) (hp : Sl w ap m capb p) (hn : n ≤ 40) (hm : m ≤ 40) (g1 : vl 4294967296 l ≤ 1000000) (g2 : vl 4294967296 p ≤ 1000000) (g0 : vl 4294967296 p ≠ 0) :
    Calls Tryd.prog 9 #[.string ⟨#[47]⟩, cnV 1 s1 ao n cap ⟨#[]⟩ false, cnV 1 s2 ap m capb ⟨#[]⟩ false] w fun e w' => (∃ x, e = .returned (.tuple #[x, .int .i64 0]) ∧ Cz w' x ((zi s1 (vl 4294967296 l)).tdiv (zi s2 (vl 4294967296 p)))) ∧ Below w.heap.size w w' := by
  refine (kbin_any ⟨#[47]⟩ 1 1 s1 s2 ao n cap l ap m capb p ⟨#[]⟩ ⟨#[]⟩ false false w hl hp (by omega) (by omega) (by decide) (by decide)).mono ?_
  obtain ⟨e0, e1, e2, e3, e4⟩ := quo_small s1 (vl 4294967296 l) s2 (vl 4294967296 p) g1 g2 g0
  have hA : bnK ⟨#[47]⟩ 1 s1 (vl 4294967296 l) ⟨#[]⟩ false 1 s2 (vl 4294967296 p) ⟨#[]⟩ false = ⟨1, sgB (s1 != s2) (vl 4294967296 l / vl 4294967296 p), (vl 4294967296 l / vl 4294967296 p), ⟨#[]⟩, false, 0⟩ := by
    simp [bnK, bkA, tkB, rkA, e0, e1, arA]
  rw [hA]
  rintro e w' ⟨⟨x, rfl, hx⟩, hb⟩
  exact ⟨⟨x, rfl, hx.cz (small_lt (by have := Nat.div_le_self (vl 4294967296 l) (vl 4294967296 p); show (vl 4294967296 l / vl 4294967296 p) ≤ _; omega)) e3⟩, hb⟩
theorem zrem_any (s1 s2 : Bool) (ao : Option Addr) (n cap : Nat) (l : List Nat) (ap : Option Addr) (m capb : Nat) (p : List Nat) (w : World) (hl : Sl w ao n cap l) (hp : Sl w ap m capb p) (hn : n ≤ 40) (hm : m ≤ 40) (g1 : vl 4294967296 l ≤ 1000000) (g2 : vl 4294967296 p ≤ 1000000) (g0 : vl 4294967296 p ≠ 0) :
    Calls Tryd.prog 9 #[.string ⟨#[37]⟩, cnV 1 s1 ao n cap ⟨#[]⟩ false, cnV 1 s2 ap m capb ⟨#[]⟩ false] w fun e w' => (∃ x, e = .returned (.tuple #[x, .int .i64 0]) ∧ Cz w' x ((zi s1 (vl 4294967296 l)).tmod (zi s2 (vl 4294967296 p)))) ∧ Below w.heap.size w w' := by
  refine (kbin_any ⟨#[37]⟩ 1 1 s1 s2 ao n cap l ap m capb p ⟨#[]⟩ ⟨#[]⟩ false false w hl hp (by omega) (by omega) (by decide) (by decide)).mono ?_
  obtain ⟨e0, e1, e2, e3, e4⟩ := quo_small s1 (vl 4294967296 l) s2 (vl 4294967296 p) g1 g2 g0
  have hA : bnK ⟨#[37]⟩ 1 s1 (vl 4294967296 l) ⟨#[]⟩ false 1 s2 (vl 4294967296 p) ⟨#[]⟩ false = ⟨1, sgB s1 (vl 4294967296 l % vl 4294967296 p), (vl 4294967296 l % vl 4294967296 p), ⟨#[]⟩, false, 0⟩ := by
    simp [bnK, bkA, tkB, rkA, e0, e2, arA]
  rw [hA]
  rintro e w' ⟨⟨x, rfl, hx⟩, hb⟩
  exact ⟨⟨x, rfl, hx.cz (small_lt (by have := Nat.mod_le (vl 4294967296 l) (vl 4294967296 p); show (vl 4294967296 l % vl 4294967296 p) ≤ _; omega)) e4⟩, hb⟩
theorem zquo0_any (s1 s2 : Bool) (ao : Option Addr) (n cap : Nat) (l : List Nat) (ap : Option Addr) (m capb : Nat) (p : List Nat) (w : World) (hl : Sl w ao n cap l) (hp : Sl w ap m capb p) (hn : n ≤ 40) (hm : m ≤ 40) (g1 : vl 4294967296 l ≤ 1000000) (g2 : vl 4294967296 p ≤ 1000000) (g0 : vl 4294967296 p = 0) :
    Calls Tryd.prog 9 #[.string ⟨#[47]⟩, cnV 1 s1 ao n cap ⟨#[]⟩ false, cnV 1 s2 ap m capb ⟨#[]⟩ false] w (AnsQ w (noA 5)) := by
  have := kbin_any ⟨#[47]⟩ 1 1 s1 s2 ao n cap l ap m capb p ⟨#[]⟩ ⟨#[]⟩ false false w hl hp (by omega) (by omega) (by decide) (by decide)
  have e0 : quoE (vl 4294967296 l) (vl 4294967296 p) = 5 := by
    unfold quoE
    rw [big_no g1, big_no g2]
    simp [g0]
  have hA : bnK ⟨#[47]⟩ 1 s1 (vl 4294967296 l) ⟨#[]⟩ false 1 s2 (vl 4294967296 p) ⟨#[]⟩ false = noA 5 := by
    simp [bnK, bkA, tkB, rkA, e0, arA]
  rwa [hA] at this
theorem zrem0_any (s1 s2 : Bool) (ao : Option Addr) (n cap : Nat) (l : List Nat) (ap : Option Addr) (m capb : Nat) (p : List Nat) (w : World) (hl : Sl w ao n cap l) (hp : Sl w ap m capb p) (hn : n ≤ 40) (hm : m ≤ 40) (g1 : vl 4294967296 l ≤ 1000000) (g2 : vl 4294967296 p ≤ 1000000) (g0 : vl 4294967296 p = 0) :
    Calls Tryd.prog 9 #[.string ⟨#[37]⟩, cnV 1 s1 ao n cap ⟨#[]⟩ false, cnV 1 s2 ap m capb ⟨#[]⟩ false] w (AnsQ w (noA 5)) := by
  have := kbin_any ⟨#[37]⟩ 1 1 s1 s2 ao n cap l ap m capb p ⟨#[]⟩ ⟨#[]⟩ false false w hl hp (by omega) (by omega) (by decide) (by decide)
  have e0 : quoE (vl 4294967296 l) (vl 4294967296 p) = 5 := by
    unfold quoE
    rw [big_no g1, big_no g2]
    simp [g0]
  have hA : bnK ⟨#[37]⟩ 1 s1 (vl 4294967296 l) ⟨#[]⟩ false 1 s2 (vl 4294967296 p) ⟨#[]⟩ false = noA 5 := by
    simp [bnK, bkA, tkB, rkA, e0, arA]
  rwa [hA] at this
end Go.Proofs.YtfkkhabpnnealaaDoor

