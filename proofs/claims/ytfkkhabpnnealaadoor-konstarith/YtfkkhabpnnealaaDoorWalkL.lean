/-
  The contract of exact.Quo at every argument (3).
-/
import Derived.Test.YtfkkhabpnnealaaDoorWalkJ
namespace Go.Proofs.YtfkkhabpnnealaaDoor
open Go.RowKit
attribute [local go_sem ↓] Go.wp_at_zero Go.wp_at_succ
open Go.Sort (Holds putRow holds_putRow putRow_self putRow_set cell?_putRow_other)
def quoE (N M : Nat) : Int := if bigN N || bigN M then 2 else if M = 0 then 5 else 0
def quoQ (N M : Nat) : Nat := if bigN N || bigN M then 0 else if M = 0 then 0 else N / M
def quoR (N M : Nat) : Nat := if bigN N || bigN M then 0 else if M = 0 then 0 else N % M
/-- what Quo answers -/
structure QuoP (w w' : World) (e : Ending) (s1 : Bool) (N : Nat) (s2 : Bool) (M : Nat) : Prop where
  ex : ∃ v1 v2, e = .returned (.tuple #[v1, v2, .int .i64 (quoE N M)]) ∧ IntR w' w.heap.size v1 (sgB (s1 != s2) (quoQ N M)) (quoQ N M) ∧ IntR w' w.heap.size v2 (sgB s1 (quoR N M)) (quoR N M)
  below : Below w.heap.size w w'
theorem quo_any (s t : Bool) (ao : Option Addr) (n cap : Nat) (l : List Nat) (ap : Option Addr) (m capb : Nat) (p : List Nat) (w : World) (hl : Sl w ao n cap l) (hp : Sl w ap m capb p) (hn : n ≤ 1000) (hm : m ≤ 1000) :
    Calls Tryd.prog 44 #[.agg #[.bool s, .slice ao n cap], .agg #[.bool t, .slice ap m capb]] w fun e w' => QuoP w w' e s (vl 4294967296 l) t (vl 4294967296 p) := by
  cases hbig : (bigN (vl 4294967296 l) || bigN (vl 4294967296 p))
  · have h1 : bigN (vl 4294967296 l) = false := by cases h : bigN (vl 4294967296 l) <;> simp_all
    have h2 : bigN (vl 4294967296 p) = false := by cases h : bigN (vl 4294967296 p) <;> simp_all
    by_cases h0 : vl 4294967296 p = 0
    · refine (quo_zero s t ao n cap l ap m capb p w hl hp hn hm h1 h0).mono fun e w' ⟨he, hb⟩ => ⟨⟨.agg #[.bool false, .slice none 0 0], .agg #[.bool false, .slice none 0 0], ?_, ?_, ?_⟩, hb⟩
      · rw [he]; unfold quoE; rw [hbig, if_neg (by simp), if_pos h0]
      · unfold quoQ; rw [hbig, if_neg (by simp), if_pos h0, sgB_zero]; exact IntR.zero _ _
      · unfold quoR; rw [hbig, if_neg (by simp), if_pos h0, sgB_zero]; exact IntR.zero _ _
    · refine (quo_ok s t ao n cap l ap m capb p w hl hp hn hm h1 h2 h0).mono fun e w' ⟨v1, v2, he, hi1, hi2, hb⟩ => ⟨⟨v1, v2, ?_, ?_, ?_⟩, hb⟩
      · rw [he]; simp only [quoE, hbig, h0, if_false]; rfl
      · simp only [quoQ, hbig, h0, if_false]; exact hi1
      · simp only [quoR, hbig, h0, if_false]; exact hi2
  · refine (quo_big s t ao n cap l ap m capb p w hl hp hn hm hbig).mono fun e w' ⟨he, hb⟩ => ⟨⟨.agg #[.bool false, .slice none 0 0], .agg #[.bool false, .slice none 0 0], ?_, ?_, ?_⟩, hb⟩
    · rw [he]; simp only [quoE, hbig, if_true]
    · simp only [quoQ, hbig, if_true, sgB_zero]; exact IntR.zero _ _
    · simp only [quoR, hbig, if_true, sgB_zero]; exact IntR.zero _ _
end Go.Proofs.YtfkkhabpnnealaaDoor

