/-
  few, walked.
-/
import Derived.Test.YtleiohccaagalaaGreatLaw
namespace Go.Proofs.YtleiohccaagalaaGreat
open Go.RowKit Go.Sort
attribute [local go_sem ↓] Go.wp_at_zero Go.wp_at_succ
structure BoolQ (w : World) (e : Ending) (w' : World) : Prop where
  ex : ∃ b : Bool, e = .returned (.bool b)
  same : w' = w
set_option maxRecDepth 100000 in
set_option maxHeartbeats 2000000 in
theorem few_any {w : World} {a : Option Addr} {n c : Nat} {l : List Bs} (h : TxV w a n c l) (hn : n ≤ 9223372036854775807) : Calls Tryz.prog 4 #[.slice a n c] w (BoolQ w) := by
  have hl := h.len
  have HT : Hid (TxV w a n c l) := h
  have HL : Hid (n = l.length) := hl
  clear h hl
  go_enter Tryz.func4, Tryz.ntmps4
  go_wp2_with fail
  go_loopg [3, 4] n (fun g u3 u4 wr => ∃ (i : Nat) (z : Int), i ≤ n ∧ n - i ≤ g ∧ u4 = .int .i64 i ∧ u3 = .int .i64 z ∧ wr = w)
  case atStart => exact ⟨0, n, Nat.zero_le _, Nat.le_refl _, rfl, rfl, rfl⟩
  case round =>
    obtain ⟨i, z, hi, hg, rfl, rfl, rfl⟩ := hrel
    by_cases hlt : i < n
    · have z1 : (i : Int) < (n : Int) := by omega
      have z0 : (0 : Int) ≤ (i : Int) := by omega
      have b1 : i < l.length := by rw [← HL.out]; exact hlt
      obtain ⟨g1, o1, rfl, ht1⟩ := HT.out.cell b1
      generalize l[i] = x at *
      go_wp2_with fail
      go_roundg (n - (i + 1))
      case measure => omega
      case rel => exact ⟨i + 1, _, by omega, Nat.le_refl _, by go_num, rfl, rfl⟩
    · have z1 : ¬ (i : Int) < (n : Int) := by omega
      go_wp2_with fail
      go_ret
      exact ⟨⟨_, rfl⟩, rfl⟩
end Go.Proofs.YtleiohccaagalaaGreat
