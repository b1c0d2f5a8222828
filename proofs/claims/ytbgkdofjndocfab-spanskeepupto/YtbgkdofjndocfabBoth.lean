/-
  The sorted edits, of any slice of edits, nil too.
-/
import Derived.Test.YtbgkdofjndocfabRefA
import Derived.Test.YtbgkdofjndocfabWalkV
import Derived.Test.YtbgkdofjndocfabWalkC
namespace Go.Proofs.Ytbgkdofjndocfab
open Go.RowKit
attribute [local go_sem ↓] Go.wp_at_zero Go.wp_at_succ
/-- What a slice of edits, handed in, holds. -/
def EdArg (w : World) (v : Value) (l : List Ed) : Prop := (v = .slice none 0 0 ∧ l = []) ∨ ∃ B o c, v = .slice (some ⟨B, o, none⟩) l.length c ∧ (0 < l.length → B < w.heap.size) ∧ EdsAt w B o l
theorem EdArg.below {w w' : World} {v : Value} {l : List Ed} (h : EdArg w v l) (hb : Below w.heap.size w w') : EdArg w' v l := by
  rcases h with h | ⟨B, o, c, h, hB, he⟩
  · exact .inl h
  · exact .inr ⟨B, o, c, h, fun h0 => Nat.lt_of_lt_of_le (hB h0) hb.size, he.below hB hb⟩
theorem EdArg.shape {w : World} {v : Value} {l : List Ed} (h : EdArg w v l) : ∃ a c, v = .slice a l.length c ∧ (0 < l.length → ∃ B o, a = some ⟨B, o, none⟩ ∧ B < w.heap.size ∧ EdsAt w B o l) := by
  rcases h with ⟨rfl, rfl⟩ | ⟨B, o, c, rfl, hB, he⟩
  · exact ⟨none, 0, rfl, fun h => by simp at h⟩
  · exact ⟨_, c, rfl, fun h0 => ⟨B, o, rfl, hB h0, he⟩⟩
def SPost (l : List Ed) (w : World) (e : Ending) (w' : World) : Prop :=
  Below w.heap.size w w' ∧ ((∃ a cap out, Srt l out ∧ e = .returned (.tuple #[.slice a out.length cap, .int .i64 0]) ∧ (0 < out.length → ∃ g, a = some ⟨g, 0, none⟩ ∧ EdRow w' w.heap.size g out)) ∨ (¬ Good l ∧ e = .returned (.tuple #[.slice none 0 0, .int .i64 1])))
theorem sorted_sp (v : Value) (l : List Ed) (w : World) (hn : l.length ≤ 2932031007402) (h : EdArg w v l) : Calls Try.prog 10 #[v] w fun e w' => SPost l w e w' := by
  rcases h with ⟨rfl, rfl⟩ | ⟨B, o, c, rfl, hB, he⟩
  · refine (sorted0_any w).mono ?_
    rintro e w' ⟨rfl, rfl⟩
    exact ⟨Below.refl _ _, .inl ⟨none, 0, [], srt_nil, rfl, fun h => by simp at h⟩⟩
  · refine (sorted_any B o c l.length l w rfl hn hB he).mono ?_
    rintro e w' ⟨hb, ⟨g, cap, out, hs, rfl, _, hr⟩ | ⟨hg, rfl⟩⟩
    · exact ⟨hb, .inl ⟨_, cap, out, hs, rfl, fun _ => ⟨g, rfl, hr⟩⟩⟩
    · exact ⟨hb, .inr ⟨hg, rfl⟩⟩
set_option maxRecDepth 100000 in
set_option maxHeartbeats 1000000 in
theorem much_any (v : Value) (l : List Ed) (w : World) (hn : l.length ≤ 2932031007402) (h : EdArg w v l) : Calls Try.prog 6 #[v] w fun e w' => ∃ q, w' = w.drewN q ∧ ∃ b, e = .returned (.bool b) := by
  obtain ⟨a, c, rfl, hs⟩ := h.shape
  clear h
  go_enter Try.func6, Try.ntmps6
  go_wp2_with fail
  generalize hL : l.length = n at *
  go_loopw [3, 4] (fun s i w' => ∃ (k q : Nat) (m : Int), k ≤ n ∧ i = .int .i64 k ∧ s = .int .i64 m ∧ w' = w.drewN q) (fun _ i _ => n - (intOf i).toNat)
  case atStart => exact ⟨0, 0, n, by omega, rfl, rfl, rfl⟩
  case round =>
    obtain ⟨k, q, m, hk, rfl, rfl, rfl⟩ := hrel
    by_cases hlt : k < n
    · obtain ⟨B, o, rfl, hB, he⟩ := hs (by omega)
      obtain ⟨x0, _, _, x3⟩ := xed he k (by omega)
      have y0 : (w.drewN q).cell? ⟨B, o + k * 4, none⟩ = _ := (drewN_cell w q _).trans x0
      have y3 : (w.drewN q).cell? ⟨B, o + k * 4 + 3, none⟩ = _ := (drewN_cell w q _).trans x3
      generalize l.getD k default = x at *
      obtain ⟨p, xa, xb, t⟩ := x
      simp only at y0 y3
      have z1 : (0 : Int) ≤ (k : Int) := by omega
      have z2 : (k : Int) < (n : Int) := by omega
      clear x0 x3 he hL
      generalize hwq : w.drewN q = W at *
      go_wp2_with fail
      go_quiet (fail)
      go_wp2_with fail
      go_roundw
      case rel => exact ⟨k + 1, _, _, by omega, by go_num, rfl, by rw [← hwq]; simp [World.drewN, Nat.add_assoc]; rfl⟩
      case measure => simp [intOf]; omega
    · clear hL
      go_wp2_with fail
      all_goals
        go_ret
        exact ⟨q, rfl, _, rfl⟩
end Go.Proofs.Ytbgkdofjndocfab
