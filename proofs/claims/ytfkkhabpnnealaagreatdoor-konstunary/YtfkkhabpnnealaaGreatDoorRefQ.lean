/-
  The contract of the document's own Quo at every argument.
-/
import Derived.Test.YtfkkhabpnnealaaGreatDoorRefG
import Derived.Test.YtfkkhabpnnealaaGreatDoorPlnA
namespace Go.Proofs.YtfkkhabpnnealaaGreatDoor
open Go.RowKit
attribute [local go_sem ↓] Go.wp_at_zero Go.wp_at_succ
open Go.Sort (Holds putRow holds_putRow putRow_self putRow_set cell?_putRow_other)
theorem below_set2 {B : Nat} {w V : World} (h : Below B w V) {b : Nat} (hb : B ≤ b) (u v : Value) : Below B w ((V.setCell ⟨b, 0, none⟩ u).setCell ⟨b, 1, none⟩ v) := (h.setCell (p := ⟨b, 0, none⟩) hb u).setCell (p := ⟨b, 1, none⟩) hb v
theorem QuoP.at {w w' : World} {s t s1 s2 q1 q2 : Bool} {N M : Nat} {v1 v2 : Value} (h1 : bigN N = false) (h2 : bigN M = false) (h0 : M ≠ 0) (e1 : sgB s N = s1) (e2 : sgB t M = s2) (hq : q1 = sgB (!(s1 == s2)) (N / M)) (hr : q2 = sgB s1 (N % M))
    (i1 : IntR w' w.heap.size v1 q1 (N / M)) (i2 : IntR w' w.heap.size v2 q2 (N % M)) (hb : Below w.heap.size w w') : QuoP w w' (.returned (.tuple #[v1, v2, .int .i64 0])) s N t M := by
  have hQ : quoQ N M = N / M := by simp [quoQ, h1, h2, h0]
  have hR : quoR N M = N % M := by simp [quoR, h1, h2, h0]
  have g1 : sgB (s != t) (N / M) = q1 := by
    rw [hq]
    by_cases hz : N / M = 0
    · rw [hz, sgB_zero, sgB_zero]
    · have hN : N ≠ 0 := fun h => hz (by rw [h]; simp)
      rw [← e1, ← e2, sgB_pos hN, sgB_pos h0]
      rfl
  have g2 : sgB s (N % M) = q2 := by
    rw [hr]
    by_cases hz : N % M = 0
    · rw [hz, sgB_zero, sgB_zero]
    · have hN : N ≠ 0 := fun h => hz (by rw [h]; simp)
      rw [← e1, sgB_pos hN]
  refine ⟨⟨v1, v2, ?_, ?_, ?_⟩, hb⟩
  · simp [quoE, h1, h2, h0]
  · rw [hQ, g1]; exact i1
  · rw [hR, g2]; exact i2
theorem or_bit (y t : Nat) (hy : y < 4294967296) (ht : t < 32) (hz : y % 2 ^ (t + 1) = 0) : bits BinOp.or IntKind.u32 (y : Int) (2 ^ t % 4294967296) = ((y + 2 ^ t : Nat) : Int) ∧ y + 2 ^ t < 4294967296 := by
  have h2 : 2 ^ t < 4294967296 := by have := Nat.pow_lt_pow_right (a := 2) (by omega) ht; simpa using this
  have e : (2 : Int) ^ t % 4294967296 = ((2 ^ t : Nat) : Int) := by
    have : ((2 ^ t % 4294967296 : Nat) : Int) = (2 : Int) ^ t % 4294967296 := by rw [Int.natCast_emod]; simp
    rw [← this, Nat.mod_eq_of_lt h2]
  have hj := nat_join (t + 1) y (2 ^ t) hz (Nat.pow_lt_pow_right (by omega) (by omega))
  have h := u32_or_nat y (2 ^ t) hy h2
  have hl := Nat.or_lt_two_pow (n := 32) (x := y) (y := 2 ^ t) (by simpa using hy) (by simpa using h2)
  rw [hj] at h hl
  rw [e]
  exact ⟨h, by simpa using hl⟩
theorem set_bit (d : List Nat) (i y : Nat) (hy : y = d.getD (i / 32) 0) (hi : i / 32 < d.length) : vl 4294967296 (d.set (i / 32) (y + 2 ^ (i % 32))) = vl 4294967296 d + 2 ^ i := by
  have h := vl_set d (i / 32) (y + 2 ^ (i % 32)) hi
  rw [← hy, Nat.mul_add] at h
  have e : 4294967296 ^ (i / 32) * 2 ^ (i % 32) = 2 ^ i := by
    rw [word_pow, ← Nat.pow_add, show 32 * (i / 32) + i % 32 = i from by omega]
  rw [e] at h
  omega
theorem wd_set {d : List Nat} {k x : Nat} (h : Wd 4294967296 d) (hx : x < 4294967296) : Wd 4294967296 (d.set k x) := fun z hz => by
  rcases List.mem_or_eq_of_mem_set hz with h1 | h1
  · exact h z h1
  · rw [h1]; exact hx
theorem bit_and (x t : Nat) (hx : x < 4294967296) : bits BinOp.and IntKind.u32 ((x : Int) / 2 ^ t) 1 = ((x / 2 ^ t % 2 : Nat) : Int) := by
  have e : (x : Int) / 2 ^ t = ((x / 2 ^ t : Nat) : Int) := by rw [Int.natCast_ediv]; simp
  have h := u32_and_nat (x / 2 ^ t) 1 (Nat.lt_of_le_of_lt (Nat.div_le_self _ _) hx) (by omega)
  rw [e, ← nat_mask1]
  exact h
theorem bit_eq {l : List Nat} (hw : Wd 4294967296 l) (i x : Nat) (hx : x = l.getD (i / 32) 0) : x / 2 ^ (i % 32) % 2 = vl 4294967296 l / 2 ^ i % 2 := by
  have h := word_bit (vl 4294967296 l) (i / 32) (i % 32) x (Nat.mod_lt _ (by omega)) (by rw [hx, getD_vl l _ hw])
  rw [h, show 32 * (i / 32) + i % 32 = i from by omega]
theorem lit_sl (w : World) (x : Nat) (hx : x < 4294967296) : Sl (w.alloc (.cells #[.int .u32 (x : Int)] 70)) (some ⟨w.heap.size, 0, none⟩) 1 1 [x] := by
  refine ⟨rfl, Nat.le_refl _, by omega, by simpa [Wd] using hx, fun _ => ⟨w.heap.size, 0, rfl, by simp, fun j hj => ?_⟩⟩
  obtain rfl : j = 0 := by omega
  rw [World.cell?_alloc_new]
  rfl
end Go.Proofs.YtfkkhabpnnealaaGreatDoor

