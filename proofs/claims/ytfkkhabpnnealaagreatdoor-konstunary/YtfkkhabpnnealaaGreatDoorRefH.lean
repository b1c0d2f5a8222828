/-
  The contracts of the document's own Of and Small, and of exact.Small, at every argument.
-/
import Derived.Test.YtfkkhabpnnealaaGreatDoorRefF
namespace Go.Proofs.YtfkkhabpnnealaaGreatDoor
open Go.RowKit
attribute [local go_sem ↓] Go.wp_at_zero Go.wp_at_succ
set_option maxRecDepth 100000 in
set_option maxHeartbeats 1000000 in
theorem rof_abs (N : Nat) (neg : Bool) (w : World) (h : N ≤ 9223372036854775808) (hn : neg = true → 1 ≤ N) (hp : neg = false → N ≤ 9223372036854775807) :
    Calls Tryz.prog 40 #[.int .i64 (if neg then -(N : Int) else N)] w fun e w' => ∃ x, e = .returned x ∧ IntR w' w.heap.size x (sgB neg N) N ∧ Below w.heap.size w w' := by
  have e1 : (N : Int) % 4294967296 = ((N % 4294967296 : Nat) : Int) := by omega
  have e2 : (N : Int) / 4294967296 = ((N / 4294967296 : Nat) : Int) := by omega
  have E1 : Hid (_ = _) := e1
  have E2 : Hid (_ = _) := e2
  clear e1 e2
  have HV : Hid (vl 4294967296 [N % 4294967296, N / 4294967296] = N) := vl_two N
  have hwd : Wd 4294967296 [N % 4294967296, N / 4294967296] := by intro x hx; simp at hx; omega
  have HF : Hid (Form 4294967296 (List.take (tk [N % 4294967296, N / 4294967296]) [N % 4294967296, N / 4294967296])) := trim_form hwd
  have HT : Hid (vl 4294967296 (List.take (tk [N % 4294967296, N / 4294967296]) [N % 4294967296, N / 4294967296]) = N) := (trim_val _).trans HV.out
  clear hwd
  cases neg
  · have h1 := hp rfl
    clear hn hp
    go_enter Tryz.func40, Tryz.ntmps40
    go_wp2_with fail
    rw [E1.out, E2.out]
    generalize hW : (World.alloc _ _) = W
    obtain ⟨x1, x2, hbW, hzW⟩ := boxes2 w _ _ _ _ _ _ 0 hW
    have ho := own_two (base := w.heap.size + 1) x2 (by omega) (by omega) (Nat.le_refl _)
    have HO : Hid (Own W _ _ _ _ _) := ho
    have HBW : Hid (Below w.heap.size w W) := hbW
    have X1 : Hid (Box W w.heap.size _ _) := x1
    have HS : Hid (W.heap.size = w.heap.size + 1 + 1) := hzW
    clear hW x1 x2 hbW ho hzW
    refine (rform_any false _ _ _ [N % 4294967296, N / 4294967296] _ HO.out.sl (fun h => by cases h) (by omega)).mono ?_
    rintro e w3 ⟨ao', cap', rfl, ho3, _, hb3⟩
    rw [HV.out]
    have O3 : Hid (Own w3 (w.heap.size + 1) ao' (tk [N % 4294967296, N / 4294967296]) cap' _) := ho3.mono (by have := HS.out; omega)
    generalize tk [N % 4294967296, N / 4294967296] = k at *
    have HB3 : Hid (Below _ _ w3) := hb3
    have X33 := X1.out.below hb3 X1.out.lt
    have z0 := X33.z0
    have z1 := X33.z1
    have f0 := X33.f0
    have f1 := X33.f1
    clear hb3 X33 ho3
    go_wp2_with fail
    have ho2 := (O3.out.setCell (a := ⟨w.heap.size, 0, none⟩) (by show w.heap.size < w.heap.size + 1; omega) (.bool (sgB false N))).setCell (a := ⟨w.heap.size, 1, none⟩) (by show w.heap.size < w.heap.size + 1; omega) (.slice ao' k cap')
    refine bodyPost_ret (v := .agg #[.bool (sgB false N), .slice ao' k cap']) (by simp [results, Tryz.results40, go_sem, z0, z1]) rfl ⟨_, rfl, ⟨ao', k, cap', _, rfl, ho2.sl, HF.out, HT.out, (ho2.mono (by omega)).base⟩, ?_⟩
    exact (((HBW.out.trans (HB3.out.mono (by have := HS.out; omega))).setCell (p := ⟨w.heap.size, 0, none⟩) (Nat.le_refl _) _).setCell (p := ⟨w.heap.size, 1, none⟩) (Nat.le_refl _) _)
  · have h1 := hn rfl
    have hwr : IntKind.u64.wrap (-IntKind.u64.wrap (-(N : Int))) = (N : Int) := by rw [IntKind.wrap_u64, IntKind.wrap_u64]; omega
    clear hn hp
    go_enter Tryz.func40, Tryz.ntmps40
    go_wp2_with fail
    rw [E1.out, E2.out]
    generalize hW : (World.alloc _ _) = W
    obtain ⟨x1, x2, hbW, hzW⟩ := boxes2 w _ _ _ _ _ _ 0 hW
    have ho := own_two (base := w.heap.size + 1) x2 (by omega) (by omega) (Nat.le_refl _)
    have HO : Hid (Own W _ _ _ _ _) := ho
    have HBW : Hid (Below w.heap.size w W) := hbW
    have X1 : Hid (Box W w.heap.size _ _) := x1
    have HS : Hid (W.heap.size = w.heap.size + 1 + 1) := hzW
    clear hW x1 x2 hbW ho hzW
    refine (rform_any true _ _ _ [N % 4294967296, N / 4294967296] _ HO.out.sl (fun h => by cases h) (by omega)).mono ?_
    rintro e w3 ⟨ao', cap', rfl, ho3, _, hb3⟩
    rw [HV.out]
    have O3 : Hid (Own w3 (w.heap.size + 1) ao' (tk [N % 4294967296, N / 4294967296]) cap' _) := ho3.mono (by have := HS.out; omega)
    generalize tk [N % 4294967296, N / 4294967296] = k at *
    have HB3 : Hid (Below _ _ w3) := hb3
    have X33 := X1.out.below hb3 X1.out.lt
    have z0 := X33.z0
    have z1 := X33.z1
    have f0 := X33.f0
    have f1 := X33.f1
    clear hb3 X33 ho3
    go_wp2_with fail
    have ho2 := (O3.out.setCell (a := ⟨w.heap.size, 0, none⟩) (by show w.heap.size < w.heap.size + 1; omega) (.bool (sgB true N))).setCell (a := ⟨w.heap.size, 1, none⟩) (by show w.heap.size < w.heap.size + 1; omega) (.slice ao' k cap')
    refine bodyPost_ret (v := .agg #[.bool (sgB true N), .slice ao' k cap']) (by simp [results, Tryz.results40, go_sem, z0, z1]) rfl ⟨_, rfl, ⟨ao', k, cap', _, rfl, ho2.sl, HF.out, HT.out, (ho2.mono (by omega)).base⟩, ?_⟩
    exact (((HBW.out.trans (HB3.out.mono (by have := HS.out; omega))).setCell (p := ⟨w.heap.size, 0, none⟩) (Nat.le_refl _) _).setCell (p := ⟨w.heap.size, 1, none⟩) (Nat.le_refl _) _)
theorem rof_any (v : Int) (w : World) (h0 : -9223372036854775808 ≤ v) (h1 : v ≤ 9223372036854775807) :
    Calls Tryz.prog 40 #[.int .i64 v] w fun e w' => ∃ x, e = .returned x ∧ IntR w' w.heap.size x (sgB (decide (v < 0)) v.natAbs) v.natAbs ∧ Below w.heap.size w w' := by
  by_cases hv : v < 0
  · have := rof_abs v.natAbs true w (by omega) (fun _ => by omega) (fun h => by cases h)
    rw [if_pos rfl, show -(v.natAbs : Int) = v from by omega] at this
    rw [decide_eq_true hv]
    exact this
  · have := rof_abs v.natAbs false w (by omega) (fun h => by cases h) (fun _ => by omega)
    rw [if_neg (by simp), show (v.natAbs : Int) = v from by omega] at this
    rw [decide_eq_false hv]
    exact this
theorem or_put (sz x k : Nat) (hk : k ≤ 1) (hs : sz < 4294967296 ^ k) (hx : x ≤ 4294967295) : bits BinOp.or IntKind.u64 (sz : Int) (IntKind.u64.wrap ((x : Int) * 2 ^ (k * 32))) = ((sz + 4294967296 ^ k * x : Nat) : Int) ∧ sz + 4294967296 ^ k * x < 4294967296 ^ (k + 1) := by
  have hb : x * 2 ^ (k * 32) < 18446744073709551616 ∧ sz + 4294967296 ^ k * x < 4294967296 ^ (k + 1) := by
    rcases (show k = 0 ∨ k = 1 by omega) with h | h <;> subst h
    · simp at *; omega
    · simp at *; omega
  refine ⟨?_, hb.2⟩
  have e : IntKind.u64.wrap ((x : Int) * 2 ^ (k * 32)) = ((x * 2 ^ (k * 32) : Nat) : Int) := by
    rw [wrap64]
    have : ((x * 2 ^ (k * 32) % 18446744073709551616 : Nat) : Int) = (x : Int) * 2 ^ (k * 32) % 18446744073709551616 := by rw [Int.natCast_emod]; simp
    rw [← this, Nat.mod_eq_of_lt hb.1]
  have hp := pow_word k
  rw [hp] at hs
  have hj := nat_join (k * 32) (x * 2 ^ (k * 32)) sz (by simp) hs
  have h := u64_or_nat sz (x * 2 ^ (k * 32)) (by
    have : 2 ^ (k * 32) ≤ 2 ^ 32 := Nat.pow_le_pow_right (by omega) (by omega)
    have : (2 : Nat) ^ 32 = 4294967296 := by decide
    omega) hb.1
  rw [Nat.or_comm, hj] at h
  rw [e, h, hp, Nat.mul_comm x, Nat.add_comm]
/-- what Small answers -/
def smB (s : Bool) (N : Nat) : Bool := decide (N ≤ if s then 9223372036854775808 else 9223372036854775807)
def smV (s : Bool) (N : Nat) : Int := if smB s N then (if s then -(N : Int) else N) else 0
theorem smB_sg (s : Bool) (N : Nat) : smB (sgB s N) N = smB s N := by
  unfold smB sgB
  cases s <;> by_cases h : N = 0 <;> simp [h]
theorem smV_sg (s : Bool) (N : Nat) : smV (sgB s N) N = smV s N := by
  unfold smV
  rw [smB_sg]
  unfold sgB
  cases s <;> by_cases h : N = 0 <;> simp [h]
theorem tk_big {l : List Nat} (hw : Wd 4294967296 l) (h : 2 < tk l) : 18446744073709551616 ≤ vl 4294967296 l := by
  have hf := trim_form hw
  have hlen : (l.take (tk l)).length = tk l := by have := (tk_trim l).le; simp; omega
  have h1 := hf.low (by intro h0; rw [h0] at hlen; simp at hlen; omega)
  rw [hlen, trim_val] at h1
  have h3 := Nat.pow_le_pow_right (n := 4294967296) (by omega) (show 2 ≤ tk l - 1 by omega)
  have h4 : 4294967296 ^ 2 = 18446744073709551616 := by decide
  omega
end Go.Proofs.YtfkkhabpnnealaaGreatDoor

