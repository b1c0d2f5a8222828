/-
  The contracts of exact.Neg, Of, Small at every argument.
-/
import Derived.Test.YtfkkhabpnnealaaDoorWalkE
namespace Go.Proofs.YtfkkhabpnnealaaDoor
open Go.RowKit
attribute [local go_sem ↓] Go.wp_at_zero Go.wp_at_succ
open Go.Sort (Holds putRow holds_putRow putRow_self putRow_set cell?_putRow_other)
theorem ne_boxes1 (n : Nat) : n + 1 ≠ n := by omega
theorem own_two {w : World} {base b x y : Nat} (h : Box w b (.int .u32 (x : Int)) (.int .u32 (y : Int))) (hx : x < 4294967296) (hy : y < 4294967296) (hb : base ≤ b) : Own w base (some ⟨b, 0, none⟩) 2 2 [x, y] := by
  refine Own.of_holds rfl (Nat.le_refl _) (by omega) (by simp [Wd]; exact ⟨hx, hy⟩) hb h.lt (holds_of fun k hk => ?_)
  match k, hk with
  | 0, _ => exact ⟨h.z0, h.f0⟩
  | 1, _ => exact ⟨h.z1, h.f1⟩
theorem vl_two (N : Nat) : vl 4294967296 [N % 4294967296, N / 4294967296] = N := by
  simp only [vl]; omega
set_option maxRecDepth 100000 in
set_option maxHeartbeats 2000000 in
theorem of_abs (N : Nat) (neg : Bool) (w : World) (h : N ≤ 9223372036854775808) (hn : neg = true → 1 ≤ N) (hp : neg = false → N ≤ 9223372036854775807) :
    Calls Tryd.prog 34 #[.int .i64 (if neg then -(N : Int) else N)] w fun e w' => ∃ x, e = .returned x ∧ IntR w' w.heap.size x (sgB neg N) N ∧ Below w.heap.size w w' := by
  have e1 : (N : Int) % 4294967296 = ((N % 4294967296 : Nat) : Int) := by omega
  have e2 : (N : Int) / 4294967296 = ((N / 4294967296 : Nat) : Int) := by omega
  have E1 : Hid (_ = _) := e1
  have E2 : Hid (_ = _) := e2
  clear e1 e2
  have HV : Hid (vl 4294967296 [N % 4294967296, N / 4294967296] = N) := vl_two N
  cases neg
  · have h1 := hp rfl
    clear hn hp
    go_enter Tryd.func34, Tryd.ntmps34
    go_wp2_with fail
    rw [E1.out, E2.out]
    generalize hW : (World.alloc _ _) = W
    obtain ⟨x1, x2, hbW, hzW⟩ := boxes2 w _ _ _ _ _ _ 0 hW
    have ho := own_two (base := w.heap.size + 1) x2 (by omega) (by omega) (Nat.le_refl _)
    have HO : Hid (Own W _ _ _ _ _) := ho
    have HBW : Hid (Below w.heap.size w W) := hbW
    have X1 : Hid (Box W w.heap.size _ _) := x1
    clear hW x1 x2 hbW ho
    refine (inForm_any false _ _ _ [N % 4294967296, N / 4294967296] _ HO.out.sl).mono ?_
    rintro e w3 ⟨v3, rfl, hf3, hb3⟩
    rw [HV.out] at hf3
    have HF3 : Hid (FormR _ _ _ _ v3 _ _) := hf3
    obtain ⟨ao', k', cap', r', rfl, h1, h2, h3, h4⟩ := hf3.ex
    have HB3 : Hid (Below _ _ w3) := hb3
    have X33 := X1.out.below hb3 X1.out.lt
    have z0 := X33.z0
    have z1 := X33.z1
    have f0 := X33.f0
    have f1 := X33.f1
    clear hf3 h1 h2 h3 h4 hb3 X33
    go_wp2_with fail
    have ho2 := ((HO.out.below HB3.out (Nat.le_refl _)).setCell (a := ⟨w.heap.size, 0, none⟩) (by show w.heap.size < w.heap.size + 1; omega) (.bool (sgB false N))).setCell (a := ⟨w.heap.size, 1, none⟩) (by show w.heap.size < w.heap.size + 1; omega) (.slice ao' k' cap')
    refine bodyPost_ret (v := .agg #[.bool (sgB false N), .slice ao' k' cap']) (by simp [results, Tryd.results34, go_sem, z0, z1]) rfl ⟨_, rfl, HF3.out.int ho2.sl (ho2.mono (by omega)).base, ?_⟩
    exact (((HBW.out.trans (HB3.out.mono (by omega))).setCell (p := ⟨w.heap.size, 0, none⟩) (Nat.le_refl _) _).setCell (p := ⟨w.heap.size, 1, none⟩) (Nat.le_refl _) _)
  · have h1 := hn rfl
    have hwr : IntKind.u64.wrap (-IntKind.u64.wrap (-(N : Int))) = (N : Int) := by rw [IntKind.wrap_u64, IntKind.wrap_u64]; omega
    clear hn hp
    go_enter Tryd.func34, Tryd.ntmps34
    go_wp2_with fail
    rw [E1.out, E2.out]
    generalize hW : (World.alloc _ _) = W
    obtain ⟨x1, x2, hbW, hzW⟩ := boxes2 w _ _ _ _ _ _ 0 hW
    have ho := own_two (base := w.heap.size + 1) x2 (by omega) (by omega) (Nat.le_refl _)
    have HO : Hid (Own W _ _ _ _ _) := ho
    have HBW : Hid (Below w.heap.size w W) := hbW
    have X1 : Hid (Box W w.heap.size _ _) := x1
    clear hW x1 x2 hbW ho
    refine (inForm_any true _ _ _ [N % 4294967296, N / 4294967296] _ HO.out.sl).mono ?_
    rintro e w3 ⟨v3, rfl, hf3, hb3⟩
    rw [HV.out] at hf3
    have HF3 : Hid (FormR _ _ _ _ v3 _ _) := hf3
    obtain ⟨ao', k', cap', r', rfl, h1, h2, h3, h4⟩ := hf3.ex
    have HB3 : Hid (Below _ _ w3) := hb3
    have X33 := X1.out.below hb3 X1.out.lt
    have z0 := X33.z0
    have z1 := X33.z1
    have f0 := X33.f0
    have f1 := X33.f1
    clear hf3 h1 h2 h3 h4 hb3 X33
    go_wp2_with fail
    have ho2 := ((HO.out.below HB3.out (Nat.le_refl _)).setCell (a := ⟨w.heap.size, 0, none⟩) (by show w.heap.size < w.heap.size + 1; omega) (.bool (sgB true N))).setCell (a := ⟨w.heap.size, 1, none⟩) (by show w.heap.size < w.heap.size + 1; omega) (.slice ao' k' cap')
    refine bodyPost_ret (v := .agg #[.bool (sgB true N), .slice ao' k' cap']) (by simp [results, Tryd.results34, go_sem, z0, z1]) rfl ⟨_, rfl, HF3.out.int ho2.sl (ho2.mono (by omega)).base, ?_⟩
    exact (((HBW.out.trans (HB3.out.mono (by omega))).setCell (p := ⟨w.heap.size, 0, none⟩) (Nat.le_refl _) _).setCell (p := ⟨w.heap.size, 1, none⟩) (Nat.le_refl _) _)
theorem of_any (v : Int) (w : World) (h0 : -9223372036854775808 ≤ v) (h1 : v ≤ 9223372036854775807) :
    Calls Tryd.prog 34 #[.int .i64 v] w fun e w' => ∃ x, e = .returned x ∧ IntR w' w.heap.size x (sgB (decide (v < 0)) v.natAbs) v.natAbs ∧ Below w.heap.size w w' := by
  by_cases hv : v < 0
  · have := of_abs v.natAbs true w (by omega) (fun _ => by omega) (fun h => by cases h)
    rw [if_pos rfl, show -(v.natAbs : Int) = v from by omega] at this
    rw [decide_eq_true hv]
    exact this
  · have := of_abs v.natAbs false w (by omega) (fun h => by cases h) (fun _ => by omega)
    rw [if_neg (by simp), show (v.natAbs : Int) = v from by omega] at this
    rw [decide_eq_false hv]
    exact this
end Go.Proofs.YtfkkhabpnnealaaDoor

