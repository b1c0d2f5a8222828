/-
  KonstLong: for all ints the law answers true.
-/
import Derived.Test.YtfkkhabpnnealaaDoorLng
namespace Go.Proofs.YtfkkhabpnnealaaDoor
open Go.RowKit
attribute [local go_sem ↓] Go.wp_at_zero Go.wp_at_succ
set_option maxRecDepth 100000 in
set_option maxHeartbeats 4000000 in
theorem long_out (a b : Int) (w : World) (h : ¬ (0 ≤ a ∧ a ≤ 70000 ∧ 0 ≤ b ∧ b ≤ 70000)) :
    Calls Tryd.prog 4 #[.int .i64 a, .int .i64 b] w fun e w' => e = .returned (.bool true) ∧ Below w.heap.size w w' := by
  by_cases h1 : a < 0
  · go_enter Tryd.func4, Tryd.ntmps4
    go_wp2_with (go_at_call 8; refine (awake_any _).mono ?_; rintro e x1 ⟨rfl, hb⟩; have HB : Hid (Below w.heap.size w x1) := hb; clear hb)
    go_ret
    exact ⟨rfl, HB.out⟩
  by_cases h2 : 70000 < a
  · go_enter Tryd.func4, Tryd.ntmps4
    go_wp2_with (go_at_call 8; refine (awake_any _).mono ?_; rintro e x1 ⟨rfl, hb⟩; have HB : Hid (Below w.heap.size w x1) := hb; clear hb)
    go_ret
    exact ⟨rfl, HB.out⟩
  by_cases h3 : b < 0
  · go_enter Tryd.func4, Tryd.ntmps4
    go_wp2_with (go_at_call 8; refine (awake_any _).mono ?_; rintro e x1 ⟨rfl, hb⟩; have HB : Hid (Below w.heap.size w x1) := hb; clear hb)
    go_ret
    exact ⟨rfl, HB.out⟩
  have h4 : 70000 < b := by omega
  go_enter Tryd.func4, Tryd.ntmps4
  go_wp2_with (go_at_call 8; refine (awake_any _).mono ?_; rintro e x1 ⟨rfl, hb⟩; have HB : Hid (Below w.heap.size w x1) := hb; clear hb)
  go_ret
  exact ⟨rfl, HB.out⟩
set_option maxRecDepth 100000 in
set_option maxHeartbeats 8000000 in
theorem long_in (a b : Nat) (w : World) (h1 : a ≤ 70000) (h2 : b ≤ 70000) :
    Calls Tryd.prog 4 #[.int .i64 a, .int .i64 b] w fun e w' => e = .returned (.bool true) ∧ Below w.heap.size w w' := by
  have g1 : ¬ (a : Int) < 0 := by omega
  have g2 : ¬ 70000 < (a : Int) := by omega
  have g3 : ¬ (b : Int) < 0 := by omega
  have g4 : ¬ 70000 < (b : Int) := by omega
  have HBN : Hid (∀ W, Below w.heap.size w W → Calls Tryd.prog 9 #[.string ⟨#[43]⟩, cnV 2 false none 0 0 (zs a) false, cnV 2 false none 0 0 (zs b) false] W (AnsQ W (if 65536 < a + b then noA 2 else ⟨2, false, 0, zs a ++ zs b, false, 0⟩))) := fun W _ => by
    have := kbin_any ⟨#[43]⟩ 2 2 false false none 0 0 [] none 0 0 [] (zs a) (zs b) false false W (Sl.nil _) (Sl.nil _) (by omega) (by omega) (by rw [zs_size]; omega) (by rw [zs_size]; omega)
    have hA : bnK ⟨#[43]⟩ 2 false (vl 4294967296 []) (zs a) false 2 false (vl 4294967296 []) (zs b) false = if 65536 < a + b then noA 2 else ⟨2, false, 0, zs a ++ zs b, false, 0⟩ := by
      simp [bnK, bkA, tkB, zs_size]
    rwa [hA] at this
  have hw : IntKind.i64.wrap ((a : Int) + (b : Int)) = (a : Int) + (b : Int) := wrap_small _ (by omega) (by omega)
  by_cases hg : 65536 < a + b
  · rw [if_pos hg] at HBN
    have hg2 : (65536 : Int) < (a : Int) + (b : Int) := by omega
    go_enter Tryd.func4, Tryd.ntmps4
    go_wp2_with fail
    refine wp_region_held_drew (S := fun _ => True) (by kernel_rfl) trivial (fun hHeld => ?_)
    clear hHeld
    refine wpAnyH_take (i := 0) (oi := { dst := some 23, op := Op.move (Operand.tmp 0), type := 3, pos := "law.go:48", after := #[], guard := none }) (v := ?_) rfl (by kernel_rfl) (by kernel_rfl) (by kernel_rfl) (fun _ _ _ h => h) (Or.inl ⟨by rfl, ?_⟩) trivial ?_
    rotate_left
    · intro w hSw; (try dsimp only at hSw); (go_simp <;> with_reducible rfl)
    try simp only [Act.put, List.setIfInBounds_toArray, List.set_cons_zero, List.set_cons_succ]
    refine wpAnyH_take (i := 4) (oi := { dst := some 27, op := Op.move (Operand.tmp 1), type := 3, pos := "law.go:48", after := #[], guard := none }) (v := ?_) rfl (by kernel_rfl) (by kernel_rfl) (by kernel_rfl) (fun _ _ _ h => h) (Or.inl ⟨by rfl, ?_⟩) trivial ?_
    rotate_left
    · intro w hSw; (try dsimp only at hSw); (go_simp <;> with_reducible rfl)
    try simp only [Act.put, List.setIfInBounds_toArray, List.set_cons_zero, List.set_cons_succ]
    refine reg_long _ a b h1 h2 _ w _ _ _ _ _ _ _ _ _ _ _ _ _ _ _ _ _ _ _ _ _ _ _ _ _ _ _ _ _ _ _ _ _ _ _ _ _ _ _ _ _ _ _ _ _ _ _ _ _ _ _ _ _ _ _ _ _ _ HBN.out (fun _ _ _ _ _ h => h) ?_ _ ((Below.refl _ w).drew)
    intro W gA gB gC aq nq cq hb hC
    have HBW : Hid (Below w.heap.size w W) := hb
    have k5 := bx5 hC
    have k5f := bx5f hC
    clear hb hC HBN
    dsimp only [noA] at k5 k5f ⊢
    go_wp2_with (go_at_call 8; refine (awake_any _).mono ?_; rintro e x1 ⟨rfl, hb⟩; have HB : Hid (Below w.heap.size w x1) := HBW.out.trans (hb.mono HBW.out.size); clear hb)
    go_ret
    exact ⟨rfl, HB.out⟩
  · rw [if_neg hg] at HBN
    have hg2 : ¬ (65536 : Int) < (a : Int) + (b : Int) := by omega
    have hz : (zs a ++ zs b).size = a + b := by rw [ByteArray.size_append, zs_size, zs_size]
    have HZ : Hid ((zs a ++ zs b).size = a + b) := hz
    clear hz
    go_enter Tryd.func4, Tryd.ntmps4
    go_wp2_with fail
    refine wp_region_held_drew (S := fun _ => True) (by kernel_rfl) trivial (fun hHeld => ?_)
    clear hHeld
    refine wpAnyH_take (i := 0) (oi := { dst := some 23, op := Op.move (Operand.tmp 0), type := 3, pos := "law.go:48", after := #[], guard := none }) (v := ?_) rfl (by kernel_rfl) (by kernel_rfl) (by kernel_rfl) (fun _ _ _ h => h) (Or.inl ⟨by rfl, ?_⟩) trivial ?_
    rotate_left
    · intro w hSw; (try dsimp only at hSw); (go_simp <;> with_reducible rfl)
    try simp only [Act.put, List.setIfInBounds_toArray, List.set_cons_zero, List.set_cons_succ]
    refine wpAnyH_take (i := 4) (oi := { dst := some 27, op := Op.move (Operand.tmp 1), type := 3, pos := "law.go:48", after := #[], guard := none }) (v := ?_) rfl (by kernel_rfl) (by kernel_rfl) (by kernel_rfl) (fun _ _ _ h => h) (Or.inl ⟨by rfl, ?_⟩) trivial ?_
    rotate_left
    · intro w hSw; (try dsimp only at hSw); (go_simp <;> with_reducible rfl)
    try simp only [Act.put, List.setIfInBounds_toArray, List.set_cons_zero, List.set_cons_succ]
    refine reg_long _ a b h1 h2 _ w _ _ _ _ _ _ _ _ _ _ _ _ _ _ _ _ _ _ _ _ _ _ _ _ _ _ _ _ _ _ _ _ _ _ _ _ _ _ _ _ _ _ _ _ _ _ _ _ _ _ _ _ _ _ _ _ _ _ HBN.out (fun _ _ _ _ _ h => h) ?_ _ ((Below.refl _ w).drew)
    intro W gA gB gC aq nq cq hb hC
    have HBW : Hid (Below w.heap.size w W) := hb
    have k5 := bx5 hC
    have k5f := bx5f hC
    clear hb hC HBN
    dsimp only [noA] at k5 k5f ⊢
    have hz := HZ.out
    go_wp2_with (go_at_call 8; refine (awake_any _).mono ?_; rintro e x1 ⟨rfl, hb⟩; have HB : Hid (Below w.heap.size w x1) := HBW.out.trans (hb.mono HBW.out.size); clear hb)
    go_ret
    exact ⟨rfl, HB.out⟩
theorem long_any (a b : Int) (w : World) :
    Calls Tryd.prog 4 #[.int .i64 a, .int .i64 b] w fun e w' => e = .returned (.bool true) ∧ Below w.heap.size w w' := by
  by_cases h : 0 ≤ a ∧ a ≤ 70000 ∧ 0 ≤ b ∧ b ≤ 70000
  · obtain ⟨n, rfl⟩ := Int.eq_ofNat_of_zero_le h.1
    obtain ⟨m, rfl⟩ := Int.eq_ofNat_of_zero_le h.2.2.1
    exact long_in n m w (by omega) (by omega)
  · exact long_out a b w h
end Go.Proofs.YtfkkhabpnnealaaDoor

