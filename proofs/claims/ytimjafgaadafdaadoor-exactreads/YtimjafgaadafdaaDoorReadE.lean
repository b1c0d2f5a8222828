/-
  The contract of the document's own Parse at every text.
-/
import Derived.Test.YtimjafgaadafdaaDoorReadD
import Derived.Test.YtimjafgaadafdaaDoorRefQ
namespace Go.Proofs.YtimjafgaadafdaaDoor
open Go.RowKit
attribute [local go_sem ↓] Go.wp_at_zero Go.wp_at_succ
theorem lead_ok {S : ByteArray} (hp : 0 < S.size) (h0 : bt S 0 = 48 → S = ⟨#[48]⟩) {kb zb : Bool} (hK : (S.toList == [48]) = kb) (hZ : (((S[0]'hp).toNat : Int) == 48) = zb) : (zb && !kb) = false := by
  by_cases h : bt S 0 = 48
  · have := tl_zero (h0 h)
    rw [hK] at this
    rw [this]; simp
  · rw [← hZ, bt_at S 0 hp]
    have : ((bt S 0 : Int) == 48) = false := by rw [beq_eq_false_iff_ne]; omega
    rw [this]; rfl
set_option maxHeartbeats 2000000 in
theorem rparse_none (S : ByteArray) (w : World) (h : S.size = 0) :
    Calls Tryd.prog 27 #[.string S] w fun e w' => e = .returned (.tuple #[.agg #[.bool false, .slice none 0 0], .int .i64 3]) ∧ Below w.heap.size w w' := by
  have hE := tl_none h
  have X0 : Hid (Box (w.alloc (Obj.cells #[Value.bool false, Value.slice none 0 0] 24)) w.heap.size (.bool false) (.slice none 0 0)) := Box.new _ _ _ _
  have HB0 : Hid (Below w.heap.size w (w.alloc (Obj.cells #[Value.bool false, Value.slice none 0 0] 24))) := (Below.refl _ _).alloc (Nat.le_refl _) _
  go_enter Tryd.func27, Tryd.ntmps27
  have z0 := X0.out.z0
  have z1 := X0.out.z1
  have f0 := X0.out.f0
  have f1 := X0.out.f1
  go_wp2_with fail
  refine bodyPost_ret (v := .tuple #[.agg #[.bool false, .slice none 0 0], .int .i64 3]) (by simp [results, Tryd.results27, go_sem, z0, z1]) rfl ⟨rfl, ?_⟩
  exact HB0.out
set_option maxHeartbeats 2000000 in
theorem rparse_lead (S : ByteArray) (w : World) (h : 1 < S.size) (h0 : bt S 0 = 48) :
    Calls Tryd.prog 27 #[.string S] w fun e w' => e = .returned (.tuple #[.agg #[.bool false, .slice none 0 0], .int .i64 3]) ∧ Below w.heap.size w w' := by
  have hp : 0 < S.size := by omega
  have hb := bt_at S 0 hp
  rw [h0] at hb
  have hb2 : ((S[0]'hp).toNat : Int) = 48 := by rw [hb]; rfl
  have hE := tl_empty hp
  have hK := tl_long (S := S) (by omega)
  clear hb h0
  have X0 : Hid (Box (w.alloc (Obj.cells #[Value.bool false, Value.slice none 0 0] 24)) w.heap.size (.bool false) (.slice none 0 0)) := Box.new _ _ _ _
  have HB0 : Hid (Below w.heap.size w (w.alloc (Obj.cells #[Value.bool false, Value.slice none 0 0] 24))) := (Below.refl _ _).alloc (Nat.le_refl _) _
  go_enter Tryd.func27, Tryd.ntmps27
  have z0 := X0.out.z0
  have z1 := X0.out.z1
  have f0 := X0.out.f0
  have f1 := X0.out.f1
  go_wp2_with fail
  refine bodyPost_ret (v := .tuple #[.agg #[.bool false, .slice none 0 0], .int .i64 3]) (by simp [results, Tryd.results27, go_sem, z0, z1]) rfl ⟨rfl, ?_⟩
  exact HB0.out
set_option maxHeartbeats 4000000 in
theorem rparse_dig (S : ByteArray) (w : World) (hp : 0 < S.size) (hs : S.size ≤ 1000000) (h0 : bt S 0 = 48 → S = ⟨#[48]⟩) (hN : ¬ ∀ i, i < S.size → 48 ≤ bt S i ∧ bt S i ≤ 57) :
    Calls Tryd.prog 27 #[.string S] w fun e w' => e = .returned (.tuple #[.agg #[.bool false, .slice none 0 0], .int .i64 3]) ∧ Below w.heap.size w w' := by
  have HN : Hid (¬ ∀ i, i < S.size → 48 ≤ bt S i ∧ bt S i ≤ 57) := hN
  clear hN
  have hE := tl_empty hp
  obtain ⟨kb, hK⟩ : ∃ kb, (S.toList == [48]) = kb := ⟨_, rfl⟩
  obtain ⟨zb, hZ⟩ : ∃ zb, (((S[0]'hp).toNat : Int) == 48) = zb := ⟨_, rfl⟩
  have hkz := lead_ok hp h0 hK hZ
  clear h0
  have X0 : Hid (Box (w.alloc (Obj.cells #[Value.bool false, Value.slice none 0 0] 24)) w.heap.size (.bool false) (.slice none 0 0)) := Box.new _ _ _ _
  have HB0 : Hid (Below w.heap.size w (w.alloc (Obj.cells #[Value.bool false, Value.slice none 0 0] 24))) := (Below.refl _ _).alloc (Nat.le_refl _) _
  go_enter Tryd.func27, Tryd.ntmps27
  cases zb <;> cases kb
  · go_wp2_with fail
    go_loopw [4] (fun iv wr => ∃ k : Nat, k ≤ S.size ∧ iv = .int .i64 k ∧ Hid (∀ i, i < k → 48 ≤ bt S i ∧ bt S i ≤ 57) ∧ Hid (Below w.heap.size w wr) ∧ Hid (Box wr w.heap.size (.bool false) (.slice none 0 0))) (fun iv _ => S.size - (intOf iv).toNat)
    case atStart => exact ⟨0, Nat.zero_le _, rfl, (fun i hi => by omega), HB0, X0⟩
    case round =>
      clear HB0 X0
      obtain ⟨k, hk, rfl, HD, HB, X1⟩ := hrel
      by_cases hlt : k < S.size
      · have hbt := bt_at S k hlt
        obtain ⟨x, hx⟩ : ∃ x, x = bt S k := ⟨_, rfl⟩
        have hb2 : ((S[k]'hlt).toNat : Int) = (x : Int) := by rw [hbt, hx]
        have HX : Hid (x = bt S k) := hx
        clear hbt hx
        by_cases h1 : x < 48
        · have z0 := X1.out.z0
          have z1 := X1.out.z1
          have f0 := X1.out.f0
          have f1 := X1.out.f1
          go_wp2_with fail
          refine bodyPost_ret (v := .tuple #[.agg #[.bool false, .slice none 0 0], .int .i64 3]) (by simp [results, Tryd.results27, go_sem, z0, z1]) rfl ⟨rfl, ?_⟩
          exact below_set2 HB.out (Nat.le_refl _) _ _
        · by_cases h2 : 57 < x
          · have z0 := X1.out.z0
            have z1 := X1.out.z1
            have f0 := X1.out.f0
            have f1 := X1.out.f1
            go_wp2_with fail
            refine bodyPost_ret (v := .tuple #[.agg #[.bool false, .slice none 0 0], .int .i64 3]) (by simp [results, Tryd.results27, go_sem, z0, z1]) rfl ⟨rfl, ?_⟩
            exact below_set2 HB.out (Nat.le_refl _) _ _
          · go_wp2_with fail
            go_roundw
            case rel => exact ⟨k + 1, by omega, by go_num, dig_step HD.out HX.out h1 h2, HB, X1⟩
            case measure => simp [intOf]; omega
      · obtain rfl : k = S.size := by omega
        exact absurd HD.out HN.out
  · go_wp2_with fail
    go_loopw [4] (fun iv wr => ∃ k : Nat, k ≤ S.size ∧ iv = .int .i64 k ∧ Hid (∀ i, i < k → 48 ≤ bt S i ∧ bt S i ≤ 57) ∧ Hid (Below w.heap.size w wr) ∧ Hid (Box wr w.heap.size (.bool false) (.slice none 0 0))) (fun iv _ => S.size - (intOf iv).toNat)
    case atStart => exact ⟨0, Nat.zero_le _, rfl, (fun i hi => by omega), HB0, X0⟩
    case round =>
      clear HB0 X0
      obtain ⟨k, hk, rfl, HD, HB, X1⟩ := hrel
      by_cases hlt : k < S.size
      · have hbt := bt_at S k hlt
        obtain ⟨x, hx⟩ : ∃ x, x = bt S k := ⟨_, rfl⟩
        have hb2 : ((S[k]'hlt).toNat : Int) = (x : Int) := by rw [hbt, hx]
        have HX : Hid (x = bt S k) := hx
        clear hbt hx
        by_cases h1 : x < 48
        · have z0 := X1.out.z0
          have z1 := X1.out.z1
          have f0 := X1.out.f0
          have f1 := X1.out.f1
          go_wp2_with fail
          refine bodyPost_ret (v := .tuple #[.agg #[.bool false, .slice none 0 0], .int .i64 3]) (by simp [results, Tryd.results27, go_sem, z0, z1]) rfl ⟨rfl, ?_⟩
          exact below_set2 HB.out (Nat.le_refl _) _ _
        · by_cases h2 : 57 < x
          · have z0 := X1.out.z0
            have z1 := X1.out.z1
            have f0 := X1.out.f0
            have f1 := X1.out.f1
            go_wp2_with fail
            refine bodyPost_ret (v := .tuple #[.agg #[.bool false, .slice none 0 0], .int .i64 3]) (by simp [results, Tryd.results27, go_sem, z0, z1]) rfl ⟨rfl, ?_⟩
            exact below_set2 HB.out (Nat.le_refl _) _ _
          · go_wp2_with fail
            go_roundw
            case rel => exact ⟨k + 1, by omega, by go_num, dig_step HD.out HX.out h1 h2, HB, X1⟩
            case measure => simp [intOf]; omega
      · obtain rfl : k = S.size := by omega
        exact absurd HD.out HN.out
  · simp at hkz
  · go_wp2_with fail
    go_loopw [4] (fun iv wr => ∃ k : Nat, k ≤ S.size ∧ iv = .int .i64 k ∧ Hid (∀ i, i < k → 48 ≤ bt S i ∧ bt S i ≤ 57) ∧ Hid (Below w.heap.size w wr) ∧ Hid (Box wr w.heap.size (.bool false) (.slice none 0 0))) (fun iv _ => S.size - (intOf iv).toNat)
    case atStart => exact ⟨0, Nat.zero_le _, rfl, (fun i hi => by omega), HB0, X0⟩
    case round =>
      clear HB0 X0
      obtain ⟨k, hk, rfl, HD, HB, X1⟩ := hrel
      by_cases hlt : k < S.size
      · have hbt := bt_at S k hlt
        obtain ⟨x, hx⟩ : ∃ x, x = bt S k := ⟨_, rfl⟩
        have hb2 : ((S[k]'hlt).toNat : Int) = (x : Int) := by rw [hbt, hx]
        have HX : Hid (x = bt S k) := hx
        clear hbt hx
        by_cases h1 : x < 48
        · have z0 := X1.out.z0
          have z1 := X1.out.z1
          have f0 := X1.out.f0
          have f1 := X1.out.f1
          go_wp2_with fail
          refine bodyPost_ret (v := .tuple #[.agg #[.bool false, .slice none 0 0], .int .i64 3]) (by simp [results, Tryd.results27, go_sem, z0, z1]) rfl ⟨rfl, ?_⟩
          exact below_set2 HB.out (Nat.le_refl _) _ _
        · by_cases h2 : 57 < x
          · have z0 := X1.out.z0
            have z1 := X1.out.z1
            have f0 := X1.out.f0
            have f1 := X1.out.f1
            go_wp2_with fail
            refine bodyPost_ret (v := .tuple #[.agg #[.bool false, .slice none 0 0], .int .i64 3]) (by simp [results, Tryd.results27, go_sem, z0, z1]) rfl ⟨rfl, ?_⟩
            exact below_set2 HB.out (Nat.le_refl _) _ _
          · go_wp2_with fail
            go_roundw
            case rel => exact ⟨k + 1, by omega, by go_num, dig_step HD.out HX.out h1 h2, HB, X1⟩
            case measure => simp [intOf]; omega
      · obtain rfl : k = S.size := by omega
        exact absurd HD.out HN.out
set_option maxHeartbeats 8000000 in
set_option maxRecDepth 100000 in
theorem rparse_big (S : ByteArray) (w : World) (hp : 0 < S.size) (hs : S.size ≤ 1000000) (hb : 200 < S.size) (h0 : bt S 0 = 48 → S = ⟨#[48]⟩) (hN : NumP S) :
    Calls Tryd.prog 27 #[.string S] w fun e w' => e = .returned (.tuple #[.agg #[.bool false, .slice none 0 0], .int .i64 2]) ∧ Below w.heap.size w w' := by
  have HN : Hid (NumP S) := hN
  clear hN
  have hE := tl_empty hp
  obtain ⟨kb, hK⟩ : ∃ kb, (S.toList == [48]) = kb := ⟨_, rfl⟩
  obtain ⟨zb, hZ⟩ : ∃ zb, (((S[0]'hp).toNat : Int) == 48) = zb := ⟨_, rfl⟩
  have hkz := lead_ok hp h0 hK hZ
  clear h0
  have X0 : Hid (Box (w.alloc (Obj.cells #[Value.bool false, Value.slice none 0 0] 24)) w.heap.size (.bool false) (.slice none 0 0)) := Box.new _ _ _ _
  have HB0 : Hid (Below w.heap.size w (w.alloc (Obj.cells #[Value.bool false, Value.slice none 0 0] 24))) := (Below.refl _ _).alloc (Nat.le_refl _) _
  go_enter Tryd.func27, Tryd.ntmps27
  cases zb <;> cases kb
  · go_wp2_with fail
    go_loopw [4] (fun iv wr => ∃ k : Nat, k ≤ S.size ∧ iv = .int .i64 k ∧ Hid (∀ i, i < k → 48 ≤ bt S i ∧ bt S i ≤ 57) ∧ Hid (Below w.heap.size w wr) ∧ Hid (Box wr w.heap.size (.bool false) (.slice none 0 0))) (fun iv _ => S.size - (intOf iv).toNat)
    case atStart => exact ⟨0, Nat.zero_le _, rfl, (fun i hi => by omega), HB0, X0⟩
    case round =>
      clear HB0 X0
      obtain ⟨k, hk, rfl, HD, HB, X1⟩ := hrel
      by_cases hlt : k < S.size
      · have hbt := bt_at S k hlt
        obtain ⟨x, hx⟩ : ∃ x, x = bt S k := ⟨_, rfl⟩
        have hb2 : ((S[k]'hlt).toNat : Int) = (x : Int) := by rw [hbt, hx]
        have HX : Hid (x = bt S k) := hx
        clear hbt hx
        by_cases h1 : x < 48
        · exact absurd (HN.out.dig k hlt) (by rw [← HX.out]; omega)
        · by_cases h2 : 57 < x
          · exact absurd (HN.out.dig k hlt) (by rw [← HX.out]; omega)
          · go_wp2_with fail
            go_roundw
            case rel => exact ⟨k + 1, by omega, by go_num, dig_step HD.out HX.out h1 h2, HB, X1⟩
            case measure => simp [intOf]; omega
      · obtain rfl : k = S.size := by omega
        clear HD
        have z0 := X1.out.z0
        have z1 := X1.out.z1
        have f0 := X1.out.f0
        have f1 := X1.out.f1
        go_wp2_with fail
        refine bodyPost_ret (v := .tuple #[.agg #[.bool false, .slice none 0 0], .int .i64 2]) (by simp [results, Tryd.results27, go_sem, z0, z1]) rfl ⟨rfl, ?_⟩
        exact below_set2 HB.out (Nat.le_refl _) _ _
  · go_wp2_with fail
    go_loopw [4] (fun iv wr => ∃ k : Nat, k ≤ S.size ∧ iv = .int .i64 k ∧ Hid (∀ i, i < k → 48 ≤ bt S i ∧ bt S i ≤ 57) ∧ Hid (Below w.heap.size w wr) ∧ Hid (Box wr w.heap.size (.bool false) (.slice none 0 0))) (fun iv _ => S.size - (intOf iv).toNat)
    case atStart => exact ⟨0, Nat.zero_le _, rfl, (fun i hi => by omega), HB0, X0⟩
    case round =>
      clear HB0 X0
      obtain ⟨k, hk, rfl, HD, HB, X1⟩ := hrel
      by_cases hlt : k < S.size
      · have hbt := bt_at S k hlt
        obtain ⟨x, hx⟩ : ∃ x, x = bt S k := ⟨_, rfl⟩
        have hb2 : ((S[k]'hlt).toNat : Int) = (x : Int) := by rw [hbt, hx]
        have HX : Hid (x = bt S k) := hx
        clear hbt hx
        by_cases h1 : x < 48
        · exact absurd (HN.out.dig k hlt) (by rw [← HX.out]; omega)
        · by_cases h2 : 57 < x
          · exact absurd (HN.out.dig k hlt) (by rw [← HX.out]; omega)
          · go_wp2_with fail
            go_roundw
            case rel => exact ⟨k + 1, by omega, by go_num, dig_step HD.out HX.out h1 h2, HB, X1⟩
            case measure => simp [intOf]; omega
      · obtain rfl : k = S.size := by omega
        clear HD
        have z0 := X1.out.z0
        have z1 := X1.out.z1
        have f0 := X1.out.f0
        have f1 := X1.out.f1
        go_wp2_with fail
        refine bodyPost_ret (v := .tuple #[.agg #[.bool false, .slice none 0 0], .int .i64 2]) (by simp [results, Tryd.results27, go_sem, z0, z1]) rfl ⟨rfl, ?_⟩
        exact below_set2 HB.out (Nat.le_refl _) _ _
  · simp at hkz
  · go_wp2_with fail
    go_loopw [4] (fun iv wr => ∃ k : Nat, k ≤ S.size ∧ iv = .int .i64 k ∧ Hid (∀ i, i < k → 48 ≤ bt S i ∧ bt S i ≤ 57) ∧ Hid (Below w.heap.size w wr) ∧ Hid (Box wr w.heap.size (.bool false) (.slice none 0 0))) (fun iv _ => S.size - (intOf iv).toNat)
    case atStart => exact ⟨0, Nat.zero_le _, rfl, (fun i hi => by omega), HB0, X0⟩
    case round =>
      clear HB0 X0
      obtain ⟨k, hk, rfl, HD, HB, X1⟩ := hrel
      by_cases hlt : k < S.size
      · have hbt := bt_at S k hlt
        obtain ⟨x, hx⟩ : ∃ x, x = bt S k := ⟨_, rfl⟩
        have hb2 : ((S[k]'hlt).toNat : Int) = (x : Int) := by rw [hbt, hx]
        have HX : Hid (x = bt S k) := hx
        clear hbt hx
        by_cases h1 : x < 48
        · exact absurd (HN.out.dig k hlt) (by rw [← HX.out]; omega)
        · by_cases h2 : 57 < x
          · exact absurd (HN.out.dig k hlt) (by rw [← HX.out]; omega)
          · go_wp2_with fail
            go_roundw
            case rel => exact ⟨k + 1, by omega, by go_num, dig_step HD.out HX.out h1 h2, HB, X1⟩
            case measure => simp [intOf]; omega
      · obtain rfl : k = S.size := by omega
        clear HD
        have z0 := X1.out.z0
        have z1 := X1.out.z1
        have f0 := X1.out.f0
        have f1 := X1.out.f1
        go_wp2_with fail
        refine bodyPost_ret (v := .tuple #[.agg #[.bool false, .slice none 0 0], .int .i64 2]) (by simp [results, Tryd.results27, go_sem, z0, z1]) rfl ⟨rfl, ?_⟩
        exact below_set2 HB.out (Nat.le_refl _) _ _
end Go.Proofs.YtimjafgaadafdaaDoor
