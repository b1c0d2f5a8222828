/-
  SpansIndent, called in whatever memory: it returns true and leaves all that lay there as it was.
-/
import Derived.Test.YtbgkdofjndocfabDoorWalkI
import Derived.Test.YtbgkdofjndocfabDoorWalkN
import Derived.Deep.RegionHeld3
import Derived.Deep.DrawnRows
import Derived.Deep.AppendLies
import Derived.Deep.Onto
namespace Go.Proofs.YtbgkdofjndocfabDoor
open Go.RowKit
attribute [local go_sem ↓] Go.wp_at_zero Go.wp_at_succ
theorem ne_toList {b : ByteArray} (h0 : 0 < b.size) : ¬ b.toList = [] := by
  rw [ByteArray.toList_eq]
  intro h
  have h1 : b.data.toList.length = 0 := by rw [h]; rfl
  rw [Array.length_toList] at h1
  exact absurd h1 (show b.size ≠ 0 by omega)
theorem eq_toList {b : ByteArray} (h0 : b.size = 0) : b.toList = [] := by
  rw [ByteArray.toList_eq]
  exact List.eq_nil_of_length_eq_zero (by rw [Array.length_toList]; exact h0)
theorem em_toList {b : ByteArray} (h0 : 0 < b.size) : b.toList.isEmpty = false := by
  have := ne_toList h0
  simpa using this
set_option maxRecDepth 100000 in
set_option maxHeartbeats 1000000 in
theorem ind_o1 (a b : ByteArray) (n at_ : Int) (w : World) (h : 200 < (a.size : Int)) :
    Calls Tryd.prog 3 #[.string a, .int .i64 n, .string b, .int .i64 at_] w fun e w' => e = .returned (.bool true) ∧ Below w.heap.size w w' := by
  go_enter Tryd.func3, Tryd.ntmps3
  go_wp2_with (go_at_call 4; refine (awake_any _).mono ?_; rintro e w1 ⟨rfl, hb⟩)
  go_ret
  exact ⟨rfl, hb⟩
set_option maxRecDepth 100000 in
set_option maxHeartbeats 1000000 in
theorem ind_o2 (a b : ByteArray) (n at_ : Int) (w : World) (ha : ¬ 200 < (a.size : Int)) (h : 200 < (b.size : Int)) :
    Calls Tryd.prog 3 #[.string a, .int .i64 n, .string b, .int .i64 at_] w fun e w' => e = .returned (.bool true) ∧ Below w.heap.size w w' := by
  go_enter Tryd.func3, Tryd.ntmps3
  go_wp2_with (go_at_call 4; refine (awake_any _).mono ?_; rintro e w1 ⟨rfl, hb⟩)
  go_ret
  exact ⟨rfl, hb⟩
set_option maxRecDepth 100000 in
set_option maxHeartbeats 1000000 in
theorem ind_o3 (a b : ByteArray) (n at_ : Int) (w : World) (ha : ¬ 200 < (a.size : Int)) (hb2 : ¬ 200 < (b.size : Int)) (h : n < 0) :
    Calls Tryd.prog 3 #[.string a, .int .i64 n, .string b, .int .i64 at_] w fun e w' => e = .returned (.bool true) ∧ Below w.heap.size w w' := by
  go_enter Tryd.func3, Tryd.ntmps3
  go_wp2_with (go_at_call 4; refine (awake_any _).mono ?_; rintro e w1 ⟨rfl, hb⟩)
  go_ret
  exact ⟨rfl, hb⟩
set_option maxRecDepth 100000 in
set_option maxHeartbeats 1000000 in
theorem ind_o4 (a b : ByteArray) (n at_ : Int) (w : World) (ha : ¬ 200 < (a.size : Int)) (hb2 : ¬ 200 < (b.size : Int)) (h3 : ¬ n < 0) (h : 40 < n) :
    Calls Tryd.prog 3 #[.string a, .int .i64 n, .string b, .int .i64 at_] w fun e w' => e = .returned (.bool true) ∧ Below w.heap.size w w' := by
  go_enter Tryd.func3, Tryd.ntmps3
  go_wp2_with (go_at_call 4; refine (awake_any _).mono ?_; rintro e w1 ⟨rfl, hb⟩)
  go_ret
  exact ⟨rfl, hb⟩
set_option maxRecDepth 100000 in
set_option maxHeartbeats 1000000 in
theorem ind_o5 (a b : ByteArray) (n at_ : Int) (w : World) (ha : ¬ 200 < (a.size : Int)) (hb2 : ¬ 200 < (b.size : Int)) (h3 : ¬ n < 0) (h4 : ¬ 40 < n) (h0 : 0 < b.size) (h5 : (((b[0]'h0).toNat : Int) == 32) = true) :
    Calls Tryd.prog 3 #[.string a, .int .i64 n, .string b, .int .i64 at_] w fun e w' => e = .returned (.bool true) ∧ Below w.heap.size w w' := by
  have e1 := ne_toList h0
  have e2 := em_toList h0
  go_enter Tryd.func3, Tryd.ntmps3
  go_wp2_with (go_at_call 4; refine (awake_any _).mono ?_; rintro e w1 ⟨rfl, hb⟩)
  go_ret
  exact ⟨rfl, hb⟩
set_option maxRecDepth 100000 in
set_option maxHeartbeats 1000000 in
theorem ind_o6 (a b : ByteArray) (n at_ : Int) (w : World) (ha : ¬ 200 < (a.size : Int)) (hb2 : ¬ 200 < (b.size : Int)) (h3 : ¬ n < 0) (h4 : ¬ 40 < n) (h0 : 0 < b.size) (h5 : (((b[0]'h0).toNat : Int) == 32) = false) (h6 : (((b[0]'h0).toNat : Int) == 9) = true) :
    Calls Tryd.prog 3 #[.string a, .int .i64 n, .string b, .int .i64 at_] w fun e w' => e = .returned (.bool true) ∧ Below w.heap.size w w' := by
  have e1 := ne_toList h0
  have e2 := em_toList h0
  go_enter Tryd.func3, Tryd.ntmps3
  go_wp2_with (go_at_call 4; refine (awake_any _).mono ?_; rintro e w1 ⟨rfl, hb⟩)
  go_ret
  exact ⟨rfl, hb⟩
theorem headBl {b : ByteArray} (h0 : (b.toList = [] ∧ b.toList.isEmpty = true) ∨ (∃ h0 : 0 < b.size, ¬ b.toList = [] ∧ b.toList.isEmpty = false ∧ (((b[0]'h0).toNat : Int) == 32) = false ∧ (((b[0]'h0).toNat : Int) == 9) = false)) : ∀ x, b.data.toList.head? = some x → isBl x = false := by
  intro x hx
  rcases h0 with ⟨e, _⟩ | ⟨h, _, _, h1, h2⟩
  · rw [ByteArray.toList_eq] at e
    rw [e] at hx
    simp at hx
  · rw [List.head?_eq_getElem?] at hx
    have hg : b.data.toList[0]? = some (b[0]'h) := by simp [ByteArray.getElem_eq_getElem_data]
    rw [hg] at hx
    simp only [Option.some.injEq] at hx
    rw [hx] at h1 h2
    unfold isBl
    simp only [beq_eq_false_iff_ne, ne_eq] at h1 h2
    have n1 : x ≠ 32 := fun e => h1 (by rw [e]; rfl)
    have n2 : x ≠ 9 := fun e => h2 (by rw [e]; rfl)
    simp [n1, n2]
theorem noTen {b : ByteArray} (h : ∀ m (h : m < b.size), m < b.size → ((b[m]'h).toNat : Int) ≠ 10) : ∀ x ∈ b.data.toList, x ≠ 10 := by
  intro x hx e
  obtain ⟨i, hi, hxi⟩ := List.getElem_of_mem hx
  have hi' : i < b.size := by simpa using hi
  refine h i hi' hi' ?_
  have : b[i]'hi' = x := by rw [← hxi]; rfl
  rw [this, e]
  rfl
set_option maxRecDepth 100000 in
theorem info5_ex : ∃ i0, Tryd.prog.info? 5 = some i0 ∧ i0.zero = some (.int .u8 0) ∧ i0.size = 1 ∧ i0.bytes = 1 := ⟨_, rfl, rfl, rfl, rfl⟩
theorem news_top5 (w : World) (u : Value) : ∀ j x, [u][j]? = some x → (w.alloc (.cells #[u] 5)).cell? ((⟨w.heap.size, 0, none⟩ : Addr).add j) = some x :=
  World.news_of_block (w := w.alloc (.cells #[u] 5)) (heap_alloc_new w (.cells #[u] 5))
set_option maxRecDepth 100000 in
set_option maxHeartbeats 1000000 in
theorem ind_in (a b : ByteArray) (n : Nat) (at_ : Int) (w : World) (ha : ¬ 200 < (a.size : Int)) (hb2 : ¬ 200 < (b.size : Int)) (h4 : n ≤ 40) (hat1 : -9223372036854775808 ≤ at_) (hat2 : at_ ≤ 9223372036854775807)
    (h0 : (b.toList = [] ∧ b.toList.isEmpty = true) ∨ (∃ h0 : 0 < b.size, ¬ b.toList = [] ∧ b.toList.isEmpty = false ∧ (((b[0]'h0).toNat : Int) == 32) = false ∧ (((b[0]'h0).toNat : Int) == 9) = false)) :
    Calls Tryd.prog 3 #[.string a, .int .i64 n, .string b, .int .i64 at_] w fun e w' => e = .returned (.bool true) ∧ Below w.heap.size w w' := by
  have HHEAD : Hid (∀ x, b.data.toList.head? = some x → isBl x = false) := headBl h0
  have z1 : ¬ (n : Int) < 0 := by omega
  have z2 : ¬ 40 < (n : Int) := by omega
  obtain ⟨info5, HI⟩ := info5_ex
  have HI : Hid (Tryd.prog.info? 5 = some info5 ∧ info5.zero = some (.int .u8 0) ∧ info5.size = 1 ∧ info5.bytes = 1) := HI
  rcases h0 with ⟨e1, e2⟩ | ⟨h0, e1, e2, h5, h6⟩
  all_goals
    go_enter Tryd.func3, Tryd.ntmps3
    go_wp2_with fail
    go_loopw [9, 10] (fun v i w' => ∃ k : Nat, k ≤ n ∧ i = .int .i64 k ∧ w'.ownsRow w.heap.size 5 1 v k ((blk k).map (.int .u8)) ∧ Below w.heap.size w w') (fun _ i _ => n - (intOf i).toNat)
    case atStart => exact ⟨0, by omega, rfl, World.ownsRow_nil _ _ _ _, Below.refl _ _⟩
    case round =>
      obtain ⟨k, hk, rfl, hown, hbl⟩ := hrel
      have HO : Hid (wr.ownsRow w.heap.size 5 1 u9 k ((blk k).map (.int .u8))) := hown
      have HB : Hid (Below w.heap.size w wr) := hbl
      have hz := hbl.size
      clear hown hbl
      by_cases hlt : k < n
      · have hs := blk_succ k
        rcases Nat.mod_two_eq_zero_or_one k with hm | hm
        all_goals
          first | (have hm2 : (k : Int) % 2 = 0 := by omega) | (have hm2 : (k : Int) % 2 = 1 := by omega)
          first | rw [if_pos hm] at hs | rw [if_neg (by omega)] at hs
          have HS := hs
          clear hm hs
          go_wp2_with (at_builtin; refine wpList_append_lies _ rfl _ _ _ rfl w.heap.size 5 info5 _ 1 1 Tryd.underlying23 HI.out.1 HI.out.2.1 HI.out.2.2.1 HI.out.2.2.2 rfl (by omega) u9 k _ rfl (HO.out.alloc _) ⟨wr.heap.size, 0, none⟩ 1 1 [_] rfl rfl (news_top5 wr _) (by simp [Value.oneCell']) (by omega) (by unfold maxLen; omega) (by omega) (by simp; omega) (wr.heap.size + 1) (by simp) ?_; intro gg cap w1 hown1 hgrow hat hlt1)
          refine ⟨⟨k + 1, by omega, by go_num, by rw [HS, List.map_append]; exact hown1, ?_⟩, by simp [intOf]; omega⟩
          exact (HB.out.alloc hz _).grown hgrow (by simp; omega) (fun k hk => (HO.out.lt k hk).1)
      · obtain rfl : k = n := by omega
        go_wp2_with fail
        generalize wr = W at *
        go_loopw [11] (fun i w' => ∃ j : Nat, j ≤ b.size ∧ i = .int .i64 j ∧ Hid (∀ m (h : m < b.size), m < j → ((b[m]'h).toNat : Int) ≠ 10) ∧ w' = W) (fun i _ => b.size - (intOf i).toNat)
        case atStart => exact ⟨0, by omega, rfl, fun m _ hm => by omega, rfl⟩
        case round =>
          obtain ⟨j, hj, rfl, HJ, rfl⟩ := hrel
          by_cases hjl : j < b.size
          · by_cases h10 : ((b[j]'hjl).toNat : Int) = 10
            · have h10b : (((b[j]'hjl).toNat : Int) == 10) = true := by simpa using h10
              clear h10
              go_wp2_with (go_at_call 4; refine (awake_any _).mono ?_; rintro e w5 ⟨rfl, hb5⟩)
              go_ret
              exact ⟨rfl, HB.out.trans (hb5.mono hz)⟩
            · have h10b : (((b[j]'hjl).toNat : Int) == 10) = false := by simpa using h10
              have HJ' : Hid (∀ m (h : m < b.size), m < j + 1 → ((b[m]'h).toNat : Int) ≠ 10) := fun m h hm => by
                rcases Nat.lt_or_ge m j with h' | h'
                · exact HJ.out m h h'
                · obtain rfl : m = j := by omega
                  exact h10
              clear h10 HJ
              go_wp2_with fail
              go_roundw
              case rel => exact ⟨j + 1, by omega, by go_num, HJ', trivial⟩
              case measure => simp [intOf]; omega
          · obtain rfl : j = b.size := by omega
            have HCV : Hid (∀ w', w'.ownsRow w.heap.size 5 1 u9 k ((blk k).map (.int .u8)) → (convert 23 9 u9).run Tryd.prog w' = .ok (.string (blB k)) w') := fun w' h => conv_own h
            by_cases ht1 : at_ < 0
            · go_wp2_with (go_at_call 4; refine (awake_any _).mono ?_; rintro e w5 ⟨rfl, hb5⟩)
              go_ret
              exact ⟨rfl, HB.out.trans (hb5.mono hz)⟩
            by_cases ht2 : (k : Int) + (b.size : Int) < at_
            · go_wp2_with (go_at_call 4; refine (awake_any _).mono ?_; rintro e w5 ⟨rfl, hb5⟩)
              go_ret
              exact ⟨rfl, HB.out.trans (hb5.mono hz)⟩
            have hA : a.size ≤ 200 := by omega
            have hBs : b.size ≤ 200 := by omega
            have hbz : (blB k).size = k := by have := congrArg List.length (blB_data k); simpa [blU_len] using this
            obtain ⟨T1, hT1d⟩ : ∃ T1, T1 = a ++ ⟨#[10]⟩ := ⟨_, rfl⟩
            have hT1z : T1.size = a.size + 1 := by rw [hT1d, ByteArray.size_append]; rfl
            have hT1 : ∀ w, (Op.stringOp .add a ⟨#[10]⟩).run Tryd.prog w = .ok (.string T1) w := fun w => by rw [hT1d]; exact run_string_add_sum w _ _ (by rw [show (⟨#[10]⟩ : ByteArray).size = 1 from rfl]; omega)
            obtain ⟨T2, hT2d⟩ : ∃ T2, T2 = T1 ++ blB k := ⟨_, rfl⟩
            have hT2z : T2.size = a.size + 1 + k := by rw [hT2d, ByteArray.size_append, hT1z, hbz]
            have hT2 : ∀ w, (Op.stringOp .add T1 (blB k)).run Tryd.prog w = .ok (.string T2) w := fun w => by rw [hT2d]; exact run_string_add_sum w _ _ (by omega)
            obtain ⟨T3, hT3d⟩ : ∃ T3, T3 = T2 ++ b := ⟨_, rfl⟩
            have hT3z : T3.size = a.size + 1 + k + b.size := by rw [hT3d, ByteArray.size_append, hT2z]
            have hT3 : ∀ w, (Op.stringOp .add T2 b).run Tryd.prog w = .ok (.string T3) w := fun w => by rw [hT3d]; exact run_string_add_sum w _ _ (by omega)
            have HT : Hid (T3.data.toList = a.data.toList ++ 10 :: (blU k ++ b.data.toList)) := by
              show T3.data.toList = _
              rw [hT3d, hT2d, hT1d, ← blB_data k]
              simp [ByteArray.data_append]
            obtain ⟨m, rfl⟩ : ∃ m : Nat, at_ = m := ⟨at_.toNat, by omega⟩
            have HR : Hid (((T3.data.toList.drop (bgT T3.data.toList (a.size + 1 + m))).takeWhile isBl) = blU k) := by
              show ((T3.data.toList.drop (bgT T3.data.toList (a.size + 1 + m))).takeWhile isBl) = blU k
              rw [HT.out]
              have e : a.size + 1 + m = a.data.toList.length + 1 + m := by simp
              rw [e]
              exact ind_math _ _ k m (noTen HJ.out) HHEAD.out
            have h5 : ∀ w, Calls Tryd.prog 5 #[.string T3, .int .i64 ((a.size : Int) + 1 + (m : Int))] w fun e w' => e = .returned (.string (blB k)) ∧ Below w.heap.size w w' := fun w => by
              have := indent_any T3 ((a.size : Int) + 1 + (m : Int)) (a.size + 1 + m) w (by omega) (by omega)
              rw [HR.out, ← blB_data k] at this
              exact this
            have hx1 : ¬ (k : Int) + (b.size : Int) < (m : Int) := by omega
            have hw1 : IntKind.i64.wrap ((a.size : Int) + 1) = (a.size : Int) + 1 := IntWalk.i64_in _ (by omega)
            have hw2 : IntKind.i64.wrap ((a.size : Int) + 1 + (m : Int)) = (a.size : Int) + 1 + (m : Int) := IntWalk.i64_in _ (by omega)
            clear hT1d hT2d hT3d hT1z hT2z hT3z HR HT hbz
            generalize blB k = bl at *
            go_wp2_with fail
            go_region_held3 (fun w' => (convert 23 9 u9).run Tryd.prog w' = .ok (.string bl) w') (first | exact HCV.out _ HO.out.drew | exact HCV.out _ (own_below HO.out.drew hb5) | exact HCV.out _ (own_below (own_below HO.out.drew hb5) hb6))
              (first | (go_at_call 5; refine (h5 _).mono ?_; rintro e w5 ⟨rfl, hb5⟩) | (go_at_call 4; refine (awake_any _).mono ?_; rintro e w6 ⟨rfl, hb6⟩))
            go_wp2
            go_ret
            exact ⟨rfl, (HB.out.drew.trans (hb5.mono hz)).trans (hb6.mono (Nat.le_trans hz hb5.size))⟩
end Go.Proofs.YtbgkdofjndocfabDoor
