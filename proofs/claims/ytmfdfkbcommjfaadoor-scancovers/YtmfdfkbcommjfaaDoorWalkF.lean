/-
  number of the reader, walked.
-/
import Derived.Test.YtmfdfkbcommjfaaDoorWalkE
namespace Go.Proofs.YtmfdfkbcommjfaaDoor
open Go.RowKit
attribute [local go_sem ↓] Go.wp_at_zero Go.wp_at_succ
theorem nat_beq {a b : Nat} (h : a = b) : ((a : Int) == (b : Int)) = true := by subst h; simp
theorem nat_bne {a b : Nat} (h : a ≠ b) : ((a : Int) == (b : Int)) = false := by
  rw [Bool.eq_false_iff]; intro h2; exact h (by have := eq_of_beq h2; omega)
theorem u8_48 (b : UInt8) : (b = 48) ↔ b.toNat = 48 := ⟨fun h => by rw [h]; rfl, fun h => UInt8.toNat_inj.1 h⟩
theorem w32 (b : UInt8) : wrap32 (b.toNat : Int) = b.toNat := by
  have := b.toNat_lt
  unfold wrap32
  omega
theorem bal (E : ByteArray) : E.data.toList.length = E.size := Array.length_toList
theorem bget (E : ByteArray) (i : Nat) (h : i < E.size) : E.data.toList[i]? = some (E[i]'h) := by
  have h2 : i < E.data.toList.length := by rw [bal]; exact h
  rw [List.getElem?_eq_getElem h2]; rfl
theorem numBad_E (E : ByteArray) (n : Nat) (h0 : 0 < E.size) : numBad E.data.toList n = true ↔ 200 < n ∨ (1 < n ∧ (E[0]'h0).toNat = 48) ∨ ∃ h : n < E.size, ltr (E[n]'h) = true := by
  have e0 : (E.data.toList.head? == some 48) = true ↔ (E[0]'h0).toNat = 48 := by
    rw [List.head?_eq_getElem?, bget E 0 h0, beq_iff_eq, Option.some.injEq, u8_48]
  have e1 : (match E.data.toList.drop n with | [] => false | c :: _ => ltr c) = true ↔ ∃ h : n < E.size, ltr (E[n]'h) = true := by
    by_cases h : n < E.size
    · have h2 : n < E.data.toList.length := by rw [bal]; exact h
      rw [List.drop_eq_getElem_cons h2]
      exact ⟨fun q => ⟨h, q⟩, fun q => q.2⟩
    · rw [List.drop_of_length_le (by rw [bal]; omega)]
      simp [h]
  unfold numBad
  rw [Bool.or_eq_true, Bool.or_eq_true, Bool.and_eq_true, decide_eq_true_eq, decide_eq_true_eq, e0, or_assoc]
  exact or_congr Iff.rfl (or_congr Iff.rfl e1)
set_option maxRecDepth 100000 in
set_option maxHeartbeats 1000000 in
theorem num_bad (w : World) (base R : Nat) (S : ByteArray) (s : St) (h : Rd w base R S s) (p : Nat) (hp : p < S.size) (hS : S.size ≤ 65536) (hn : numBad (S.data.toList.drop p) (run dgt (S.data.toList.drop p)) = true) :
    Calls Tryd.prog 56 #[.pointer (some ⟨R, 0, none⟩), .int .i64 p] w (PanP w base p) := by
  have c0 := h.cell0
  have hlt := h.lt
  have hle := h.le
  have h25 := fun w => runDgt_any (S.extract p S.size) w (by simp; omega)
  have hEz : (S.extract p S.size).size = S.size - p := by simp
  rw [← ext_drop] at hn
  generalize hE : S.extract p S.size = E at *
  have hrl := run_le dgt E.data.toList
  rw [bal] at hrl
  have hE0 : 0 < E.size := by omega
  have hzz : E.size ≤ 65536 := by omega
  rw [numBad_E E _ hE0] at hn
  generalize run dgt E.data.toList = n at *
  have z1 : (0 : Int) ≤ (p : Int) := by omega
  have z2 : (p : Int) ≤ (S.size : Int) := by omega
  have y1 : (0 : Int) < (E.size : Int) := by omega
  have HH : Hid (Rd w base R S s) := h
  clear h hEz
  by_cases q1 : 200 < n
  · have k1 : (200 : Int) < (n : Int) := by omega
    clear hn q1
    go_enter Tryd.func56, Tryd.ntmps56
    go_wp2_with (first | (go_at_call 25; refine (h25 _).mono ?_; rintro e w1 ⟨rfl, hb1⟩) | (go_at_call 62; refine (wrongAt_any _ _).mono ?_; rintro e w2 ⟨rfl, rfl⟩))
    exact ⟨rfl, rfl, ((hb1.alloc hb1.size _).mono (by omega))⟩
  · have k1 : ¬ (200 : Int) < (n : Int) := by omega
    by_cases q2 : 1 < n ∧ (E[0]'hE0).toNat = 48
    · have k2 : (1 : Int) < (n : Int) := by omega
      have k3 : (((E[0]'hE0).toNat : Int) == 48) = true := nat_beq q2.2
      clear hn q1 q2
      go_enter Tryd.func56, Tryd.ntmps56
      go_wp2_with (first | (go_at_call 25; refine (h25 _).mono ?_; rintro e w1 ⟨rfl, hb1⟩) | (go_at_call 62; refine (wrongAt_any _ _).mono ?_; rintro e w2 ⟨rfl, rfl⟩))
      exact ⟨rfl, rfl, ((hb1.alloc hb1.size _).mono (by omega))⟩
    · obtain ⟨q3, q4⟩ : ∃ h : n < E.size, ltr (E[n]'h) = true := by
        rcases hn with h | h | h
        · exact absurd h q1
        · exact absurd h q2
        · exact h
      have h24 := letter_any (wrap32 ((E[n]'q3).toNat : Int))
      rw [show ltrZ (wrap32 ((E[n]'q3).toNat : Int)) = ltr (E[n]'q3) by rw [w32, ltrZ_nat], q4] at h24
      have k4 : (n : Int) < (E.size : Int) := by omega
      have k6 : (0 : Int) ≤ (n : Int) := by omega
      clear hn q1 q4
      by_cases q5 : 1 < n
      · have k2 : (1 : Int) < (n : Int) := by omega
        have k3 : (((E[0]'hE0).toNat : Int) == 48) = false := nat_bne (fun h => q2 ⟨q5, h⟩)
        clear q2
        go_enter Tryd.func56, Tryd.ntmps56
        go_wp2_with (first | (go_at_call 25; refine (h25 _).mono ?_; rintro e w1 ⟨rfl, hb1⟩) | (go_at_call 24; refine (h24 _).mono ?_; rintro e w1 ⟨rfl, rfl⟩) | (go_at_call 62; refine (wrongAt_any _ _).mono ?_; rintro e w2 ⟨rfl, rfl⟩))
        exact ⟨rfl, rfl, ((hb1.alloc hb1.size _).mono (by omega))⟩
      · have k2 : ¬ (1 : Int) < (n : Int) := by omega
        clear q2
        go_enter Tryd.func56, Tryd.ntmps56
        go_wp2_with (first | (go_at_call 25; refine (h25 _).mono ?_; rintro e w1 ⟨rfl, hb1⟩) | (go_at_call 24; refine (h24 _).mono ?_; rintro e w1 ⟨rfl, rfl⟩) | (go_at_call 62; refine (wrongAt_any _ _).mono ?_; rintro e w2 ⟨rfl, rfl⟩))
        exact ⟨rfl, rfl, ((hb1.alloc hb1.size _).mono (by omega))⟩
set_option maxRecDepth 100000 in
set_option maxHeartbeats 1000000 in
theorem num_ok (w : World) (base R : Nat) (S : ByteArray) (s : St) (h : Rd w base R S s) (p : Nat) (hp : p < S.size) (hS : S.size ≤ 65536) (hl : s.toks.length ≤ 1000000) (hn : numBad (S.data.toList.drop p) (run dgt (S.data.toList.drop p)) = false) :
    Calls Tryd.prog 56 #[.pointer (some ⟨R, 0, none⟩), .int .i64 p] w (AddP w base R S (stp p s (.tok 2 (run dgt (S.data.toList.drop p)) ((S.data.toList.drop p).take (run dgt (S.data.toList.drop p))))) (.int .i64 ((p + run dgt (S.data.toList.drop p) : Nat) : Int))) := by
  have c0 := h.cell0
  have hlt := h.lt
  have hle := h.le
  have h25 := fun w => runDgt_any (S.extract p S.size) w (by simp; omega)
  have hEz : (S.extract p S.size).size = S.size - p := by simp
  have hrl := run_le dgt (S.data.toList.drop p)
  rw [List.length_drop, bal] at hrl
  have h50 := fun (w : World) (kd : Nat) (h : Rd w base R S s) => add_any w base R S s h kd p (p + run dgt (S.data.toList.drop p)) (by omega) (by omega) hl
  rw [ext_tok] at h50
  rw [← ext_drop] at hn hrl h50 ⊢
  generalize hE : S.extract p S.size = E at *
  have hE0 : 0 < E.size := by omega
  have hzz : E.size ≤ 65536 := by omega
  rw [Bool.eq_false_iff, ne_eq, numBad_E E _ hE0] at hn
  generalize run dgt E.data.toList = n at *
  generalize E.data.toList.take n = tx at *
  have z1 : (0 : Int) ≤ (p : Int) := by omega
  have z2 : (p : Int) ≤ (S.size : Int) := by omega
  have y1 : (0 : Int) < (E.size : Int) := by omega
  have HH : Hid (Rd w base R S s) := h
  have k1 : ¬ (200 : Int) < (n : Int) := fun q => hn (.inl (by omega))
  have z5 : IntKind.i64.wrap ((p : Int) + (n : Int)) = (p : Int) + (n : Int) := wrap_small _ (by omega) (by omega)
  have HP : Hid (((p + n : Nat) : Int) = (p : Int) + (n : Int)) := (by omega : ((p + n : Nat) : Int) = (p : Int) + (n : Int))
  have k6 : (0 : Int) ≤ (n : Int) := by omega
  clear h
  by_cases q5 : 1 < n
  · have k2 : (1 : Int) < (n : Int) := by omega
    have k3 : (((E[0]'hE0).toNat : Int) == 48) = false := nat_bne (fun h => hn (.inr (.inl ⟨q5, h⟩)))
    by_cases q3 : n < E.size
    · have k4 : (n : Int) < (E.size : Int) := by omega
      have h24 := letter_any (wrap32 ((E[n]'q3).toNat : Int))
      rw [show ltrZ (wrap32 ((E[n]'q3).toNat : Int)) = ltr (E[n]'q3) by rw [w32, ltrZ_nat], Bool.eq_false_iff.2 (fun h => hn (.inr (.inr ⟨q3, h⟩)))] at h24
      clear hn hEz hrl
      go_enter Tryd.func56, Tryd.ntmps56
      go_wp2_with (first
        | (go_at_call 25; refine (h25 _).mono ?_; rintro e w1 ⟨rfl, hb1⟩; have HB1 : Hid (Below w.heap.size w w1) := hb1; clear hb1)
        | (go_at_call 24; refine (h24 _).mono ?_; rintro e w1 ⟨rfl, rfl⟩)
        | (go_at_call 50; refine (h50 _ _ (HH.out.below HB1.out)).mono ?_; intro e w3 h3; obtain rfl := h3.ret; have H3 : Hid _ := h3; clear h3))
      go_ret
      exact H3.out.after HB1.out (by omega)
    · have k4 : ¬ (n : Int) < (E.size : Int) := by omega
      clear hn hEz hrl
      go_enter Tryd.func56, Tryd.ntmps56
      go_wp2_with (first
        | (go_at_call 25; refine (h25 _).mono ?_; rintro e w1 ⟨rfl, hb1⟩; have HB1 : Hid (Below w.heap.size w w1) := hb1; clear hb1)
        | (go_at_call 50; refine (h50 _ _ (HH.out.below HB1.out)).mono ?_; intro e w3 h3; obtain rfl := h3.ret; have H3 : Hid _ := h3; clear h3))
      go_ret
      exact H3.out.after HB1.out (by omega)
  · have k2 : ¬ (1 : Int) < (n : Int) := by omega
    by_cases q3 : n < E.size
    · have k4 : (n : Int) < (E.size : Int) := by omega
      have h24 := letter_any (wrap32 ((E[n]'q3).toNat : Int))
      rw [show ltrZ (wrap32 ((E[n]'q3).toNat : Int)) = ltr (E[n]'q3) by rw [w32, ltrZ_nat], Bool.eq_false_iff.2 (fun h => hn (.inr (.inr ⟨q3, h⟩)))] at h24
      clear hn hEz hrl
      go_enter Tryd.func56, Tryd.ntmps56
      go_wp2_with (first
        | (go_at_call 25; refine (h25 _).mono ?_; rintro e w1 ⟨rfl, hb1⟩; have HB1 : Hid (Below w.heap.size w w1) := hb1; clear hb1)
        | (go_at_call 24; refine (h24 _).mono ?_; rintro e w1 ⟨rfl, rfl⟩)
        | (go_at_call 50; refine (h50 _ _ (HH.out.below HB1.out)).mono ?_; intro e w3 h3; obtain rfl := h3.ret; have H3 : Hid _ := h3; clear h3))
      go_ret
      exact H3.out.after HB1.out (by omega)
    · have k4 : ¬ (n : Int) < (E.size : Int) := by omega
      clear hn hEz hrl
      go_enter Tryd.func56, Tryd.ntmps56
      go_wp2_with (first
        | (go_at_call 25; refine (h25 _).mono ?_; rintro e w1 ⟨rfl, hb1⟩; have HB1 : Hid (Below w.heap.size w w1) := hb1; clear hb1)
        | (go_at_call 50; refine (h50 _ _ (HH.out.below HB1.out)).mono ?_; intro e w3 h3; obtain rfl := h3.ret; have H3 : Hid _ := h3; clear h3))
      go_ret
      exact H3.out.after HB1.out (by omega)
end Go.Proofs.YtmfdfkbcommjfaaDoor
