/-
  konst's Text at whole numbers and truth values; the law's in and awake.
-/
import Derived.Test.YtfkkhabpnnealaaGreatDoorKpE
import Derived.Test.YtfkkhabpnnealaaGreatDoorWlkP
namespace Go.Proofs.YtfkkhabpnnealaaGreatDoor
open Go.RowKit
attribute [local go_sem ↓] Go.wp_at_zero Go.wp_at_succ
theorem CnR.open {w : World} {base : Nat} {v : Value} {k : Int} {s : Bool} {N : Nat} {t : ByteArray} {b : Bool} (h : CnR w base v k s N t b) (hN : N < 4294967296 ^ 40) :
    ∃ (ao : Option Addr) (n cap : Nat) (l : List Nat), v = cnV k s ao n cap t b ∧ Sl w ao n cap l ∧ vl 4294967296 l = N ∧ n ≤ 40 := by
  obtain ⟨ao, n, cap, rfl, hi⟩ := h.ex
  obtain ⟨ao', n', cap', r, e, h1, h2, h3⟩ := hi.open hN
  cases e
  exact ⟨ao, n, cap, r, rfl, h1, h2, h3⟩
set_option maxRecDepth 100000 in
set_option maxHeartbeats 2000000 in
theorem ktext_1 (s : Bool) (ao : Option Addr) (n cap : Nat) (l : List Nat) (t : ByteArray) (b : Bool) (w : World) (hl : Sl w ao n cap l) (hn : n ≤ 1000) :
    Calls Tryz.prog 11 #[cnV 1 s ao n cap t b] w fun e w' => ∃ t, e = .returned (.string t) ∧ decT s (vl 4294967296 l) t ∧ Below w.heap.size w w' := by
  have HT : Hid (∀ W, Below w.heap.size w W → Calls Tryz.prog 30 #[.agg #[.bool s, .slice ao n cap]] W fun e w' => ∃ t, e = .returned (.string t) ∧ decT s (vl 4294967296 l) t ∧ Below W.heap.size W w') := fun W hb => text_any s ao n cap l W (hl.below hb (Nat.le_refl _)) hn
  clear hl hn
  go_enter Tryz.func11, Tryz.ntmps11
  go_wp2_with fail
  refine (HT.out _ ((Below.refl _ w).alloc (Nat.le_refl _) _)).mono ?_
  rintro e x1 ⟨u, rfl, hd, hb⟩
  have HD : Hid (decT s (vl 4294967296 l) u) := hd
  have h1 : Below w.heap.size w (w.alloc (.cells #[.int .i64 1, .bool s, .slice ao n cap, .string t, .bool b] 26)) := (Below.refl _ w).alloc (Nat.le_refl _) _
  have HB : Hid (Below w.heap.size w x1) := h1.trans (hb.mono h1.size)
  clear hd hb h1
  go_wp2_with fail
  go_ret
  exact ⟨u, rfl, HD.out, HB.out⟩
set_option maxRecDepth 100000 in
set_option maxHeartbeats 2000000 in
theorem ktext_3 (s : Bool) (ao : Option Addr) (n cap : Nat) (t : ByteArray) (b : Bool) (w : World) :
    Calls Tryz.prog 11 #[cnV 3 s ao n cap t b] w fun e w' => e = .returned (.string (if b then ⟨#[116, 114, 117, 101]⟩ else ⟨#[102, 97, 108, 115, 101]⟩)) ∧ Below w.heap.size w w' := by
  have HT : Hid (∀ W, Calls Tryz.prog 32 #[.bool b] W fun e w' => e = .returned (.string (if b then ⟨#[116, 114, 117, 101]⟩ else ⟨#[102, 97, 108, 115, 101]⟩)) ∧ w' = W) := fun W => by
    have := Go.Proofs.Any.strconv_FormatBool Tryz.lays121 b W
    cases b <;> exact this
  obtain ⟨u, hu⟩ : ∃ u, (if b then (⟨#[116, 114, 117, 101]⟩ : ByteArray) else ⟨#[102, 97, 108, 115, 101]⟩) = u := ⟨_, rfl⟩
  rw [hu] at HT ⊢
  clear hu
  go_enter Tryz.func11, Tryz.ntmps11
  go_wp2_with (go_at_call 32; refine (HT.out _).mono ?_; rintro e x1 ⟨rfl, hw⟩; obtain rfl := hw.symm; clear hw)
  go_ret
  exact ⟨rfl, (Below.refl _ w).alloc (Nat.le_refl _) _⟩
set_option maxRecDepth 100000 in
set_option maxHeartbeats 4000000 in
theorem in_any (k : Int) (s : Bool) (ao : Option Addr) (n cap : Nat) (t : ByteArray) (b : Bool) (w : World) (hn : n ≤ 9223372036854775807) (ht : t.size ≤ 9223372036854775807) :
    Calls Tryz.prog 4 #[cnV k s ao n cap t b] w fun e w' => e = .returned (.bool (decide (n ≤ 20 ∧ t.size ≤ 300 ∧ (k = 1 ∨ k = 2 ∨ k = 3)))) ∧ Below w.heap.size w w' := by
  obtain ⟨U, hU⟩ : ∃ U, decide (n ≤ 20 ∧ t.size ≤ 300 ∧ (k = 1 ∨ k = 2 ∨ k = 3)) = U := ⟨_, rfl⟩
  rw [hU]
  have HU : Hid (decide (n ≤ 20 ∧ t.size ≤ 300 ∧ (k = 1 ∨ k = 2 ∨ k = 3)) = U) := hU
  clear hU
  have HB : Hid (∀ o, Below w.heap.size w (w.alloc o)) := fun o => (Below.refl _ w).alloc (Nat.le_refl _) o
  by_cases h1 : n ≤ 20
  · have z1 : decide ((n : Int) ≤ 20) = true := by simp; omega
    by_cases h2 : t.size ≤ 300
    · have z2 : decide ((t.size : Int) ≤ 300) = true := by simp; omega
      by_cases e1 : k = 1
      · have y1 : (k == 1) = true := by simpa using e1
        go_enter Tryz.func4, Tryz.ntmps4
        go_wp2_with fail
        go_ret
        exact ⟨by rw [← HU.out]; simp [h1, h2, e1], HB.out _⟩
      have y1 : (k == 1) = false := by simpa using e1
      by_cases e2 : k = 2
      · have y2 : (k == 2) = true := by simpa using e2
        go_enter Tryz.func4, Tryz.ntmps4
        go_wp2_with fail
        go_ret
        exact ⟨by rw [← HU.out]; simp [h1, h2, e2], HB.out _⟩
      have y2 : (k == 2) = false := by simpa using e2
      go_enter Tryz.func4, Tryz.ntmps4
      go_wp2_with fail
      go_ret
      exact ⟨by rw [← HU.out]; simp [h1, h2, e1, e2]; rfl, HB.out _⟩
    · have z2 : decide ((t.size : Int) ≤ 300) = false := by simp; omega
      go_enter Tryz.func4, Tryz.ntmps4
      go_wp2_with fail
      go_ret
      exact ⟨by rw [← HU.out]; simp [h2], HB.out _⟩
  · have z1 : decide ((n : Int) ≤ 20) = false := by simp; omega
    go_enter Tryz.func4, Tryz.ntmps4
    go_wp2_with fail
    go_ret
    exact ⟨by rw [← HU.out]; simp [h1], HB.out _⟩
theorem q72 : quoE 7 2 = 0 ∧ quoQ 7 2 = 3 := ⟨by simp [quoE, bigN], by simp [quoQ, bigN]⟩
theorem aw_1 : bnK ⟨#[47]⟩ 1 true 7 ⟨#[]⟩ false 1 false 2 ⟨#[]⟩ false = ⟨1, true, 3, ⟨#[]⟩, false, 0⟩ := by
  have h : (⟨#[47]⟩ : ByteArray).toList = [47] := by rw [Lib.toList_data]
  simp [bnK, bkA, tkB, rkA, h, q72.1, q72.2, arA, sgB]
theorem aw_2 : bnK ⟨#[60]⟩ 2 false 0 ⟨#[97]⟩ false 2 false 0 ⟨#[98]⟩ false = ⟨3, false, 0, ⟨#[]⟩, true, 0⟩ := by
  have h : (⟨#[60]⟩ : ByteArray).toList = [60] := by rw [Lib.toList_data]
  have h1 : (⟨#[97]⟩ : ByteArray).toList = [97] := by rw [Lib.toList_data]
  have h2 : (⟨#[98]⟩ : ByteArray).toList = [98] := by rw [Lib.toList_data]
  simp [bnK, bkA, tkB, hoB, cmO, cmK, h, h1, h2, Op.bytesLess]
set_option maxRecDepth 100000 in
set_option maxHeartbeats 4000000 in
theorem awake_any (w : World) : Calls Tryz.prog 5 #[] w fun e w' => e = .returned (.bool true) ∧ Below w.heap.size w w' := by
  go_enter Tryz.func5, Tryz.ntmps5
  go_wp2_with fail
  refine (kint_any (-7) _ (by omega) (by omega)).mono ?_
  rintro e w1 ⟨⟨x1, rfl, hx1⟩, hb1⟩
  obtain ⟨a1, k1, c1, r1, rfl, s1, v1, m1⟩ := hx1.open (small_lt (by decide))
  have S1 : Hid (Sl w1 a1 k1 c1 r1) := s1
  have HB1 : Hid (Below w.heap.size w w1) := hb1
  have V1 : Hid (vl 4294967296 r1 = 7) := v1
  clear hx1 hb1 s1 v1
  rw [show sgB (decide ((-7 : Int) < 0)) (-7 : Int).natAbs = true from rfl]
  go_wp2_with fail
  refine (kint_any 2 _ (by omega) (by omega)).mono ?_
  rintro e w2 ⟨⟨x2, rfl, hx2⟩, hb2⟩
  obtain ⟨a2, k2, c2, r2, rfl, s2, v2, m2⟩ := hx2.open (small_lt (by decide))
  have S2 : Hid (Sl w2 a2 k2 c2 r2) := s2
  have S1 : Hid (Sl w2 a1 k1 c1 r1) := S1.out.below hb2 (Nat.le_refl _)
  have HB2 : Hid (Below w.heap.size w w2) := HB1.out.trans (hb2.mono HB1.out.size)
  have V2 : Hid (vl 4294967296 r2 = 2) := v2
  clear hx2 hb2 s2 v2
  rw [show sgB (decide ((2 : Int) < 0)) (2 : Int).natAbs = false from rfl]
  go_wp2_with fail
  refine (kbin_any ⟨#[47]⟩ 1 1 true false a1 k1 c1 r1 a2 k2 c2 r2 ⟨#[]⟩ ⟨#[]⟩ false false w2 S1.out S2.out (by omega) (by omega) (by decide) (by decide)).mono ?_
  rw [V1.out, V2.out, aw_1]
  rintro e w3 ⟨⟨x3, rfl, hx3⟩, hb3⟩
  obtain ⟨a3, k3, c3, r3, rfl, s3, v3, m3⟩ := hx3.open (small_lt (by show 3 ≤ _; omega))
  have S3 : Hid (Sl w3 a3 k3 c3 r3) := s3
  have V3 : Hid (vl 4294967296 r3 = 3) := v3
  have HB3 : Hid (Below w.heap.size w w3) := HB2.out.trans (hb3.mono HB2.out.size)
  clear hx3 hb3 s3 v3 S1 S2 V1 V2 HB1 HB2
  dsimp only
  have HY3 : Hid ((w3.alloc (.cells #[.int .i64 1, .bool true, .slice a3 k3 c3, .string ⟨#[]⟩, .bool false] 26)).heap[w3.heap.size]? = some (.cells #[.int .i64 1, .bool true, .slice a3 k3 c3, .string ⟨#[]⟩, .bool false] 26 (0, 0))) := new_blk w3 _
  have hq := (Below.refl w3.heap.size w3).alloc (Nat.le_refl _) (.cells #[.int .i64 1, .bool true, .slice a3 k3 c3, .string ⟨#[]⟩, .bool false] 26)
  have HBA : Hid (Below w.heap.size w (w3.alloc (.cells #[.int .i64 1, .bool true, .slice a3 k3 c3, .string ⟨#[]⟩, .bool false] 26))) := HB3.out.trans (hq.mono HB3.out.size)
  have S3 : Hid (Sl (w3.alloc (.cells #[.int .i64 1, .bool true, .slice a3 k3 c3, .string ⟨#[]⟩, .bool false] 26)) a3 k3 c3 r3) := S3.out.below hq (Nat.le_refl _)
  clear hq HB3
  go_wp2_with fail
  refine (kstr_any ⟨#[97]⟩ _).mono ?_
  rintro e w4 ⟨rfl, hb⟩
  have HY4 : Hid (w4.heap[w3.heap.size]? = some (.cells #[.int .i64 1, .bool true, .slice a3 k3 c3, .string ⟨#[]⟩, .bool false] 26 (0, 0))) := kept5 hb HY3.out
  have HB4 : Hid (Below w.heap.size w w4) := HBA.out.trans (hb.mono HBA.out.size)
  have S3 : Hid (Sl w4 a3 k3 c3 r3) := S3.out.below hb (Nat.le_refl _)
  clear hb HBA HY3
  go_wp2_with fail
  refine (kstr_any ⟨#[98]⟩ _).mono ?_
  rintro e w5 ⟨rfl, hb⟩
  have HY5 : Hid (w5.heap[w3.heap.size]? = some (.cells #[.int .i64 1, .bool true, .slice a3 k3 c3, .string ⟨#[]⟩, .bool false] 26 (0, 0))) := kept5 hb HY4.out
  have HB5 : Hid (Below w.heap.size w w5) := HB4.out.trans (hb.mono HB4.out.size)
  have S3 : Hid (Sl w5 a3 k3 c3 r3) := S3.out.below hb (Nat.le_refl _)
  clear hb HB4 HY4
  go_wp2_with fail
  refine (kbin_any ⟨#[60]⟩ 2 2 false false none 0 0 [] none 0 0 [] ⟨#[97]⟩ ⟨#[98]⟩ false false w5 (Sl.nil _) (Sl.nil _) (by omega) (by omega) (by decide) (by decide)).mono ?_
  rw [show vl 4294967296 [] = 0 from rfl, aw_2]
  rintro e w6 ⟨⟨x6, rfl, a6, k6, c6, rfl, hx6⟩, hb⟩
  have HY6 : Hid (w6.heap[w3.heap.size]? = some (.cells #[.int .i64 1, .bool true, .slice a3 k3 c3, .string ⟨#[]⟩, .bool false] 26 (0, 0))) := kept5 hb HY5.out
  have HB6 : Hid (Below w.heap.size w w6) := HB5.out.trans (hb.mono HB5.out.size)
  have S3 : Hid (Sl w6 a3 k3 c3 r3) := S3.out.below hb (Nat.le_refl _)
  clear hb hx6 HB5 HY5
  dsimp only
  have hq := (Below.refl w6.heap.size w6).alloc (Nat.le_refl _) (.cells #[.int .i64 3, .bool false, .slice a6 k6 c6, .string ⟨#[]⟩, .bool true] 26)
  have HY7 : Hid ((w6.alloc (.cells #[.int .i64 3, .bool false, .slice a6 k6 c6, .string ⟨#[]⟩, .bool true] 26)).heap[w3.heap.size]? = some (.cells #[.int .i64 1, .bool true, .slice a3 k3 c3, .string ⟨#[]⟩, .bool false] 26 (0, 0))) := kept5 hq HY6.out
  have k5 := bx5 HY7.out
  have HB7 : Hid (Below w.heap.size w (w6.alloc (.cells #[.int .i64 3, .bool false, .slice a6 k6 c6, .string ⟨#[]⟩, .bool true] 26))) := HB6.out.trans (hq.mono HB6.out.size)
  have HN7 : Hid ((w6.alloc (.cells #[.int .i64 3, .bool false, .slice a6 k6 c6, .string ⟨#[]⟩, .bool true] 26)).heap[w6.heap.size]? = some (.cells #[.int .i64 3, .bool false, .slice a6 k6 c6, .string ⟨#[]⟩, .bool true] 26 (0, 0))) := new_blk w6 _
  have S3 : Hid (Sl (w6.alloc (.cells #[.int .i64 3, .bool false, .slice a6 k6 c6, .string ⟨#[]⟩, .bool true] 26)) a3 k3 c3 r3) := S3.out.below hq (Nat.le_refl _)
  clear hq HB6 HY6
  go_wp2_with fail
  refine (ktext_1 true a3 k3 c3 r3 _ _ _ S3.out (by omega)).mono ?_
  rintro e w7 ⟨u, rfl, ht, hb⟩
  rw [V3.out] at ht
  rw [dec_m3 ht]
  have HN8 : Hid (w7.heap[w6.heap.size]? = some (.cells #[.int .i64 3, .bool false, .slice a6 k6 c6, .string ⟨#[]⟩, .bool true] 26 (0, 0))) := kept5 hb HN7.out
  have HB8 : Hid (Below w.heap.size w w7) := HB7.out.trans (hb.mono HB7.out.size)
  clear hb ht k5
  have k5 := bx5 HN8.out
  go_wp2_with fail
  refine (ktext_3 false a6 k6 c6 _ true _).mono ?_
  rintro e w8 ⟨rfl, hb⟩
  have HB9 : Hid (Below w.heap.size w w8) := HB8.out.trans (hb.mono HB8.out.size)
  clear hb
  go_wp2_with fail
  go_ret
  exact ⟨rfl, HB9.out⟩
end Go.Proofs.YtfkkhabpnnealaaGreatDoor

