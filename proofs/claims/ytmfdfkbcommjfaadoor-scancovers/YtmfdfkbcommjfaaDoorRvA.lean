/-
  recastref1.size, walked: one theorem for each way through it.
-/
import Derived.Test.YtmfdfkbcommjfaaDoorSaD
namespace Go.Proofs.YtmfdfkbcommjfaaDoor
open Go.RowKit
set_option linter.unusedVariables false
set_option maxRecDepth 100000 in
set_option maxHeartbeats 2000000 in
theorem sz_ascii (s : ByteArray) (w : World) (hs : s.size ≤ 65536) (h0 : 0 < s.size) (hb : ((s[0]'h0).toNat : Int) < 128) :
    Calls Tryd.prog 29 #[.string s] w fun e w' => e = .returned (.int .i64 1) ∧ w' = w := by
  go_enter Tryd.func29, Tryd.ntmps29
  go_wp2
  go_ret
  exact ⟨rfl, rfl⟩
set_option maxRecDepth 100000 in
set_option maxHeartbeats 2000000 in
theorem sz_low (s : ByteArray) (w : World) (hs : s.size ≤ 65536) (h0 : 0 < s.size) (hb : 128 ≤ ((s[0]'h0).toNat : Int)) (hb2 : ((s[0]'h0).toNat : Int) < 194) :
    Calls Tryd.prog 29 #[.string s] w fun e w' => e = .returned (.int .i64 0) ∧ w' = w := by
  go_enter Tryd.func29, Tryd.ntmps29
  go_wp2
  go_ret
  exact ⟨rfl, rfl⟩
set_option maxRecDepth 100000 in
set_option maxHeartbeats 2000000 in
theorem sz_high (s : ByteArray) (w : World) (hs : s.size ≤ 65536) (h0 : 0 < s.size) (hb : 245 ≤ ((s[0]'h0).toNat : Int)) :
    Calls Tryd.prog 29 #[.string s] w fun e w' => e = .returned (.int .i64 0) ∧ w' = w := by
  go_enter Tryd.func29, Tryd.ntmps29
  go_wp2
  go_ret
  exact ⟨rfl, rfl⟩
set_option maxRecDepth 100000 in
set_option maxHeartbeats 2000000 in
theorem sz2_short (s : ByteArray) (w : World) (hs : s.size ≤ 65536) (h0 : 0 < s.size) (hz : (s.size : Int) < 2) (hb1 : 194 ≤ ((s[0]'h0).toNat : Int)) (hb2 : ((s[0]'h0).toNat : Int) < 224) (k0 : Nat) (e0 : bits .and .i64 ((s[0]'h0).toNat : Int) 31 = (k0 : Int)) (hk0 : k0 ≤ 31) :
    Calls Tryd.prog 29 #[.string s] w fun e w' => e = .returned (.int .i64 0) ∧ w' = w := by
  go_enter Tryd.func29, Tryd.ntmps29
  go_wp2
  go_ret
  exact ⟨rfl, rfl⟩
set_option maxRecDepth 100000 in
set_option maxHeartbeats 2000000 in
theorem sz2_bad1 (s : ByteArray) (w : World) (hs : s.size ≤ 65536) (h0 : 0 < s.size) (h1 : 1 < s.size) (hz : ¬ ((s.size : Int) < 2)) (hb1 : 194 ≤ ((s[0]'h0).toNat : Int)) (hb2 : ((s[0]'h0).toNat : Int) < 224) (k0 : Nat) (e0 : bits .and .i64 ((s[0]'h0).toNat : Int) 31 = (k0 : Int)) (hk0 : k0 ≤ 31) (c1 : (bits .and .u8 ((s[1]'h1).toNat : Int) 192 != 128) = true) :
    Calls Tryd.prog 29 #[.string s] w fun e w' => e = .returned (.int .i64 0) ∧ w' = w := by
  go_enter Tryd.func29, Tryd.ntmps29
  go_wp2_with fail
  refine wp_loop_rounds 2 ?_
  rw [rounds_succ]
  go_wp2
  go_ret
  exact ⟨rfl, rfl⟩
set_option maxRecDepth 100000 in
set_option maxHeartbeats 2000000 in
theorem sz2_ok (s : ByteArray) (w : World) (hs : s.size ≤ 65536) (h0 : 0 < s.size) (h1 : 1 < s.size) (hz : ¬ ((s.size : Int) < 2)) (hb1 : 194 ≤ ((s[0]'h0).toNat : Int)) (hb2 : ((s[0]'h0).toNat : Int) < 224) (k0 : Nat) (e0 : bits .and .i64 ((s[0]'h0).toNat : Int) 31 = (k0 : Int)) (hk0 : k0 ≤ 31) (c1 : (bits .and .u8 ((s[1]'h1).toNat : Int) 192 != 128) = false) (k1 : Nat) (e1 : bits .and .u8 ((s[1]'h1).toNat : Int) 63 = (k1 : Int)) (hk1 : k1 ≤ 63) (u1 : Nat) (f1 : bits .or .i64 ((k0 : Int) * 64) (k1 : Int) = (u1 : Int)) (hu1 : u1 ≤ 2047) (ht : 128 ≤ (u1 : Int)) :
    Calls Tryd.prog 29 #[.string s] w fun e w' => e = .returned (.int .i64 2) ∧ w' = w := by
  go_enter Tryd.func29, Tryd.ntmps29
  go_wp2_with fail
  refine wp_loop_rounds 2 ?_
  rw [rounds_succ]
  go_wp2_with fail
  rw [rounds_succ]
  go_wp2
  go_ret
  exact ⟨rfl, rfl⟩
set_option maxRecDepth 100000 in
set_option maxHeartbeats 2000000 in
theorem sz3_short (s : ByteArray) (w : World) (hs : s.size ≤ 65536) (h0 : 0 < s.size) (hz : (s.size : Int) < 3) (hb1 : 224 ≤ ((s[0]'h0).toNat : Int)) (hb2 : ((s[0]'h0).toNat : Int) < 240) (k0 : Nat) (e0 : bits .and .i64 ((s[0]'h0).toNat : Int) 15 = (k0 : Int)) (hk0 : k0 ≤ 15) :
    Calls Tryd.prog 29 #[.string s] w fun e w' => e = .returned (.int .i64 0) ∧ w' = w := by
  go_enter Tryd.func29, Tryd.ntmps29
  go_wp2
  go_ret
  exact ⟨rfl, rfl⟩
set_option maxRecDepth 100000 in
set_option maxHeartbeats 2000000 in
theorem sz3_bad1 (s : ByteArray) (w : World) (hs : s.size ≤ 65536) (h0 : 0 < s.size) (h1 : 1 < s.size) (h2 : 2 < s.size) (hz : ¬ ((s.size : Int) < 3)) (hb1 : 224 ≤ ((s[0]'h0).toNat : Int)) (hb2 : ((s[0]'h0).toNat : Int) < 240) (k0 : Nat) (e0 : bits .and .i64 ((s[0]'h0).toNat : Int) 15 = (k0 : Int)) (hk0 : k0 ≤ 15) (c1 : (bits .and .u8 ((s[1]'h1).toNat : Int) 192 != 128) = true) :
    Calls Tryd.prog 29 #[.string s] w fun e w' => e = .returned (.int .i64 0) ∧ w' = w := by
  go_enter Tryd.func29, Tryd.ntmps29
  go_wp2_with fail
  refine wp_loop_rounds 3 ?_
  rw [rounds_succ]
  go_wp2
  go_ret
  exact ⟨rfl, rfl⟩
set_option maxRecDepth 100000 in
set_option maxHeartbeats 2000000 in
theorem sz3_bad2 (s : ByteArray) (w : World) (hs : s.size ≤ 65536) (h0 : 0 < s.size) (h1 : 1 < s.size) (h2 : 2 < s.size) (hz : ¬ ((s.size : Int) < 3)) (hb1 : 224 ≤ ((s[0]'h0).toNat : Int)) (hb2 : ((s[0]'h0).toNat : Int) < 240) (k0 : Nat) (e0 : bits .and .i64 ((s[0]'h0).toNat : Int) 15 = (k0 : Int)) (hk0 : k0 ≤ 15) (c1 : (bits .and .u8 ((s[1]'h1).toNat : Int) 192 != 128) = false) (k1 : Nat) (e1 : bits .and .u8 ((s[1]'h1).toNat : Int) 63 = (k1 : Int)) (hk1 : k1 ≤ 63) (u1 : Nat) (f1 : bits .or .i64 ((k0 : Int) * 64) (k1 : Int) = (u1 : Int)) (hu1 : u1 ≤ 1023) (c2 : (bits .and .u8 ((s[2]'h2).toNat : Int) 192 != 128) = true) :
    Calls Tryd.prog 29 #[.string s] w fun e w' => e = .returned (.int .i64 0) ∧ w' = w := by
  go_enter Tryd.func29, Tryd.ntmps29
  go_wp2_with fail
  refine wp_loop_rounds 3 ?_
  rw [rounds_succ]
  go_wp2_with fail
  rw [rounds_succ]
  go_wp2
  go_ret
  exact ⟨rfl, rfl⟩
set_option maxRecDepth 100000 in
set_option maxHeartbeats 2000000 in
theorem sz3_small (s : ByteArray) (w : World) (hs : s.size ≤ 65536) (h0 : 0 < s.size) (h1 : 1 < s.size) (h2 : 2 < s.size) (hz : ¬ ((s.size : Int) < 3)) (hb1 : 224 ≤ ((s[0]'h0).toNat : Int)) (hb2 : ((s[0]'h0).toNat : Int) < 240) (k0 : Nat) (e0 : bits .and .i64 ((s[0]'h0).toNat : Int) 15 = (k0 : Int)) (hk0 : k0 ≤ 15) (c1 : (bits .and .u8 ((s[1]'h1).toNat : Int) 192 != 128) = false) (k1 : Nat) (e1 : bits .and .u8 ((s[1]'h1).toNat : Int) 63 = (k1 : Int)) (hk1 : k1 ≤ 63) (u1 : Nat) (f1 : bits .or .i64 ((k0 : Int) * 64) (k1 : Int) = (u1 : Int)) (hu1 : u1 ≤ 1023) (c2 : (bits .and .u8 ((s[2]'h2).toNat : Int) 192 != 128) = false) (k2 : Nat) (e2 : bits .and .u8 ((s[2]'h2).toNat : Int) 63 = (k2 : Int)) (hk2 : k2 ≤ 63) (u2 : Nat) (f2 : bits .or .i64 ((u1 : Int) * 64) (k2 : Int) = (u2 : Int)) (hu2 : u2 ≤ 65535) (ht : (u2 : Int) < 2048) :
    Calls Tryd.prog 29 #[.string s] w fun e w' => e = .returned (.int .i64 0) ∧ w' = w := by
  go_enter Tryd.func29, Tryd.ntmps29
  go_wp2_with fail
  refine wp_loop_rounds 3 ?_
  rw [rounds_succ]
  go_wp2_with fail
  rw [rounds_succ]
  go_wp2_with fail
  rw [rounds_succ]
  go_wp2
  go_ret
  exact ⟨rfl, rfl⟩
set_option maxRecDepth 100000 in
set_option maxHeartbeats 2000000 in
theorem sz3_sur (s : ByteArray) (w : World) (hs : s.size ≤ 65536) (h0 : 0 < s.size) (h1 : 1 < s.size) (h2 : 2 < s.size) (hz : ¬ ((s.size : Int) < 3)) (hb1 : 224 ≤ ((s[0]'h0).toNat : Int)) (hb2 : ((s[0]'h0).toNat : Int) < 240) (k0 : Nat) (e0 : bits .and .i64 ((s[0]'h0).toNat : Int) 15 = (k0 : Int)) (hk0 : k0 ≤ 15) (c1 : (bits .and .u8 ((s[1]'h1).toNat : Int) 192 != 128) = false) (k1 : Nat) (e1 : bits .and .u8 ((s[1]'h1).toNat : Int) 63 = (k1 : Int)) (hk1 : k1 ≤ 63) (u1 : Nat) (f1 : bits .or .i64 ((k0 : Int) * 64) (k1 : Int) = (u1 : Int)) (hu1 : u1 ≤ 1023) (c2 : (bits .and .u8 ((s[2]'h2).toNat : Int) 192 != 128) = false) (k2 : Nat) (e2 : bits .and .u8 ((s[2]'h2).toNat : Int) 63 = (k2 : Int)) (hk2 : k2 ≤ 63) (u2 : Nat) (f2 : bits .or .i64 ((u1 : Int) * 64) (k2 : Int) = (u2 : Int)) (hu2 : u2 ≤ 65535) (ht : 55296 ≤ (u2 : Int)) (ht2 : (u2 : Int) ≤ 57343) :
    Calls Tryd.prog 29 #[.string s] w fun e w' => e = .returned (.int .i64 0) ∧ w' = w := by
  go_enter Tryd.func29, Tryd.ntmps29
  go_wp2_with fail
  refine wp_loop_rounds 3 ?_
  rw [rounds_succ]
  go_wp2_with fail
  rw [rounds_succ]
  go_wp2_with fail
  rw [rounds_succ]
  go_wp2
  go_ret
  exact ⟨rfl, rfl⟩
set_option maxRecDepth 100000 in
set_option maxHeartbeats 2000000 in
theorem sz3_ok1 (s : ByteArray) (w : World) (hs : s.size ≤ 65536) (h0 : 0 < s.size) (h1 : 1 < s.size) (h2 : 2 < s.size) (hz : ¬ ((s.size : Int) < 3)) (hb1 : 224 ≤ ((s[0]'h0).toNat : Int)) (hb2 : ((s[0]'h0).toNat : Int) < 240) (k0 : Nat) (e0 : bits .and .i64 ((s[0]'h0).toNat : Int) 15 = (k0 : Int)) (hk0 : k0 ≤ 15) (c1 : (bits .and .u8 ((s[1]'h1).toNat : Int) 192 != 128) = false) (k1 : Nat) (e1 : bits .and .u8 ((s[1]'h1).toNat : Int) 63 = (k1 : Int)) (hk1 : k1 ≤ 63) (u1 : Nat) (f1 : bits .or .i64 ((k0 : Int) * 64) (k1 : Int) = (u1 : Int)) (hu1 : u1 ≤ 1023) (c2 : (bits .and .u8 ((s[2]'h2).toNat : Int) 192 != 128) = false) (k2 : Nat) (e2 : bits .and .u8 ((s[2]'h2).toNat : Int) 63 = (k2 : Int)) (hk2 : k2 ≤ 63) (u2 : Nat) (f2 : bits .or .i64 ((u1 : Int) * 64) (k2 : Int) = (u2 : Int)) (hu2 : u2 ≤ 65535) (ht : 2048 ≤ (u2 : Int)) (ht2 : decide (55296 ≤ (u2 : Int)) = false) :
    Calls Tryd.prog 29 #[.string s] w fun e w' => e = .returned (.int .i64 3) ∧ w' = w := by
  go_enter Tryd.func29, Tryd.ntmps29
  go_wp2_with fail
  refine wp_loop_rounds 3 ?_
  rw [rounds_succ]
  go_wp2_with fail
  rw [rounds_succ]
  go_wp2_with fail
  rw [rounds_succ]
  go_wp2
  go_ret
  exact ⟨rfl, rfl⟩
set_option maxRecDepth 100000 in
set_option maxHeartbeats 2000000 in
theorem sz3_ok2 (s : ByteArray) (w : World) (hs : s.size ≤ 65536) (h0 : 0 < s.size) (h1 : 1 < s.size) (h2 : 2 < s.size) (hz : ¬ ((s.size : Int) < 3)) (hb1 : 224 ≤ ((s[0]'h0).toNat : Int)) (hb2 : ((s[0]'h0).toNat : Int) < 240) (k0 : Nat) (e0 : bits .and .i64 ((s[0]'h0).toNat : Int) 15 = (k0 : Int)) (hk0 : k0 ≤ 15) (c1 : (bits .and .u8 ((s[1]'h1).toNat : Int) 192 != 128) = false) (k1 : Nat) (e1 : bits .and .u8 ((s[1]'h1).toNat : Int) 63 = (k1 : Int)) (hk1 : k1 ≤ 63) (u1 : Nat) (f1 : bits .or .i64 ((k0 : Int) * 64) (k1 : Int) = (u1 : Int)) (hu1 : u1 ≤ 1023) (c2 : (bits .and .u8 ((s[2]'h2).toNat : Int) 192 != 128) = false) (k2 : Nat) (e2 : bits .and .u8 ((s[2]'h2).toNat : Int) 63 = (k2 : Int)) (hk2 : k2 ≤ 63) (u2 : Nat) (f2 : bits .or .i64 ((u1 : Int) * 64) (k2 : Int) = (u2 : Int)) (hu2 : u2 ≤ 65535) (ht : 57343 < (u2 : Int)) :
    Calls Tryd.prog 29 #[.string s] w fun e w' => e = .returned (.int .i64 3) ∧ w' = w := by
  go_enter Tryd.func29, Tryd.ntmps29
  go_wp2_with fail
  refine wp_loop_rounds 3 ?_
  rw [rounds_succ]
  go_wp2_with fail
  rw [rounds_succ]
  go_wp2_with fail
  rw [rounds_succ]
  go_wp2
  go_ret
  exact ⟨rfl, rfl⟩
set_option maxRecDepth 100000 in
set_option maxHeartbeats 2000000 in
theorem sz4_short (s : ByteArray) (w : World) (hs : s.size ≤ 65536) (h0 : 0 < s.size) (hz : (s.size : Int) < 4) (hb1 : 240 ≤ ((s[0]'h0).toNat : Int)) (hb2 : ((s[0]'h0).toNat : Int) < 245) (k0 : Nat) (e0 : bits .and .i64 ((s[0]'h0).toNat : Int) 7 = (k0 : Int)) (hk0 : k0 ≤ 7) :
    Calls Tryd.prog 29 #[.string s] w fun e w' => e = .returned (.int .i64 0) ∧ w' = w := by
  go_enter Tryd.func29, Tryd.ntmps29
  go_wp2
  go_ret
  exact ⟨rfl, rfl⟩
set_option maxRecDepth 100000 in
set_option maxHeartbeats 2000000 in
theorem sz4_bad1 (s : ByteArray) (w : World) (hs : s.size ≤ 65536) (h0 : 0 < s.size) (h1 : 1 < s.size) (h2 : 2 < s.size) (h3 : 3 < s.size) (hz : ¬ ((s.size : Int) < 4)) (hb1 : 240 ≤ ((s[0]'h0).toNat : Int)) (hb2 : ((s[0]'h0).toNat : Int) < 245) (k0 : Nat) (e0 : bits .and .i64 ((s[0]'h0).toNat : Int) 7 = (k0 : Int)) (hk0 : k0 ≤ 7) (c1 : (bits .and .u8 ((s[1]'h1).toNat : Int) 192 != 128) = true) :
    Calls Tryd.prog 29 #[.string s] w fun e w' => e = .returned (.int .i64 0) ∧ w' = w := by
  go_enter Tryd.func29, Tryd.ntmps29
  go_wp2_with fail
  refine wp_loop_rounds 4 ?_
  rw [rounds_succ]
  go_wp2
  go_ret
  exact ⟨rfl, rfl⟩
set_option maxRecDepth 100000 in
set_option maxHeartbeats 2000000 in
theorem sz4_bad2 (s : ByteArray) (w : World) (hs : s.size ≤ 65536) (h0 : 0 < s.size) (h1 : 1 < s.size) (h2 : 2 < s.size) (h3 : 3 < s.size) (hz : ¬ ((s.size : Int) < 4)) (hb1 : 240 ≤ ((s[0]'h0).toNat : Int)) (hb2 : ((s[0]'h0).toNat : Int) < 245) (k0 : Nat) (e0 : bits .and .i64 ((s[0]'h0).toNat : Int) 7 = (k0 : Int)) (hk0 : k0 ≤ 7) (c1 : (bits .and .u8 ((s[1]'h1).toNat : Int) 192 != 128) = false) (k1 : Nat) (e1 : bits .and .u8 ((s[1]'h1).toNat : Int) 63 = (k1 : Int)) (hk1 : k1 ≤ 63) (u1 : Nat) (f1 : bits .or .i64 ((k0 : Int) * 64) (k1 : Int) = (u1 : Int)) (hu1 : u1 ≤ 511) (c2 : (bits .and .u8 ((s[2]'h2).toNat : Int) 192 != 128) = true) :
    Calls Tryd.prog 29 #[.string s] w fun e w' => e = .returned (.int .i64 0) ∧ w' = w := by
  go_enter Tryd.func29, Tryd.ntmps29
  go_wp2_with fail
  refine wp_loop_rounds 4 ?_
  rw [rounds_succ]
  go_wp2_with fail
  rw [rounds_succ]
  go_wp2
  go_ret
  exact ⟨rfl, rfl⟩
set_option maxRecDepth 100000 in
set_option maxHeartbeats 2000000 in
theorem sz4_bad3 (s : ByteArray) (w : World) (hs : s.size ≤ 65536) (h0 : 0 < s.size) (h1 : 1 < s.size) (h2 : 2 < s.size) (h3 : 3 < s.size) (hz : ¬ ((s.size : Int) < 4)) (hb1 : 240 ≤ ((s[0]'h0).toNat : Int)) (hb2 : ((s[0]'h0).toNat : Int) < 245) (k0 : Nat) (e0 : bits .and .i64 ((s[0]'h0).toNat : Int) 7 = (k0 : Int)) (hk0 : k0 ≤ 7) (c1 : (bits .and .u8 ((s[1]'h1).toNat : Int) 192 != 128) = false) (k1 : Nat) (e1 : bits .and .u8 ((s[1]'h1).toNat : Int) 63 = (k1 : Int)) (hk1 : k1 ≤ 63) (u1 : Nat) (f1 : bits .or .i64 ((k0 : Int) * 64) (k1 : Int) = (u1 : Int)) (hu1 : u1 ≤ 511) (c2 : (bits .and .u8 ((s[2]'h2).toNat : Int) 192 != 128) = false) (k2 : Nat) (e2 : bits .and .u8 ((s[2]'h2).toNat : Int) 63 = (k2 : Int)) (hk2 : k2 ≤ 63) (u2 : Nat) (f2 : bits .or .i64 ((u1 : Int) * 64) (k2 : Int) = (u2 : Int)) (hu2 : u2 ≤ 32767) (c3 : (bits .and .u8 ((s[3]'h3).toNat : Int) 192 != 128) = true) :
    Calls Tryd.prog 29 #[.string s] w fun e w' => e = .returned (.int .i64 0) ∧ w' = w := by
  go_enter Tryd.func29, Tryd.ntmps29
  go_wp2_with fail
  refine wp_loop_rounds 4 ?_
  rw [rounds_succ]
  go_wp2_with fail
  rw [rounds_succ]
  go_wp2_with fail
  rw [rounds_succ]
  go_wp2
  go_ret
  exact ⟨rfl, rfl⟩
set_option maxRecDepth 100000 in
set_option maxHeartbeats 2000000 in
theorem sz4_small (s : ByteArray) (w : World) (hs : s.size ≤ 65536) (h0 : 0 < s.size) (h1 : 1 < s.size) (h2 : 2 < s.size) (h3 : 3 < s.size) (hz : ¬ ((s.size : Int) < 4)) (hb1 : 240 ≤ ((s[0]'h0).toNat : Int)) (hb2 : ((s[0]'h0).toNat : Int) < 245) (k0 : Nat) (e0 : bits .and .i64 ((s[0]'h0).toNat : Int) 7 = (k0 : Int)) (hk0 : k0 ≤ 7) (c1 : (bits .and .u8 ((s[1]'h1).toNat : Int) 192 != 128) = false) (k1 : Nat) (e1 : bits .and .u8 ((s[1]'h1).toNat : Int) 63 = (k1 : Int)) (hk1 : k1 ≤ 63) (u1 : Nat) (f1 : bits .or .i64 ((k0 : Int) * 64) (k1 : Int) = (u1 : Int)) (hu1 : u1 ≤ 511) (c2 : (bits .and .u8 ((s[2]'h2).toNat : Int) 192 != 128) = false) (k2 : Nat) (e2 : bits .and .u8 ((s[2]'h2).toNat : Int) 63 = (k2 : Int)) (hk2 : k2 ≤ 63) (u2 : Nat) (f2 : bits .or .i64 ((u1 : Int) * 64) (k2 : Int) = (u2 : Int)) (hu2 : u2 ≤ 32767) (c3 : (bits .and .u8 ((s[3]'h3).toNat : Int) 192 != 128) = false) (k3 : Nat) (e3 : bits .and .u8 ((s[3]'h3).toNat : Int) 63 = (k3 : Int)) (hk3 : k3 ≤ 63) (u3 : Nat) (f3 : bits .or .i64 ((u2 : Int) * 64) (k3 : Int) = (u3 : Int)) (hu3 : u3 ≤ 2097151) (ht : (u3 : Int) ≤ 65535) :
    Calls Tryd.prog 29 #[.string s] w fun e w' => e = .returned (.int .i64 0) ∧ w' = w := by
  go_enter Tryd.func29, Tryd.ntmps29
  go_wp2_with fail
  refine wp_loop_rounds 4 ?_
  rw [rounds_succ]
  go_wp2_with fail
  rw [rounds_succ]
  go_wp2_with fail
  rw [rounds_succ]
  go_wp2_with fail
  rw [rounds_succ]
  go_wp2
  go_ret
  exact ⟨rfl, rfl⟩
set_option maxRecDepth 100000 in
set_option maxHeartbeats 2000000 in
theorem sz4_big (s : ByteArray) (w : World) (hs : s.size ≤ 65536) (h0 : 0 < s.size) (h1 : 1 < s.size) (h2 : 2 < s.size) (h3 : 3 < s.size) (hz : ¬ ((s.size : Int) < 4)) (hb1 : 240 ≤ ((s[0]'h0).toNat : Int)) (hb2 : ((s[0]'h0).toNat : Int) < 245) (k0 : Nat) (e0 : bits .and .i64 ((s[0]'h0).toNat : Int) 7 = (k0 : Int)) (hk0 : k0 ≤ 7) (c1 : (bits .and .u8 ((s[1]'h1).toNat : Int) 192 != 128) = false) (k1 : Nat) (e1 : bits .and .u8 ((s[1]'h1).toNat : Int) 63 = (k1 : Int)) (hk1 : k1 ≤ 63) (u1 : Nat) (f1 : bits .or .i64 ((k0 : Int) * 64) (k1 : Int) = (u1 : Int)) (hu1 : u1 ≤ 511) (c2 : (bits .and .u8 ((s[2]'h2).toNat : Int) 192 != 128) = false) (k2 : Nat) (e2 : bits .and .u8 ((s[2]'h2).toNat : Int) 63 = (k2 : Int)) (hk2 : k2 ≤ 63) (u2 : Nat) (f2 : bits .or .i64 ((u1 : Int) * 64) (k2 : Int) = (u2 : Int)) (hu2 : u2 ≤ 32767) (c3 : (bits .and .u8 ((s[3]'h3).toNat : Int) 192 != 128) = false) (k3 : Nat) (e3 : bits .and .u8 ((s[3]'h3).toNat : Int) 63 = (k3 : Int)) (hk3 : k3 ≤ 63) (u3 : Nat) (f3 : bits .or .i64 ((u2 : Int) * 64) (k3 : Int) = (u3 : Int)) (hu3 : u3 ≤ 2097151) (ht : 1114111 < (u3 : Int)) :
    Calls Tryd.prog 29 #[.string s] w fun e w' => e = .returned (.int .i64 0) ∧ w' = w := by
  go_enter Tryd.func29, Tryd.ntmps29
  go_wp2_with fail
  refine wp_loop_rounds 4 ?_
  rw [rounds_succ]
  go_wp2_with fail
  rw [rounds_succ]
  go_wp2_with fail
  rw [rounds_succ]
  go_wp2_with fail
  rw [rounds_succ]
  go_wp2
  go_ret
  exact ⟨rfl, rfl⟩
set_option maxRecDepth 100000 in
set_option maxHeartbeats 2000000 in
theorem sz4_ok (s : ByteArray) (w : World) (hs : s.size ≤ 65536) (h0 : 0 < s.size) (h1 : 1 < s.size) (h2 : 2 < s.size) (h3 : 3 < s.size) (hz : ¬ ((s.size : Int) < 4)) (hb1 : 240 ≤ ((s[0]'h0).toNat : Int)) (hb2 : ((s[0]'h0).toNat : Int) < 245) (k0 : Nat) (e0 : bits .and .i64 ((s[0]'h0).toNat : Int) 7 = (k0 : Int)) (hk0 : k0 ≤ 7) (c1 : (bits .and .u8 ((s[1]'h1).toNat : Int) 192 != 128) = false) (k1 : Nat) (e1 : bits .and .u8 ((s[1]'h1).toNat : Int) 63 = (k1 : Int)) (hk1 : k1 ≤ 63) (u1 : Nat) (f1 : bits .or .i64 ((k0 : Int) * 64) (k1 : Int) = (u1 : Int)) (hu1 : u1 ≤ 511) (c2 : (bits .and .u8 ((s[2]'h2).toNat : Int) 192 != 128) = false) (k2 : Nat) (e2 : bits .and .u8 ((s[2]'h2).toNat : Int) 63 = (k2 : Int)) (hk2 : k2 ≤ 63) (u2 : Nat) (f2 : bits .or .i64 ((u1 : Int) * 64) (k2 : Int) = (u2 : Int)) (hu2 : u2 ≤ 32767) (c3 : (bits .and .u8 ((s[3]'h3).toNat : Int) 192 != 128) = false) (k3 : Nat) (e3 : bits .and .u8 ((s[3]'h3).toNat : Int) 63 = (k3 : Int)) (hk3 : k3 ≤ 63) (u3 : Nat) (f3 : bits .or .i64 ((u2 : Int) * 64) (k3 : Int) = (u3 : Int)) (hu3 : u3 ≤ 2097151) (ht : 65536 ≤ (u3 : Int)) (ht2 : (u3 : Int) ≤ 1114111) :
    Calls Tryd.prog 29 #[.string s] w fun e w' => e = .returned (.int .i64 4) ∧ w' = w := by
  go_enter Tryd.func29, Tryd.ntmps29
  go_wp2_with fail
  refine wp_loop_rounds 4 ?_
  rw [rounds_succ]
  go_wp2_with fail
  rw [rounds_succ]
  go_wp2_with fail
  rw [rounds_succ]
  go_wp2_with fail
  rw [rounds_succ]
  go_wp2
  go_ret
  exact ⟨rfl, rfl⟩
end Go.Proofs.YtmfdfkbcommjfaaDoor
