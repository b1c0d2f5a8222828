/-
  signAt, walked: how many bytes the longest sign has.
-/
import Derived.Test.YtmfdfkbcommjfaaDoorWalkF
namespace Go.Proofs.YtmfdfkbcommjfaaDoor
open Go.RowKit
attribute [local go_sem ↓] Go.wp_at_zero Go.wp_at_succ
def gb (s : ByteArray) (i : Nat) : UInt8 := s.data.toList.getD i 0
/-- the same, of numbers; dots: three dots stand there -/
def sgnZ (b c : Int) (dots : Bool) : Int :=
  if b == 46 then (if dots then 3 else 1)
  else if b == 38 || b == 124 then (if c == b then 2 else 1)
  else if b == 43 then (if c == 43 || c == 61 then 2 else 1)
  else if b == 45 || b == 60 then (if c == 45 then 2 else if c == 61 then 2 else 1)
  else if b == 42 || b == 47 || b == 37 || b == 33 || b == 61 || b == 62 || b == 58 then (if c == 61 then 2 else 1)
  else if b == 40 || b == 41 || b == 91 || b == 93 || b == 123 || b == 125 || b == 44 then 1
  else 0
theorem u8z (b : UInt8) (n : Nat) (hn : n < 256) : ((b.toNat : Int) == (n : Int)) = decide (b = UInt8.ofNat n) := by
  rw [Bool.eq_iff_iff, beq_iff_eq, decide_eq_true_eq]
  constructor
  · intro h; apply UInt8.toNat_inj.1; rw [UInt8.toNat_ofNat_of_lt' (by simpa using hn)]; omega
  · intro h; rw [h, UInt8.toNat_ofNat_of_lt' (by simpa using hn)]
theorem u8zz (b c : UInt8) : ((b.toNat : Int) == (c.toNat : Int)) = decide (b = c) := by
  rw [Bool.eq_iff_iff, beq_iff_eq, decide_eq_true_eq]
  exact ⟨fun h => UInt8.toNat_inj.1 (by omega), fun h => by rw [h]⟩
theorem sgnZ_eq (b c d : UInt8) (dots : Bool) (hd : b = 46 → dots = decide (c = 46 ∧ d = 46)) : sgnZ b.toNat c.toNat dots = (sgn b c d : Nat) := by
  have b46 : ((b.toNat : Int) == 46) = decide (b = 46) := u8z b 46 (by decide)
  have b38 : ((b.toNat : Int) == 38) = decide (b = 38) := u8z b 38 (by decide)
  have b124 : ((b.toNat : Int) == 124) = decide (b = 124) := u8z b 124 (by decide)
  have b43 : ((b.toNat : Int) == 43) = decide (b = 43) := u8z b 43 (by decide)
  have b45 : ((b.toNat : Int) == 45) = decide (b = 45) := u8z b 45 (by decide)
  have b60 : ((b.toNat : Int) == 60) = decide (b = 60) := u8z b 60 (by decide)
  have b42 : ((b.toNat : Int) == 42) = decide (b = 42) := u8z b 42 (by decide)
  have b47 : ((b.toNat : Int) == 47) = decide (b = 47) := u8z b 47 (by decide)
  have b37 : ((b.toNat : Int) == 37) = decide (b = 37) := u8z b 37 (by decide)
  have b33 : ((b.toNat : Int) == 33) = decide (b = 33) := u8z b 33 (by decide)
  have b61 : ((b.toNat : Int) == 61) = decide (b = 61) := u8z b 61 (by decide)
  have b62 : ((b.toNat : Int) == 62) = decide (b = 62) := u8z b 62 (by decide)
  have b58 : ((b.toNat : Int) == 58) = decide (b = 58) := u8z b 58 (by decide)
  have b40 : ((b.toNat : Int) == 40) = decide (b = 40) := u8z b 40 (by decide)
  have b41 : ((b.toNat : Int) == 41) = decide (b = 41) := u8z b 41 (by decide)
  have b91 : ((b.toNat : Int) == 91) = decide (b = 91) := u8z b 91 (by decide)
  have b93 : ((b.toNat : Int) == 93) = decide (b = 93) := u8z b 93 (by decide)
  have b123 : ((b.toNat : Int) == 123) = decide (b = 123) := u8z b 123 (by decide)
  have b125 : ((b.toNat : Int) == 125) = decide (b = 125) := u8z b 125 (by decide)
  have b44 : ((b.toNat : Int) == 44) = decide (b = 44) := u8z b 44 (by decide)
  have c43 : ((c.toNat : Int) == 43) = decide (c = 43) := u8z c 43 (by decide)
  have c61 : ((c.toNat : Int) == 61) = decide (c = 61) := u8z c 61 (by decide)
  have c45 : ((c.toNat : Int) == 45) = decide (c = 45) := u8z c 45 (by decide)
  have cb := u8zz c b
  unfold sgnZ
  simp only [b46, b38, b124, b43, b45, b60, b42, b47, b37, b33, b61, b62, b58, b40, b41, b91, b93, b123, b125, b44, c43, c61, c45, cb]
  unfold sgn
  simp only [Bool.or_eq_true, decide_eq_true_eq, or_assoc]
  by_cases h : b = 46
  · rw [hd h]
    simp only [decide_eq_true_eq, h, if_true]
    split <;> rfl
  simp only [h, if_false]
  by_cases p1 : b = 38 ∨ b = 124
  · simp only [p1, if_true]; split <;> rfl
  simp only [p1, if_false]
  by_cases p2 : b = 43
  · simp only [p2, if_true]; split <;> rfl
  simp only [p2, if_false]
  by_cases p3 : b = 45 ∨ b = 60
  · simp only [p3, if_true]; split
    · rfl
    · split <;> rfl
  simp only [p3, if_false]
  split
  · split <;> rfl
  · split <;> rfl
set_option maxRecDepth 100000 in
set_option maxHeartbeats 1000000 in
theorem sign_any (s : ByteArray) (h0 : 0 < s.size) (hs : s.size ≤ 65536) (c : Int) (hc : if h : 1 < s.size then c = ((s[1]'h).toNat : Int) else c = 0) (w : World) :
    Calls Tryd.prog 61 #[.string s] w fun e w' => e = .returned (.int .i64 (sgnZ ((s[0]'h0).toNat : Int) c (Lib.hasPrefix s.data.toList [46, 46, 46]))) ∧ w' = w := by
  have h58 := fun w => Tryd.strings_HasPrefix s ⟨#[46, 46, 46]⟩ w
  have y0 : (0 : Int) < (s.size : Int) := by omega
  have e1 : (⟨#[46, 46, 46]⟩ : ByteArray).data.toList = [46, 46, 46] := rfl
  rw [e1] at h58
  generalize Lib.hasPrefix s.data.toList [46, 46, 46] = D at *
  have y9 : (0 : Int) ≤ 0 := by omega
  by_cases h1 : 1 < s.size
  · rw [dif_pos h1] at hc
    have y1 : (1 : Int) < (s.size : Int) := by omega
    subst hc
    clear e1 y9
    go_enter Tryd.func61, Tryd.ntmps61
    go_wp2_with (go_at_call 58; refine (h58 _).mono ?_; rintro e w1 ⟨rfl, rfl⟩)
    all_goals first | (exfalso; simp_all; done) | (go_ret; refine ⟨ret_int ?_, rfl⟩; simp_all [sgnZ]; done)
  · rw [dif_neg h1] at hc
    have y1 : ¬ (1 : Int) < (s.size : Int) := by omega
    subst hc
    clear e1 y9
    go_enter Tryd.func61, Tryd.ntmps61
    go_wp2_with (go_at_call 58; refine (h58 _).mono ?_; rintro e w1 ⟨rfl, rfl⟩)
    all_goals first | (exfalso; simp_all; done) | (go_ret; refine ⟨ret_int ?_, rfl⟩; simp_all [sgnZ]; done)
end Go.Proofs.YtmfdfkbcommjfaaDoor
