/-
  Plain facts on bits and on the decoding of one rune.
-/
import Derived.Test.YtmfdfkbcommjfaaDoorRunes
import Derived.Laws.BitsAllLaws
import Derived.Laws.Bits128
import Derived.Lib.ValidU
namespace Go.Proofs.YtmfdfkbcommjfaaDoor
theorem and_all (m : Nat) (f : Nat → Nat) (h : ∀ b : Fin 256, (b.val &&& m) = f b.val) (hm : m < 256) (b : Nat) (hb : b < 256) : bits .and .u8 (b : Int) (m : Int) = ((f b : Nat) : Int) := by
  rw [u8_and_nat b m hb hm]
  exact congrArg _ (h ⟨b, hb⟩)
theorem and192 (b : Nat) (hb : b < 256) : bits .and .u8 (b : Int) 192 = ((b / 64 * 64 : Nat) : Int) := and_all 192 (fun b => b / 64 * 64) (by decide +kernel) (by omega) b hb
theorem and63 (b : Nat) (hb : b < 256) : bits .and .u8 (b : Int) 63 = ((b % 64 : Nat) : Int) := and_all 63 (fun b => b % 64) (by decide +kernel) (by omega) b hb
theorem i64_mask (q : Nat) (hm : (BitVec.ofInt 64 ((2 ^ q - 1 : Nat) : Int)).toNat = 2 ^ q - 1) (b : Nat) (hb : b < 256) : bits .and .i64 (b : Int) ((2 ^ q - 1 : Nat) : Int) = ((b % 2 ^ q : Nat) : Int) := by
  have key : (BitVec.ofInt 64 (b : Int) &&& BitVec.ofInt 64 ((2 ^ q - 1 : Nat) : Int)).toNat = b % 2 ^ q := by
    rw [BitVec.toNat_and, BitVec.toNat_ofInt, hm, Nat.and_two_pow_sub_one_eq_mod]
    congr 1
    omega
  show IntKind.i64.wrap ((BitVec.ofInt 64 (b : Int) &&& BitVec.ofInt 64 ((2 ^ q - 1 : Nat) : Int)).toNat : Nat) = _
  have hlt : b % 2 ^ q ≤ b := Nat.mod_le _ _
  rw [key, IntKind.wrap_i64]
  omega
theorem and31 (b : Nat) (hb : b < 256) : bits .and .i64 (b : Int) 31 = ((b % 32 : Nat) : Int) := i64_mask 5 (by decide) b hb
theorem and15 (b : Nat) (hb : b < 256) : bits .and .i64 (b : Int) 15 = ((b % 16 : Nat) : Int) := i64_mask 4 (by decide) b hb
theorem and7 (b : Nat) (hb : b < 256) : bits .and .i64 (b : Int) 7 = ((b % 8 : Nat) : Int) := i64_mask 3 (by decide) b hb
theorem or64 (k r : Nat) (hr : r < 64) (hk : k < 1000000) : bits .or .i64 ((k : Int) * 64) (r : Int) = ((k * 64 + r : Nat) : Int) := by
  have h1 : (BitVec.ofInt 64 ((k : Int) * 64)).toNat = k <<< 6 := by
    rw [show ((k : Int) * 64) = ((k * 64 : Nat) : Int) by omega, BitVec.ofInt_natCast, BitVec.toNat_ofNat, Nat.mod_eq_of_lt (by omega), Nat.shiftLeft_eq]
  have h2 : (BitVec.ofInt 64 (r : Int)).toNat = r := by
    rw [BitVec.ofInt_natCast, BitVec.toNat_ofNat, Nat.mod_eq_of_lt (by omega)]
  have key : (BitVec.ofInt 64 ((k : Int) * 64) ||| BitVec.ofInt 64 (r : Int)).toNat = k * 64 + r := by
    rw [BitVec.toNat_or, h1, h2, ← Nat.shiftLeft_add_eq_or_of_lt (by omega) k, Nat.shiftLeft_eq]
  show IntKind.i64.wrap ((BitVec.ofInt 64 ((k : Int) * 64) ||| BitVec.ofInt 64 (r : Int)).toNat : Nat) = _
  rw [key, IntKind.wrap_i64]
  omega
/-- the rune's bytes at the beginning of a text; 0: there is none -/
def rs (s : ByteArray) : Nat := if (Utf8.decode s 0).1 = 65533 ∧ (Utf8.decode s 0).2 = 1 then 0 else (Utf8.decode s 0).2
theorem byteAt (s : ByteArray) (k : Nat) (h : k < s.size) : (s.get! k).toNat = (s[k]'h).toNat := by
  have := Go.get_at s k h
  rw [← this]; rfl
theorem dec_low (s : ByteArray) (h0 : 128 ≤ (s.get! (0 + 0)).toNat) (h : (s.get! (0 + 0)).toNat < 192 ∨ 248 ≤ (s.get! (0 + 0)).toNat) : Utf8.decode s 0 = (65533, 1) := by
  have hb := (s.get! (0 + 0)).toNat_lt
  simp only [Utf8.decode]
  rw [if_neg (by omega), if_neg (by simp only [Bool.and_eq_true, beq_iff_eq, decide_eq_true_eq]; omega), if_neg (by simp only [Bool.and_eq_true, beq_iff_eq, decide_eq_true_eq]; omega), if_neg (by simp only [Bool.and_eq_true, beq_iff_eq, decide_eq_true_eq]; omega)]
  rfl
theorem dec_no2 (s : ByteArray) (h1 : 192 ≤ (s.get! (0 + 0)).toNat) (h2 : (s.get! (0 + 0)).toNat < 224) (h : ¬ (1 < s.size ∧ (s.get! (0 + 1)).toNat / 64 = 2)) : Utf8.decode s 0 = (65533, 1) := by
  simp only [Utf8.decode]
  rw [if_neg (by omega), if_neg (by simp only [Bool.and_eq_true, beq_iff_eq, decide_eq_true_eq]; omega), if_neg (by simp only [Bool.and_eq_true, beq_iff_eq, decide_eq_true_eq]; omega), if_neg (by simp only [Bool.and_eq_true, beq_iff_eq, decide_eq_true_eq]; omega)]
  rfl
theorem dec_yes2 (s : ByteArray) (h1 : 192 ≤ (s.get! (0 + 0)).toNat) (h2 : (s.get! (0 + 0)).toNat < 224) (h : 1 < s.size ∧ (s.get! (0 + 1)).toNat / 64 = 2) : Utf8.decode s 0 = if (s.get! (0 + 0)).toNat % 32 * 64 + (s.get! (0 + 1)).toNat % 64 ≥ 128 then ((s.get! (0 + 0)).toNat % 32 * 64 + (s.get! (0 + 1)).toNat % 64, 2) else (65533, 1) := by
  simp only [Utf8.decode]
  rw [if_neg (by omega), if_pos (by simp only [Bool.and_eq_true, beq_iff_eq, decide_eq_true_eq]; omega)]
  rfl
theorem dec_no3 (s : ByteArray) (h1 : 224 ≤ (s.get! (0 + 0)).toNat) (h2 : (s.get! (0 + 0)).toNat < 240) (h : ¬ ((1 < s.size ∧ (s.get! (0 + 1)).toNat / 64 = 2) ∧ (2 < s.size ∧ (s.get! (0 + 2)).toNat / 64 = 2))) : Utf8.decode s 0 = (65533, 1) := by
  simp only [Utf8.decode]
  rw [if_neg (by omega), if_neg (by simp only [Bool.and_eq_true, beq_iff_eq, decide_eq_true_eq]; omega), if_neg (by simp only [Bool.and_eq_true, beq_iff_eq, decide_eq_true_eq]; omega), if_neg (by simp only [Bool.and_eq_true, beq_iff_eq, decide_eq_true_eq]; omega)]
  rfl
theorem dec_yes3 (s : ByteArray) (h1 : 224 ≤ (s.get! (0 + 0)).toNat) (h2 : (s.get! (0 + 0)).toNat < 240) (h : (1 < s.size ∧ (s.get! (0 + 1)).toNat / 64 = 2) ∧ (2 < s.size ∧ (s.get! (0 + 2)).toNat / 64 = 2)) (c : Nat) (hc : c = ((s.get! (0 + 0)).toNat % 16 * 64 + (s.get! (0 + 1)).toNat % 64) * 64 + (s.get! (0 + 2)).toNat % 64) : Utf8.decode s 0 = if (decide (c ≥ 2048) && Utf8.valid c) = true then (c, 3) else (65533, 1) := by
  have e : c = (s.get! (0 + 0)).toNat % 16 * 4096 + (s.get! (0 + 1)).toNat % 64 * 64 + (s.get! (0 + 2)).toNat % 64 := by omega
  rw [e]
  simp only [Utf8.decode]
  rw [if_neg (by omega), if_neg (by simp only [Bool.and_eq_true, beq_iff_eq, decide_eq_true_eq]; omega), if_pos (by simp only [Bool.and_eq_true, beq_iff_eq, decide_eq_true_eq]; omega)]
  rfl
theorem dec_no4 (s : ByteArray) (h1 : 240 ≤ (s.get! (0 + 0)).toNat) (h2 : (s.get! (0 + 0)).toNat < 248) (h : ¬ (((1 < s.size ∧ (s.get! (0 + 1)).toNat / 64 = 2) ∧ (2 < s.size ∧ (s.get! (0 + 2)).toNat / 64 = 2)) ∧ (3 < s.size ∧ (s.get! (0 + 3)).toNat / 64 = 2))) : Utf8.decode s 0 = (65533, 1) := by
  simp only [Utf8.decode]
  rw [if_neg (by omega), if_neg (by simp only [Bool.and_eq_true, beq_iff_eq, decide_eq_true_eq]; omega), if_neg (by simp only [Bool.and_eq_true, beq_iff_eq, decide_eq_true_eq]; omega), if_neg (by simp only [Bool.and_eq_true, beq_iff_eq, decide_eq_true_eq]; omega)]
  rfl
theorem dec_yes4 (s : ByteArray) (h1 : 240 ≤ (s.get! (0 + 0)).toNat) (h2 : (s.get! (0 + 0)).toNat < 248) (h : ((1 < s.size ∧ (s.get! (0 + 1)).toNat / 64 = 2) ∧ (2 < s.size ∧ (s.get! (0 + 2)).toNat / 64 = 2)) ∧ (3 < s.size ∧ (s.get! (0 + 3)).toNat / 64 = 2)) (c : Nat) (hc : c = (((s.get! (0 + 0)).toNat % 8 * 64 + (s.get! (0 + 1)).toNat % 64) * 64 + (s.get! (0 + 2)).toNat % 64) * 64 + (s.get! (0 + 3)).toNat % 64) : Utf8.decode s 0 = if (decide (c ≥ 65536) && Utf8.valid c) = true then (c, 4) else (65533, 1) := by
  have e : c = (s.get! (0 + 0)).toNat % 8 * 262144 + (s.get! (0 + 1)).toNat % 64 * 4096 + (s.get! (0 + 2)).toNat % 64 * 64 + (s.get! (0 + 3)).toNat % 64 := by omega
  rw [e]
  simp only [Utf8.decode]
  rw [if_neg (by omega), if_neg (by simp only [Bool.and_eq_true, beq_iff_eq, decide_eq_true_eq]; omega), if_neg (by simp only [Bool.and_eq_true, beq_iff_eq, decide_eq_true_eq]; omega), if_pos (by simp only [Bool.and_eq_true, beq_iff_eq, decide_eq_true_eq]; omega)]
  rfl
theorem rs_bad {s : ByteArray} (h : Utf8.decode s 0 = (65533, 1)) : rs s = 0 := by simp [rs, h]
theorem rs_ok {s : ByteArray} {c n : Nat} (h : Utf8.decode s 0 = (c, n)) (hn : n ≠ 1 ∨ c ≠ 65533) : rs s = n := by
  simp only [rs, h]
  rw [if_neg (by omega)]
end Go.Proofs.YtmfdfkbcommjfaaDoor
