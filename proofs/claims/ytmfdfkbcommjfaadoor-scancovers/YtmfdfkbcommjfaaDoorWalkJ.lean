/-
  escape of the reader, walked.
-/
import Derived.Test.YtmfdfkbcommjfaaDoorWalkF
namespace Go.Proofs.YtmfdfkbcommjfaaDoor
open Go.RowKit
attribute [local go_sem ↓] Go.wp_at_zero Go.wp_at_succ
theorem esc_index (b : UInt8) : (escOf b = none ∧ Lib.indexByte [92, 34, 110, 116] b = -1) ∨ (b = 92 ∧ escOf b = some 92 ∧ Lib.indexByte [92, 34, 110, 116] b = 0) ∨ (b = 34 ∧ escOf b = some 34 ∧ Lib.indexByte [92, 34, 110, 116] b = 1) ∨ (b = 110 ∧ escOf b = some 10 ∧ Lib.indexByte [92, 34, 110, 116] b = 2) ∨ (b = 116 ∧ escOf b = some 9 ∧ Lib.indexByte [92, 34, 110, 116] b = 3) := by
  by_cases h1 : b = 92
  · subst h1; exact .inr (.inl ⟨rfl, rfl, rfl⟩)
  by_cases h2 : b = 34
  · subst h2; exact .inr (.inr (.inl ⟨rfl, rfl, rfl⟩))
  by_cases h3 : b = 110
  · subst h3; exact .inr (.inr (.inr (.inl ⟨rfl, rfl, rfl⟩)))
  by_cases h4 : b = 116
  · subst h4; exact .inr (.inr (.inr (.inr ⟨rfl, rfl, rfl⟩)))
  left
  have k : ∀ x : UInt8, b ≠ x → (x == b) = false := fun x h => by rw [Bool.eq_false_iff]; intro q; exact h (eq_of_beq q).symm
  simp [escOf, h1, h2, h3, h4, Lib.indexByte, k]
set_option maxRecDepth 100000 in
set_option maxHeartbeats 1000000 in
theorem esc_some (w : World) (R : Nat) (S : ByteArray) (c0 : w.cell? ⟨R, 0, none⟩ = some (.string S)) (hlt : R < w.heap.size) (p : Nat) (hp : p + 1 < S.size) (hS : S.size ≤ 65536) (x : UInt8) (hx : escOf (S[p + 1]'hp) = some x) :
    Calls Tryd.prog 64 #[.pointer (some ⟨R, 0, none⟩), .int .i64 p] w fun e w' => e = .returned (.int .u8 x.toNat) ∧ w' = w := by
  have h31 := fun w => Tryd.strings_IndexByte ⟨#[92, 34, 110, 116]⟩ ((S[p + 1]'hp).toNat : Int) w
  have e1 : (((S[p + 1]'hp).toNat : Int).toNat.toUInt8) = S[p + 1]'hp := by simp
  have e2 : (⟨#[92, 34, 110, 116]⟩ : ByteArray).data.toList = [92, 34, 110, 116] := rfl
  rw [e1, e2] at h31
  have z1 : (p : Int) + 1 < (S.size : Int) := by omega
  have z2 : (0 : Int) ≤ (p : Int) + 1 := by omega
  have z3 : ((p : Int) + 1).toNat = p + 1 := by omega
  clear e1 e2
  rcases esc_index (S[p + 1]'hp) with ⟨h, _⟩ | ⟨hb, h, hi⟩ | ⟨hb, h, hi⟩ | ⟨hb, h, hi⟩ | ⟨hb, h, hi⟩
  · rw [hx] at h; cases h
  all_goals
   rw [hx] at h
   have h := Option.some.inj h
   subst h
   rw [hi] at h31
   clear hi hx hb
   go_enter Tryd.func64, Tryd.ntmps64
   go_wp2_with (go_at_call 31; refine (h31 _).mono ?_; rintro e w1 ⟨rfl, rfl⟩)
   go_ret
   exact ⟨rfl, rfl⟩
set_option maxRecDepth 100000 in
set_option maxHeartbeats 1000000 in
theorem esc_none (w : World) (base R : Nat) (S : ByteArray) (c0 : w.cell? ⟨R, 0, none⟩ = some (.string S)) (hlt : R < w.heap.size) (hle : base ≤ R) (p : Nat) (hp : p < S.size) (hS : S.size ≤ 65536) (hx : ∀ h : p + 1 < S.size, escOf (S[p + 1]'h) = none) :
    Calls Tryd.prog 64 #[.pointer (some ⟨R, 0, none⟩), .int .i64 p] w (PanP w base p) := by
  by_cases hp1 : p + 1 < S.size
  · have h31 := fun w => Tryd.strings_IndexByte ⟨#[92, 34, 110, 116]⟩ ((S[p + 1]'hp1).toNat : Int) w
    have e1 : (((S[p + 1]'hp1).toNat : Int).toNat.toUInt8) = S[p + 1]'hp1 := by simp
    have e2 : (⟨#[92, 34, 110, 116]⟩ : ByteArray).data.toList = [92, 34, 110, 116] := rfl
    rw [e1, e2] at h31
    have z1 : (p : Int) + 1 < (S.size : Int) := by omega
    have z2 : (0 : Int) ≤ (p : Int) + 1 := by omega
    have z3 : ((p : Int) + 1).toNat = p + 1 := by omega
    have hx1 := hx hp1
    clear e1 e2 hx
    rcases esc_index (S[p + 1]'hp1) with ⟨_, hi⟩ | ⟨_, h, _⟩ | ⟨_, h, _⟩ | ⟨_, h, _⟩ | ⟨_, h, _⟩
    · rw [hi] at h31
      clear hi hx1
      go_enter Tryd.func64, Tryd.ntmps64
      go_wp2_with (first | (go_at_call 31; refine (h31 _).mono ?_; rintro e w1 ⟨rfl, rfl⟩) | (go_at_call 62; refine (wrongAt_any _ _).mono ?_; rintro e w2 ⟨rfl, rfl⟩))
      exact ⟨rfl, rfl, (((Below.refl _ _).alloc (Nat.le_refl _) _).mono (by omega))⟩
    all_goals (rw [hx1] at h; cases h)
  · have z1 : ¬ (p : Int) + 1 < (S.size : Int) := by omega
    clear hx
    go_enter Tryd.func64, Tryd.ntmps64
    go_wp2_with (go_at_call 62; refine (wrongAt_any _ _).mono ?_; rintro e w2 ⟨rfl, rfl⟩)
    exact ⟨rfl, rfl, (((Below.refl _ _).alloc (Nat.le_refl _) _).mono (by omega))⟩
end Go.Proofs.YtmfdfkbcommjfaaDoor
