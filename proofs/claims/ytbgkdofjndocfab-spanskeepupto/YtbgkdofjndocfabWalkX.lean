/-
  recastalike.Fits and recastalike.Files.
-/
import Derived.Test.YtbgkdofjndocfabWalkW
import Derived.Test.YtbgkdofjndocfabWalkI
namespace Go.Proofs.Ytbgkdofjndocfab
open Go.RowKit Go.Maps
attribute [local go_sem ↓] Go.wp_at_zero Go.wp_at_succ
theorem neqF (p t : ByteArray) (w : World) : (binOp .neq 32 (.agg #[.string p, .string t]) (.agg #[.string p, .string t])).run Try.prog w = .ok (.bool false) w := by
  have u9 := Try.underlying9
  have a9 := Try.isAgg9
  have z9 := Try.sizeOf9
  have hS : Try.prog.underlying 32 = some (.struct (Try.prog.fieldsOf 32)) := by kernel_rfl
  have hp : Try.prog.stoodInHeld 32 = false := by kernel_rfl
  rw [run_neq_struct, show (10000 : Nat) = 9999 + 1 from rfl, run_equalIn_agg w 9999 32 _ _ hS hp]
  simp only [Program.fieldsOf, Try.underlying32]
  go_simp
theorem drewN_two (w : World) (q r : Nat) : (w.drewN q).drewN r = w.drewN (q + r) := by simp [World.drewN, Nat.add_assoc]
theorem FilesAt.drew {w : World} {F fo : Nat} {fs : List Fi} (h : FilesAt w F fo fs) (q : Nat) : FilesAt (w.drewN q) F fo fs :=
  ⟨fun j hj => by have := h.p j hj; simpa using this, fun j hj => by have := h.t j hj; simpa using this⟩
set_option maxRecDepth 100000 in
set_option maxHeartbeats 2000000 in
theorem files_any (A ac F fo fc n : Nat) (fs : List Fi) (w : World) (hn : n = fs.length) (hn1 : n ≤ 1000000) (hA : FilesAt w A 0 fs) (hF : FilesAt w F fo fs) :
    Calls Try.prog 12 #[.slice (some ⟨A, 0, none⟩) n ac, .slice (some ⟨F, fo, none⟩) n fc] w fun e w' => e = .returned (.bool true) ∧ ∃ q, w' = w.drewN q := by
  have HA : Hid (FilesAt w A 0 fs) := hA
  have HF : Hid (FilesAt w F fo fs) := hF
  have hnl : n ≤ fs.length := by omega
  have hne : ((n : Int) != (n : Int)) = false := by simp
  have hnq := neqF
  clear hA hF hn
  go_enter Try.func12, Try.ntmps12
  go_wp2_with fail
  go_loopw [5] (fun i w' => ∃ k q : Nat, k ≤ n ∧ i = .int .i64 k ∧ w' = w.drewN q) (fun i _ => n - (intOf i).toNat)
  case atStart => exact ⟨0, 0, by omega, rfl, rfl⟩
  case round =>
    obtain ⟨k, q, hk, rfl, rfl⟩ := hrel
    by_cases hlt : k < n
    · have r0 := (HA.out.drew q).p k (by omega)
      have r1 := (HA.out.drew q).t k (by omega)
      have s0 := (HF.out.drew q).p k (by omega)
      have s1 := (HF.out.drew q).t k (by omega)
      simp only [Nat.zero_add] at r0 r1
      generalize fs.getD k default = x at *
      obtain ⟨p, t⟩ := x
      simp only at r0 r1 s0 s1
      have z1 : (0 : Int) ≤ (k : Int) := by omega
      have z2 : (k : Int) < (n : Int) := by omega
      generalize hwq : w.drewN q = W at *
      go_wp2_with fail
      go_quiet (fail)
      go_wp2
      go_roundw
      case rel => exact ⟨k + 1, _, by omega, by go_num, by rw [← hwq, drewN_two]⟩
      case measure => simp [intOf]; omega
    · go_wp2
      go_ret
      exact ⟨rfl, q, rfl⟩
def sumsOk (fs : List Fi) (k : Nat) (m : Int) : Prop := ∀ j, j < k → ((fs.getD j default).1.size : Int) ≤ m ∧ ((fs.getD j default).2.size : Int) ≤ m
def FitsPost (fs : List Fi) (n : Nat) (w : World) (e : Ending) (w' : World) : Prop := ∃ b, e = .returned (.bool b) ∧ (b = true → n ≤ 6000 ∧ sumsOk fs n 6000) ∧ ∃ q, w' = w.drewN q
set_option maxRecDepth 100000 in
set_option maxHeartbeats 2000000 in
theorem fits_any (F fo fc n : Nat) (fs : List Fi) (w : World) (hn : n = fs.length) (hn1 : n ≤ 140737488355328) (hF : FilesAt w F fo fs) (hsz : ∀ j, j < fs.length → (fs.getD j default).1.size ≤ 140737488355328 ∧ (fs.getD j default).2.size ≤ 140737488355328) :
    Calls Try.prog 11 #[.slice (some ⟨F, fo, none⟩) n fc] w fun e w' => FitsPost fs n w e w' := by
  have HF : Hid (FilesAt w F fo fs) := hF
  have HSZ : Hid (∀ j, j < fs.length → (fs.getD j default).1.size ≤ 140737488355328 ∧ (fs.getD j default).2.size ≤ 140737488355328) := hsz
  have hnl : n ≤ fs.length := by omega
  clear hF hn hsz
  go_enter Try.func11, Try.ntmps11
  go_wp2_with fail
  go_loopw [3, 4] (fun s i w' => ∃ (k q : Nat) (m : Int), k ≤ n ∧ i = .int .i64 k ∧ s = .int .i64 m ∧ (n : Int) ≤ m ∧ m ≤ 400000000000000 ∧ Hid (sumsOk fs k m) ∧ w' = w.drewN q) (fun _ i _ => n - (intOf i).toNat)
  case atStart => exact ⟨0, 0, n, by omega, rfl, rfl, by omega, by omega, fun j hj => by omega, rfl⟩
  case round =>
    obtain ⟨k, q, m, hk, rfl, rfl, hm1, hm2, HS, rfl⟩ := hrel
    by_cases hlt : k < n
    · by_cases hmm : m ≤ 6000
      · have s0 := (HF.out.drew q).p k (by omega)
        have s1 := (HF.out.drew q).t k (by omega)
        have hz := HSZ.out k (by omega)
        have HS' : Hid (∀ a b : Int, ((fs.getD k default).1.size : Int) = a → ((fs.getD k default).2.size : Int) = b → 0 ≤ a → 0 ≤ b → sumsOk fs (k + 1) (m + b + a)) := fun a b ha hb h0 h1 j hj => by
          rcases Nat.lt_or_ge j k with h | h
          · have := HS.out j h; omega
          · obtain rfl : j = k := by omega
            omega
        generalize fs.getD k default = x at *
        obtain ⟨p, t⟩ := x
        simp only at s0 s1 hz
        have z1 : (0 : Int) ≤ (k : Int) := by omega
        have z2 : (k : Int) < (n : Int) := by omega
        have HS2 : Hid (sumsOk fs (k + 1) (m + (t.size : Int) + (p.size : Int))) := HS'.out _ _ rfl rfl (by omega) (by omega)
        have w1 : IntKind.i64.wrap (m + (t.size : Int)) = m + (t.size : Int) := IntWalk.i64_in _ (by omega)
        have w2 : IntKind.i64.wrap (m + (t.size : Int) + (p.size : Int)) = m + (t.size : Int) + (p.size : Int) := IntWalk.i64_in _ (by omega)
        clear HS HS'
        generalize hwq : w.drewN q = W at *
        go_wp2_with fail
        go_quiet (fail)
        go_wp2
        go_roundw
        case rel => exact ⟨k + 1, _, m + (t.size : Int) + (p.size : Int), by omega, by go_num, rfl, by omega, by omega, HS2, by rw [← hwq, drewN_two]⟩
        case measure => simp [intOf]; omega
      · go_wp2
        go_ret
        exact ⟨false, by first | rfl | exact ret_bool (decide_eq_false (by omega)), fun h => by simp at h, q, rfl⟩
    · obtain rfl : k = n := by omega
      by_cases hmm : m ≤ 6000
      · go_wp2
        go_ret
        exact ⟨true, by first | rfl | exact ret_bool (decide_eq_true (by omega)), fun _ => ⟨by omega, fun j hj => by have := HS.out j hj; omega⟩, q, rfl⟩
      · go_wp2
        go_ret
        exact ⟨false, by first | rfl | exact ret_bool (decide_eq_false (by omega)), fun h => by simp at h, q, rfl⟩
end Go.Proofs.Ytbgkdofjndocfab
