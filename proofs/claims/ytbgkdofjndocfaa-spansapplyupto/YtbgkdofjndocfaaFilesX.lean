/-
  recastalike.Fits and recastalike.Files; the same edits, applied twice.
-/
import Derived.Test.YtbgkdofjndocfaaApplyAll
import Derived.Test.YtbgkdofjndocfaaWalkI
namespace Go.Proofs.Ytbgkdofjndocfaa
open Go.RowKit Go.Maps
attribute [local go_sem ↓] Go.wp_at_zero Go.wp_at_succ
theorem neqF (p t : ByteArray) (w : World) : (binOp .neq 50 (.agg #[.string p, .string t]) (.agg #[.string p, .string t])).run Try.prog w = .ok (.bool false) w := by
  have u9 := Try.underlying9
  have a9 := Try.isAgg9
  have z9 := Try.sizeOf9
  have hS : Try.prog.underlying 50 = some (.struct (Try.prog.fieldsOf 50)) := by kernel_rfl
  have hp : Try.prog.stoodInHeld 50 = false := by kernel_rfl
  rw [run_neq_struct, show (10000 : Nat) = 9999 + 1 from rfl, run_equalIn_agg w 9999 50 _ _ hS hp]
  simp only [Program.fieldsOf, Try.underlying50]
  go_simp
theorem drewN_two (w : World) (q r : Nat) : (w.drewN q).drewN r = w.drewN (q + r) := by simp [World.drewN, Nat.add_assoc]
theorem FilesAt.drew {w : World} {F fo : Nat} {fs : List Fi} (h : FilesAt w F fo fs) (q : Nat) : FilesAt (w.drewN q) F fo fs :=
  ⟨fun j hj => by have := h.p j hj; simpa using this, fun j hj => by have := h.t j hj; simpa using this⟩
set_option maxRecDepth 100000 in
set_option maxHeartbeats 2000000 in
theorem files_any (A ac F fo fc n : Nat) (fs : List Fi) (w : World) (hn : n = fs.length) (hn1 : n ≤ 1000000) (hA : FilesAt w A 0 fs) (hF : FilesAt w F fo fs) :
    Calls Try.prog 16 #[.slice (some ⟨A, 0, none⟩) n ac, .slice (some ⟨F, fo, none⟩) n fc] w fun e w' => e = .returned (.bool true) ∧ ∃ q, w' = w.drewN q := by
  have HA : Hid (FilesAt w A 0 fs) := hA
  have HF : Hid (FilesAt w F fo fs) := hF
  have hnl : n ≤ fs.length := by omega
  have hne : ((n : Int) != (n : Int)) = false := by simp
  have hnq := neqF
  clear hA hF hn
  go_enter Try.func16, Try.ntmps16
  go_wp2_with fail
  go_loopw [5] (fun i w' => ∃ k q : Nat, k ≤ n ∧ i = .int .i64 k ∧ w' = w.drewN q) (fun i _ => n - (intOf i).toNat)
  case atStart => exact ⟨0, 0, by omega, rfl, rfl⟩
  case round =>
    obtain ⟨k, q, hk, rfl, rfl⟩ := hrel
    by_cases hlt : k < n
    · have r0 := (HA.out.drew q).p k (by omega)
      have r1 := (HA.out.drew q).t k (by omega)
      have s0 := (HF.out.drew q).p k (by omega)
      have s1 := (HF.out.drew q).t k (by omega)
      simp only [Nat.zero_add] at r0 r1
      generalize fs.getD k default = x at *
      obtain ⟨p, t⟩ := x
      simp only at r0 r1 s0 s1
      have z1 : (0 : Int) ≤ (k : Int) := by omega
      have z2 : (k : Int) < (n : Int) := by omega
      generalize hwq : w.drewN q = W at *
      go_wp2_with fail
      go_quiet (fail)
      go_wp2
      go_roundw
      case rel => exact ⟨k + 1, _, by omega, by go_num, by rw [← hwq, drewN_two]⟩
      case measure => simp [intOf]; omega
    · go_wp2
      go_ret
      exact ⟨rfl, q, rfl⟩
def sumsOk (fs : List Fi) (k : Nat) (m : Int) : Prop := ∀ j, j < k → ((fs.getD j default).1.size : Int) ≤ m ∧ ((fs.getD j default).2.size : Int) ≤ m
def FitsPost (fs : List Fi) (n : Nat) (w : World) (e : Ending) (w' : World) : Prop := ∃ b, e = .returned (.bool b) ∧ (b = true → n ≤ 6000 ∧ sumsOk fs n 6000) ∧ ∃ q, w' = w.drewN q
set_option maxRecDepth 100000 in
set_option maxHeartbeats 2000000 in
theorem fits_any (F fo fc n : Nat) (fs : List Fi) (w : World) (hn : n = fs.length) (hn1 : n ≤ 140737488355328) (hF : FilesAt w F fo fs) (hsz : ∀ j, j < fs.length → (fs.getD j default).1.size ≤ 140737488355328 ∧ (fs.getD j default).2.size ≤ 140737488355328) :
    Calls Try.prog 13 #[.slice (some ⟨F, fo, none⟩) n fc] w fun e w' => FitsPost fs n w e w' := by
  have HF : Hid (FilesAt w F fo fs) := hF
  have HSZ : Hid (∀ j, j < fs.length → (fs.getD j default).1.size ≤ 140737488355328 ∧ (fs.getD j default).2.size ≤ 140737488355328) := hsz
  have hnl : n ≤ fs.length := by omega
  clear hF hn hsz
  go_enter Try.func13, Try.ntmps13
  go_wp2_with fail
  go_loopw [3, 4] (fun s i w' => ∃ (k q : Nat) (m : Int), k ≤ n ∧ i = .int .i64 k ∧ s = .int .i64 m ∧ (n : Int) ≤ m ∧ m ≤ 400000000000000 ∧ Hid (sumsOk fs k m) ∧ w' = w.drewN q) (fun _ i _ => n - (intOf i).toNat)
  case atStart => exact ⟨0, 0, n, by omega, rfl, rfl, by omega, by omega, fun j hj => by omega, rfl⟩
  case round =>
    obtain ⟨k, q, m, hk, rfl, rfl, hm1, hm2, HS, rfl⟩ := hrel
    by_cases hlt : k < n
    · by_cases hmm : m ≤ 6000
      · have s0 := (HF.out.drew q).p k (by omega)
        have s1 := (HF.out.drew q).t k (by omega)
        have hz := HSZ.out k (by omega)
        have HS' : Hid (∀ a b : Int, ((fs.getD k default).1.size : Int) = a → ((fs.getD k default).2.size : Int) = b → 0 ≤ a → 0 ≤ b → sumsOk fs (k + 1) (m + b + a)) := fun a b ha hb h0 h1 j hj => by
          rcases Nat.lt_or_ge j k with h | h
          · have := HS.out j h; omega
          · obtain rfl : j = k := by omega
            omega
        generalize fs.getD k default = x at *
        obtain ⟨p, t⟩ := x
        simp only at s0 s1 hz
        have z1 : (0 : Int) ≤ (k : Int) := by omega
        have z2 : (k : Int) < (n : Int) := by omega
        have HS2 : Hid (sumsOk fs (k + 1) (m + (t.size : Int) + (p.size : Int))) := HS'.out _ _ rfl rfl (by omega) (by omega)
        have w1 : IntKind.i64.wrap (m + (t.size : Int)) = m + (t.size : Int) := IntWalk.i64_in _ (by omega)
        have w2 : IntKind.i64.wrap (m + (t.size : Int) + (p.size : Int)) = m + (t.size : Int) + (p.size : Int) := IntWalk.i64_in _ (by omega)
        clear HS HS'
        generalize hwq : w.drewN q = W at *
        go_wp2_with fail
        go_quiet (fail)
        go_wp2
        go_roundw
        case rel => exact ⟨k + 1, _, m + (t.size : Int) + (p.size : Int), by omega, by go_num, rfl, by omega, by omega, HS2, by rw [← hwq, drewN_two]⟩
        case measure => simp [intOf]; omega
      · go_wp2
        go_ret
        exact ⟨false, by first | rfl | exact ret_bool (decide_eq_false (by omega)), fun h => by simp at h, q, rfl⟩
    · obtain rfl : k = n := by omega
      by_cases hmm : m ≤ 6000
      · go_wp2
        go_ret
        exact ⟨true, by first | rfl | exact ret_bool (decide_eq_true (by omega)), fun _ => ⟨by omega, fun j hj => by have := HS.out j hj; omega⟩, q, rfl⟩
      · go_wp2
        go_ret
        exact ⟨false, by first | rfl | exact ret_bool (decide_eq_false (by omega)), fun h => by simp at h, q, rfl⟩
theorem Good.same {l m : List Ed} (h : ∀ x, x ∈ l ↔ x ∈ m) (hg : Good l) : Good m := hg.mono fun x hx => (h x).2 hx
theorem Srt.same {l m out : List Ed} (h : ∀ x, x ∈ l ↔ x ∈ m) (hs : Srt l out) : Srt m out := ⟨hs.good.same h, hs.pw, fun x => (hs.mem x).trans (h x)⟩
theorem ap_same {fs : List Fi} {l m : List Ed} {w w' u u' : World} {e f : Ending} (hm : ∀ x, x ∈ l ↔ x ∈ m) (h : ApPost fs l w e w') (h2 : ApPost fs m u f u') :
    (∃ out v v', e = .returned (.tuple #[v, .int .i64 0]) ∧ f = .returned (.tuple #[v', .int .i64 0]) ∧ w'.ownsRow w.heap.size 50 2 v fs.length (flatF (fs.map (newF out))) ∧ u'.ownsRow u.heap.size 50 2 v' fs.length (flatF (fs.map (newF out)))) ∨
    (e = .returned (.tuple #[.slice none 0 0, .int .i64 1]) ∧ f = .returned (.tuple #[.slice none 0 0, .int .i64 1])) := by
  rcases h.2 with ⟨out, v, hs, ha, hf, rfl, hr⟩ | ⟨hbad, rfl⟩
  · rcases h2.2 with ⟨out2, v2, hs2, _, _, rfl, hr2⟩ | ⟨hbad, _⟩
    · rw [(hs.same hm).unique hs2] at hr
      exact .inl ⟨out2, v, v2, rfl, rfl, hr, hr2⟩
    · exfalso
      rcases hbad with hb | hb | ⟨o, ho, hb⟩
      · exact hb (hs.good.same hm)
      · exact hb ha
      · rw [(hs.same hm).unique ho] at hf; exact hb hf
  · rcases h2.2 with ⟨out2, v2, hs2, ha, hf, rfl, hr2⟩ | ⟨_, rfl⟩
    · exfalso
      have hm' : ∀ x, x ∈ m ↔ x ∈ l := fun x => (hm x).symm
      rcases hbad with hb | hb | ⟨o, ho, hb⟩
      · exact hb (hs2.good.same hm')
      · exact hb ha
      · rw [(hs2.same hm').unique ho] at hf; exact hb hf
    · exact .inr ⟨rfl, rfl⟩
set_option maxRecDepth 100000 in
set_option maxHeartbeats 1000000 in
theorem files_zero (a b : Option Addr) (c c' : Nat) (w : World) : Calls Try.prog 16 #[.slice a 0 c, .slice b 0 c'] w fun e w' => e = .returned (.bool true) ∧ w' = w := by
  go_enter Try.func16, Try.ntmps16
  go_wp2
  refine wp_loop_rounds 1 ?_
  rw [rounds_succ]
  go_wp2
  go_ret
  exact ⟨rfl, rfl⟩
theorem ownF_shape {w : World} {base n : Nat} {v : Value} {xs : List Value} (h : w.ownsRow base 50 2 v n xs) : ∃ a cap, v = .slice a n cap ∧ (0 < n → ∃ g, a = some ⟨g, 0, none⟩ ∧ base ≤ g ∧ g < w.heap.size) := by
  rcases h.2 with ⟨h', rfl⟩ | ⟨g, cap, cur, h, h1, h2, h3, _⟩
  · exact ⟨none, 0, h', fun h => absurd h (by omega)⟩
  · exact ⟨some ⟨g, 0, none⟩, cap, h, fun _ => ⟨g, rfl, h1, (Array.getElem?_eq_some_iff.1 h2).1⟩⟩
theorem ownF_files {w : World} {base n g cap : Nat} {fs : List Fi} (h : w.ownsRow base 50 2 (.slice (some ⟨g, 0, none⟩) n cap) n (flatF fs)) : FilesAt w g 0 fs := by
  have hl : fs.length * 2 = n * 2 := by have := h.1; rw [flatF_len] at this; exact this
  exact ⟨fun j hj => by rw [Nat.zero_add, h.cellAt _ (by omega)]; exact (flatF_get fs j hj).1, fun j hj => by rw [Nat.zero_add, h.cellAt _ (by omega)]; exact (flatF_get fs j hj).2⟩
theorem files_rows {w : World} {b1 b2 n : Nat} {v v' : Value} {fs : List Fi} (hn : n ≤ 1000000) (h : w.ownsRow b1 50 2 v n (flatF fs)) (h2 : w.ownsRow b2 50 2 v' n (flatF fs)) : Calls Try.prog 16 #[v, v'] w fun e w' => e = .returned (.bool true) ∧ ∃ q, w' = w.drewN q := by
  obtain ⟨a, c, rfl, hs⟩ := ownF_shape h
  obtain ⟨a', c', rfl, hs'⟩ := ownF_shape h2
  have hl : n = fs.length := by have := h.1; rw [flatF_len] at this; omega
  rcases Nat.eq_zero_or_pos n with h0 | h0
  · rw [h0]
    exact (files_zero _ _ _ _ _).mono fun _ _ ⟨he, hw⟩ => ⟨he, 0, hw⟩
  · obtain ⟨g, rfl, _, _⟩ := hs h0
    obtain ⟨g', rfl, _, _⟩ := hs' h0
    exact files_any g c g' 0 c' n fs w hl hn (ownF_files h) (ownF_files h2)
set_option maxRecDepth 100000 in
set_option maxHeartbeats 1000000 in
theorem fits_zero (w : World) : Calls Try.prog 13 #[.slice none 0 0] w fun e w' => e = .returned (.bool true) ∧ w' = w := by
  go_enter Try.func13, Try.ntmps13
  go_wp2
  refine wp_loop_rounds 1 ?_
  rw [rounds_succ]
  go_wp2
  go_ret
  exact ⟨by first | rfl | exact ret_bool (by decide), rfl⟩
theorem fits_arg (v : Value) (fs : List Fi) (w : World) (hF : FiArg w v fs) (hn : fs.length ≤ 140737488355328) (hsz : ∀ j, j < fs.length → (fs.getD j default).1.size ≤ 140737488355328 ∧ (fs.getD j default).2.size ≤ 140737488355328) : Calls Try.prog 13 #[v] w fun e w' => FitsPost fs fs.length w e w' := by
  rcases hF with ⟨rfl, rfl⟩ | ⟨F, fo, c, rfl, _, he⟩
  · refine (fits_zero w).mono ?_
    rintro e w' ⟨rfl, rfl⟩
    exact ⟨true, rfl, fun _ => ⟨by simp, fun j hj => by simp at hj⟩, 0, rfl⟩
  · exact fits_any F fo c fs.length fs w rfl hn he hsz
end Go.Proofs.Ytbgkdofjndocfaa
