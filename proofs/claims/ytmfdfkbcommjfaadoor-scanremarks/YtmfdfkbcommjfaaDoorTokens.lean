/-
  ScanTokens, called in memory that holds Go's tables of UTF-8 and any MaxLen: it returns true and leaves all that lay there as it was.
-/
import Derived.Test.YtmfdfkbcommjfaaDoorRefL
import Derived.Test.YtmfdfkbcommjfaaDoorSame
import Derived.Test.YtmfdfkbcommjfaaDoorSaD
namespace Go.Proofs.YtmfdfkbcommjfaaDoor
open Go.RowKit
attribute [local go_sem ↓] Go.wp_at_zero Go.wp_at_succ
theorem scn_len (r : List UInt8) : ∀ (k p : Nat) (s st : St), scn r k p s = .ok st → st.toks.length ≤ s.toks.length + r.length + 2 ∧ st.rems.length ≤ s.rems.length + r.length := by
  induction r with
  | nil =>
    intro k p s st h
    have e : scn [] k p s = .ok ⟨eol p s.toks ++ [⟨7, p, p, []⟩], s.rems⟩ := by cases k <;> rfl
    rw [e] at h
    obtain rfl := Except.ok.inj h
    have := eol_len p s.toks
    exact ⟨by simp; omega, by simp⟩
  | cons b t ih =>
    intro k p s st h
    cases k with
    | succ k => rw [scn] at h; have := ih _ _ _ _ h; simp only [List.length_cons]; omega
    | zero =>
      rw [scn_ok (scn_not_bad (by simp) h)] at h
      have := ih _ _ _ _ h
      have := stp_len p s (pcOf (b :: t))
      simp only [List.length_cons]; omega
theorem readOf_len (S : ByteArray) : (roT (readOf S)).length ≤ 70000 ∧ (roR (readOf S)).length ≤ 70000 := by
  rw [readOf_eq]
  split
  · exact ⟨by simp [roT], by simp [roR]⟩
  · rename_i hS
    split
    · exact ⟨by simp [roT], by simp [roR]⟩
    · cases h : scn S.data.toList 0 0 ⟨[], []⟩ with
      | error o => exact ⟨by simp [ro, roT], by simp [ro, roR]⟩
      | ok st =>
        have := scn_len _ _ _ _ _ h
        rw [bal] at this
        simp only [ro, roT, roR]
        simp at this
        omega
set_option maxRecDepth 100000 in
set_option maxHeartbeats 400000 in
theorem tokensLaw_great (S : ByteArray) (w : World) (h : 4000 < S.size) (hM : Mem w) : Calls Tryd.prog 3 #[.string S] w fun e w' => e = .returned (.bool true) ∧ Below w.heap.size w w' := by
  have k1 : (4000 : Int) < (S.size : Int) := by omega
  have g9 := fun W (hb : Below w.heap.size w W) => awake_any W (hM.below hb)
  have HB0 : Hid (Below w.heap.size w w) := Below.refl _ _
  have H9 : Hid _ := g9
  clear hM g9
  go_enter Tryd.func3, Tryd.ntmps3
  go_wp2_with (go_at_call 9; refine (H9.out _ (by first | exact HB0.out | exact ((Below.refl _ _).alloc (Nat.le_refl _) _) | exact (((Below.refl _ _).alloc (Nat.le_refl _) _).alloc (by simp) _))).mono ?_; rintro e w1 ⟨rfl, hb1⟩; have HB1 : Hid _ := hb1; clear hb1)
  go_ret
  exact ⟨rfl, HB1.out⟩
set_option maxRecDepth 100000 in
set_option maxHeartbeats 2000000 in
theorem tokensLaw_in (S : ByteArray) (w : World) (h : ¬ 4000 < S.size) (hM : Mem w) : Calls Tryd.prog 3 #[.string S] w fun e w' => e = .returned (.bool true) ∧ Below w.heap.size w w' := by
  have k1 : ¬ (4000 : Int) < (S.size : Int) := by omega
  have HM : Hid (Mem w) := hM
  have HL : Hid _ := readOf_len S
  have g10 := fun W (hb : Below w.heap.size w W) => tokens_q S W (hM.below hb)
  have g11 := fun W => rtokens_any S W
  generalize readOf S = r at *
  have H10 : Hid _ := g10
  clear hM g10
  obtain ⟨C, hC⟩ : ∃ C : Int, (roC r : Int) = C := ⟨_, rfl⟩
  obtain ⟨A, hA⟩ : ∃ A : Int, (roA r : Int) = A := ⟨_, rfl⟩
  have HC : Hid (fltV (roC r) (roA r) = .agg #[.int .i64 C, .string ⟨#[]⟩, .int .i64 A]) := by show _ = _; rw [fltV, hC, hA]
  clear hC hA
  go_enter Tryd.func3, Tryd.ntmps3
  go_wp2_with (first
    | (go_at_call 10; refine (H10.out _ (Below.refl _ _)).mono ?_; rintro e w1 ⟨hb1, a1, c1, rfl, ho1⟩; rw [HC.out]; have HB1 : Hid (Below w.heap.size w w1) := hb1; have hz1 := hb1.size; have HO1 : Hid (w1.ownsRow w.heap.size 38 4 (.slice a1 (roT r).length c1) (roT r).length (flT (roT r))) := ho1; clear hb1 ho1)
    | (go_at_call 11; refine (g11 _).mono ?_; rintro e w2 ⟨hb2, a2, c2, rfl, ho2⟩; rw [HC.out]; have HB2 : Hid (Below (w1.alloc (.cells #[.int .i64 C, .string ⟨#[]⟩, .int .i64 A] 25)).heap.size (w1.alloc (.cells #[.int .i64 C, .string ⟨#[]⟩, .int .i64 A] 25)) w2) := hb2; have hz2 : w1.heap.size < w2.heap.size := (by have := hb2.size; simp at this; omega); have HO2 : Hid (w2.ownsRow (w1.alloc (.cells #[.int .i64 C, .string ⟨#[]⟩, .int .i64 A] 25)).heap.size 38 4 (.slice a2 (roT r).length c2) (roT r).length (flT (roT r))) := ho2; have x : w2.heap[w1.heap.size]? = some (.cells #[.int .i64 C, .string ⟨#[]⟩, .int .i64 A] 25 (0, 0)) := (hb2.block _ (by simp)).trans (heap_alloc_new w1 _); have HX : Hid (w2.heap[w1.heap.size]? = some (.cells #[.int .i64 C, .string ⟨#[]⟩, .int .i64 A] 25 (0, 0))) := x; clear hb2 ho2 x))
  go_at_call 12
  refine (same_any _ _ _ _ _ (roT r) ((HO1.out.below (((Below.refl _ _).alloc (Nat.le_refl _) _).trans (HB2.out.mono (by simp)))).alloc _) (HO2.out.alloc _) (by have := HL.out.1; omega)).mono ?_
  rintro e w3 ⟨rfl, hb3⟩
  have HB3 : Hid (Below (w2.alloc (.cells #[.int .i64 C, .string ⟨#[]⟩, .int .i64 A] 25)).heap.size (w2.alloc (.cells #[.int .i64 C, .string ⟨#[]⟩, .int .i64 A] 25)) w3) := hb3
  have z3 := hb3.size
  have x1 : w3.heap[w1.heap.size]? = some (.cells #[.int .i64 C, .string ⟨#[]⟩, .int .i64 A] 25 (0, 0)) := (hb3.block _ (by simp; omega)).trans ((Below.heap_alloc _ _ _ hz2).trans HX.out)
  have x2 : w3.heap[w2.heap.size]? = some (.cells #[.int .i64 C, .string ⟨#[]⟩, .int .i64 A] 25 (0, 0)) := (hb3.block _ (by simp)).trans (heap_alloc_new w2 _)
  have y0 := cell_of x1 0
  have y1 := cell_of x1 1
  have y2 := cell_of x1 2
  have y3 := cell_of x2 0
  have y4 := cell_of x2 1
  have y5 := cell_of x2 2
  clear hb3 x1 x2
  go_wp2_with (go_at_call 9; refine (awake_any _ (HM.out.below ((HB1.out.alloc (by omega) _).trans ((HB2.out.mono (by simp; omega)).trans (((Below.refl _ _).alloc (by omega) _).trans (HB3.out.mono (by simp; omega))))))).mono ?_; rintro e w4 ⟨rfl, hb4⟩; have HB4 : Hid (Below w3.heap.size w3 w4) := hb4; clear hb4)
  go_ret
  refine ⟨rfl, ?_⟩
  exact ((HB1.out.alloc (by omega) _).trans ((HB2.out.mono (by simp; omega)).trans (((Below.refl _ _).alloc (by omega) _).trans (HB3.out.mono (by simp; omega))))).trans (HB4.out.mono (by simp at z3; omega))
theorem tokensLaw_any (S : ByteArray) (w : World) (hM : Mem w) : Calls Tryd.prog 3 #[.string S] w fun e w' => e = .returned (.bool true) ∧ Below w.heap.size w w' := by
  by_cases h : 4000 < S.size
  · exact tokensLaw_great S w h hM
  · exact tokensLaw_in S w h hM
end Go.Proofs.YtmfdfkbcommjfaaDoor
