/-
  ScanQuotes, called in memory that holds Go's tables of UTF-8 and any MaxLen: it returns true and leaves all that lay there as it was.
-/
import Derived.Test.YtmfdfkbcommjfaaDoorQuote
namespace Go.Proofs.YtmfdfkbcommjfaaDoor
open Go.RowKit
attribute [local go_sem ↓] Go.wp_at_zero Go.wp_at_succ
theorem okT_iff (S : ByteArray) : okT S = true ↔ Lib.validD S.data.toList = true ∧ ∀ x ∈ S.data.toList, x ≠ 0 := by
  unfold okT
  rw [idx0, Bool.and_eq_true, decide_eq_true_eq]
/-- what Tokens says of a string within quotes -/
def quoT (S : ByteArray) : List Tk := [⟨3, 0, (quo S.data.toList).length, S.data.toList⟩, ⟨6, (quo S.data.toList).length, (quo S.data.toList).length, [10]⟩, ⟨7, (quo S.data.toList).length, (quo S.data.toList).length, []⟩]
theorem read_quo (S : ByteArray) (hS : S.size ≤ 4000) (h : okT S = true) : readOf (bsL (quo S.data.toList)) = .ok ⟨quoT S, []⟩ := by
  rw [okT_iff] at h
  have e : (bsL (quo S.data.toList)).data.toList = quo S.data.toList := by simp [bsL]
  have hz : (bsL (quo S.data.toList)).size = (quo S.data.toList).length := by simp [bsL, ByteArray.size]
  have hl := quo_len S.data.toList
  rw [bal] at hl
  rw [readOf_eq, if_neg (by omega), (okT_iff _).2 (by rw [e]; exact ⟨valid_quo h.1, qb_zero h.2⟩), if_neg (by decide), e, scn_quo]
  rfl
set_option maxRecDepth 100000 in
set_option maxHeartbeats 2000000 in
theorem quotes_out (S : ByteArray) (w : World) (hM : Mem w) (h : 4000 < S.size ∨ okT S = false) : Calls Tryd.prog 8 #[.string S] w fun e w' => e = .returned (.bool true) ∧ Below w.heap.size w w' := by
  have g9 := awake_any w hM
  clear hM
  by_cases h4 : 4000 < S.size
  · have k1 : (4000 : Int) < (S.size : Int) := by omega
    go_enter Tryd.func8, Tryd.ntmps8
    go_wp2_with (go_at_call 9; refine g9.mono ?_; rintro e w1 ⟨rfl, hb1⟩; have HB1 : Hid (Below w.heap.size w w1) := hb1; clear hb1)
    go_ret
    exact ⟨rfl, HB1.out⟩
  · have k1 : decide ((4000 : Int) < (S.size : Int)) = false := decide_eq_false (by omega)
    have k1' : ¬ (4000 : Int) < (S.size : Int) := by omega
    have g19 := rvalid_any S w (by omega)
    rw [h.resolve_left h4] at g19
    go_enter Tryd.func8, Tryd.ntmps8
    go_wp2_with (first
      | (go_at_call 19; refine g19.mono ?_; rintro e w2 ⟨rfl, hw2⟩; obtain rfl := hw2.symm)
      | (go_at_call 9; refine g9.mono ?_; rintro e w1 ⟨rfl, hb1⟩; have HB1 : Hid (Below w.heap.size w w1) := hb1; clear hb1))
    go_ret
    exact ⟨rfl, HB1.out⟩
set_option maxRecDepth 100000 in
set_option maxHeartbeats 2000000 in
theorem quotes_in (S : ByteArray) (w : World) (hM : Mem w) (h4 : ¬ 4000 < S.size) (hv : okT S = true) : Calls Tryd.prog 8 #[.string S] w fun e w' => e = .returned (.bool true) ∧ Below w.heap.size w w' := by
  have k1 : decide ((4000 : Int) < (S.size : Int)) = false := decide_eq_false (by omega)
  have k1' : ¬ (4000 : Int) < (S.size : Int) := by omega
  have g19 := rvalid_any S w (by omega)
  rw [hv] at g19
  have HM : Hid (Mem w) := hM
  have g20 := quote_any S w (by omega)
  have g21 := fun W => rquote_any S W (by omega)
  have g10 := fun W (hb : Below w.heap.size w W) => tokens_q (bsL (quo S.data.toList)) W (hM.below hb)
  rw [read_quo S (by omega) hv] at g10
  have hz : (bsL (quo S.data.toList)).size = (quo S.data.toList).length := by simp [bsL, ByteArray.size]
  have hql := quo_len S.data.toList
  rw [bal] at hql
  have HT : Hid (quoT S = [⟨3, 0, (quo S.data.toList).length, S.data.toList⟩, ⟨6, (quo S.data.toList).length, (quo S.data.toList).length, [10]⟩, ⟨7, (quo S.data.toList).length, (quo S.data.toList).length, []⟩]) := rfl
  have HBS : Hid (bsL S.data.toList = S) := bsL_data S
  generalize quoT S = tq at *
  generalize hq : bsL (quo S.data.toList) = Q at *
  generalize (quo S.data.toList).length = n at *
  clear hM hv hq
  have hz' : (Q.size : Int) = (n : Int) := by omega
  go_enter Tryd.func8, Tryd.ntmps8
  go_wp2_with (first
    | (go_at_call 19; refine g19.mono ?_; rintro e w2 ⟨rfl, hw2⟩; obtain rfl := hw2.symm)
    | (go_at_call 20; refine g20.mono ?_; rintro e w1 ⟨rfl, hb1⟩; have HB1 : Hid (Below w.heap.size w w1) := hb1; have hz1 := hb1.size; clear hb1)
    | (go_at_call 10; refine (g10 _ HB1.out).mono ?_; clear g10; intro e w2 h2; obtain ⟨hb2, a2, c2, rfl, ho2⟩ := h2; have HB2 : Hid (Below w.heap.size w w2) := HB1.out.trans (hb2.mono hz1); have hz2 := hb2.size; obtain ⟨g, d, e2, hc2, x0, x1, x2, x3⟩ := (tok_open (show w2.ownsRow w1.heap.size 38 4 _ tq.length (flT tq) from ho2)).2 0 ⟨3, 0, n, S.data.toList⟩ (by rw [HT.out]; rfl); have ht3 : (roT (RO.ok ⟨tq, []⟩)).length = 3 := (by show tq.length = 3; rw [HT.out]; rfl); have ht3' : tq.length = 3 := ht3; rw [Value.slice.injEq] at e2; obtain ⟨rfl, hh2, rfl⟩ := e2; rw [ht3]; rw [ht3'] at hc2; simp only [Nat.zero_mul, Nat.zero_add] at x0 x1 x2 x3; rw [HBS.out] at x3; have hg2 : g < w2.heap.size := World.block_lt_of_cell? w2 ⟨g, 0, none⟩ x0; unfold fltV; clear hb2 ho2 hh2 ht3 ht3')
    | (go_at_call 21; refine (g21 _).mono ?_; clear g21; rintro e w3 ⟨rfl, hb3⟩; have HB3 : Hid _ := hb3; have hz3 := hb3.size; clear hb3)
    | (go_at_call 9; refine (awake_any _ (HM.out.below ((HB2.out.alloc (by omega) _).trans (HB3.out.mono (by simp; omega))))).mono ?_; rintro e w4 ⟨rfl, hb4⟩; have HB4 : Hid (Below w3.heap.size w3 w4) := hb4; clear hb4))
  go_ret
  exact ⟨rfl, ((HB2.out.alloc (by omega) _).trans (HB3.out.mono (by simp; omega))).trans (HB4.out.mono (by simp at hz3; omega))⟩
theorem quotes_any (S : ByteArray) (w : World) (hM : Mem w) : Calls Tryd.prog 8 #[.string S] w fun e w' => e = .returned (.bool true) ∧ Below w.heap.size w w' := by
  by_cases h : 4000 < S.size
  · exact quotes_out S w hM (.inl h)
  · cases hv : okT S with
    | false => exact quotes_out S w hM (.inr hv)
    | true => exact quotes_in S w hM h hv
end Go.Proofs.YtmfdfkbcommjfaaDoor
