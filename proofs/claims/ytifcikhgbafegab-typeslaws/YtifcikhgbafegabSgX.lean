/-
  Rows of addresses: small facts.
-/
import Derived.Test.YtifcikhgbafegabSgf
namespace Go.Proofs.Ytifcikhgbafegab
theorem kidA_nil (b o : Nat) : kidA b o 0 = [] := by simp [kidA]
theorem tellP_nil (s : ByteArray) : tellP s [] = [] := rfl
theorem tellP_one (s : ByteArray) (a : Addr) : tellP s [a] = [ty a] := rfl
theorem tellP_lenK (s : ByteArray) (b o n : Nat) : (tellP s (kidA b o n)).length ≤ 2 * n := by
  have := tellP_len s (kidA b o n)
  rwa [kidA_len] at this
end Go.Proofs.Ytifcikhgbafegab

/-
  signature, walked: SgA.
-/
namespace Go.Proofs.Ytifcikhgbafegab
open Go.RowKit
attribute [local go_sem ↓] Go.wp_at_zero Go.wp_at_succ
attribute [local simp] kidA_len kidA_nil tellP_one tellP_nil kidA_one
set_option maxRecDepth 100000 in
set_option maxHeartbeats 8000000 in
theorem sig_N1 {w : World} {L : Nat} {rb : Option Nat} {ps : List ElQ} {b o N kb ko c sb so : Nat} {a : Option Addr} (h : Ln w L rb ps) (hbL : b ≠ L) (hbr : rb ≠ some b)
    (h2 : w.cell? ⟨b, o + 2, none⟩ = some (.int .i64 (N : Int))) (h3 : w.cell? ⟨b, o + 3, none⟩ = some (.bool false)) (h6 : w.cell? ⟨b, o + 6, none⟩ = some (.slice a (N + 1) c)) (ha : 0 < N + 1 → a = some ⟨kb, ko, none⟩) (hn : ps.length + 2 * (N + 1) + 20 ≤ 1000000) :
    Calls Try.prog 39 #[.pointer (some ⟨L, 0, none⟩), pv ⟨b, o, none⟩] w fun e w' => (∃ u, e = .returned u) ∧ LQ w L rb (ps ++ sgP false N (N + 1) kb ko ⟨sb, so, none⟩) w' := by
  have hk := kids2_any (kb := kb) (ko := ko) h6 ha (by omega)
  have hLw := h.lt
  have hrw := h.row_lt
  have HH : Hid (Ln w L rb ps) := h
  have H2 : Hid (w.cell? ⟨b, o + 2, none⟩ = some (.int .i64 (N : Int))) := h2
  have H3 : Hid (w.cell? ⟨b, o + 3, none⟩ = some (.bool false)) := h3
  have hmx : max (0 : Int) (N : Int) = (N : Int) := by omega
  have hmn : min (N : Int) ((N : Int) + 1) = (N : Int) := by omega
  clear h h2 h3 h6 ha
  go_enter Try.func39, Try.ntmps39
  go_wp2_with fail
  refine hk.mono ?_
  intro e w1 hq
  obtain ⟨g, c1, rfl, hr⟩ := hq.ex
  rw [kidA_len] at hr
  rw [kidA_len]
  have hcap : N + 1 ≤ c1 := by
    rcases hr.2 with ⟨h, _⟩ | ⟨g', cap', cur, h, _, _, h4, _⟩
    · cases h
    · cases h; exact h4
  have hcI : ((N : Int) + 1) ≤ (c1 : Int) := by omega
  have hgw := (hr.lt g rfl)
  have HP : Hid (PtV (fun b => b ≠ L ∧ rb ≠ some b) w1 (.slice (some ⟨g, 0, none⟩) (N + 1) c1) (kidA kb ko (N + 1))) := ptV_own hr (by rw [kidA_len]) (by omega) (own_blk9 ⟨by omega, fun e => by have := (hrw _ e).1; omega⟩)
  have HB1 : Hid (Below w.heap.size w w1) := hq.bl
  have HQ0 : Hid (LQ w1 L rb ps w1) := LQ.refl (HH.out.kept (X := fun _ => False) (Kx.of_whole hq.bl) (fun h => h) (fun _ _ h => h))
  have HEND : Hid (∀ ps' w', LQ w1 L rb ps' w' → LQ w L rb ps' w') := fun ps' w' hq' => LQ.then (fun _ h => .inl h) (Kx.of_whole HB1.out) hq'
  have k2 : w1.cell? ⟨b, o + 2, none⟩ = some (.int .i64 (N : Int)) := kept_cell hq.bl H2.out
  have H3' : Hid (w1.cell? ⟨b, o + 3, none⟩ = some (.bool false)) := kept_cell hq.bl H3.out
  clear hq hr hk
  have HPP : Hid (PtV (fun b => b ≠ L ∧ rb ≠ some b) w1 (.slice (some ⟨g, 0, none⟩) N c1) (kidA kb ko N)) := by
    have := HP.out.cut (i := 0) (m := N) (c' := c1) (by rw [kidA_len]; omega)
    rwa [List.drop_zero, kidA_take _ _ _ _ (by omega)] at this
  have HPR : Hid (PtV (fun b => b ≠ L ∧ rb ≠ some b) w1 (.slice (some ⟨g, N, none⟩) 1 (c1 - N)) [⟨kb, ko + N * 7, none⟩]) := by
    have := HP.out.cut (i := N) (m := 1) (c' := c1 - N) (by rw [kidA_len]; omega)
    rwa [kidA_drop, show N + 1 - N = 1 by omega, kidA_one, List.take_of_length_le (by simp)] at this
  have z1 : decide ((N : Int) ≤ (c1 : Int)) = true := decide_eq_true (by omega)
  have z3 : (N : Int) ≤ (c1 : Int) := by omega
  have z4 : N ≤ c1 := by omega
  have z5 : c1 ≠ N := by omega
  have z6 : N ≠ c1 := by omega
  have z7 : ¬ c1 - N = 0 := by omega
  go_wp2_with fail
  first | go_quiet (fail) | go_big_quiet (fail)
  go_wp2_with fail
  have HQa : Hid (LQ w1 L rb ps (w1.drewN nq)) := HQ0.out.still (below_dn _ _)
  refine (HQa.out.put ⟨#[40]⟩ (by omega)).mono ?_
  rintro e v1 ⟨⟨u1, rfl⟩, hq⟩
  have HQ1 : Hid _ := hq
  have y3 := hq.cell H3'.out hbL hbr
  clear hq
  go_wp2_with fail
  refine (HQ1.out.tell ⟨#[44, 32]⟩ HPP.out (by simp; omega)).mono ?_
  rintro e v2 ⟨⟨u2, rfl⟩, hq⟩
  have HQ2 : Hid _ := hq
  clear hq
  go_wp2_with fail
  refine (HQ2.out.put ⟨#[41]⟩ (by have hA := tellP_lenK ⟨#[44, 32]⟩ kb ko N; simp; omega)).mono ?_
  rintro e v3 ⟨⟨u3, rfl⟩, hq⟩
  have HQ3 : Hid _ := hq
  clear hq
  go_wp2_with fail
  refine (HQ3.out.put ⟨#[32]⟩ (by have hA := tellP_lenK ⟨#[44, 32]⟩ kb ko N; simp; omega)).mono ?_
  rintro e v4 ⟨⟨u4, rfl⟩, hq⟩
  have HQ4 : Hid _ := hq
  clear hq
  go_wp2_with fail
  refine (HQ4.out.tell ⟨#[]⟩ HPR.out (by have hA := tellP_lenK ⟨#[44, 32]⟩ kb ko N; simp; omega)).mono ?_
  rintro e v5 ⟨⟨u5, rfl⟩, hq⟩
  have HQ5 : Hid _ := hq
  clear hq
  go_wp2_with fail
  go_end0
  refine ⟨⟨_, rfl⟩, HEND.out _ _ ?_⟩
  have hfin := HQ5.out
  simpa [sgP, show N + 1 - N = 1 by omega] using hfin
set_option maxRecDepth 100000 in
set_option maxHeartbeats 8000000 in
theorem sig_N0 {w : World} {L : Nat} {rb : Option Nat} {ps : List ElQ} {b o N kb ko c sb so : Nat} {a : Option Addr} (h : Ln w L rb ps) (hbL : b ≠ L) (hbr : rb ≠ some b)
    (h2 : w.cell? ⟨b, o + 2, none⟩ = some (.int .i64 (N : Int))) (h3 : w.cell? ⟨b, o + 3, none⟩ = some (.bool false)) (h6 : w.cell? ⟨b, o + 6, none⟩ = some (.slice a (N) c)) (ha : 0 < N → a = some ⟨kb, ko, none⟩) (hn : ps.length + 2 * (N) + 20 ≤ 1000000) :
    Calls Try.prog 39 #[.pointer (some ⟨L, 0, none⟩), pv ⟨b, o, none⟩] w fun e w' => (∃ u, e = .returned u) ∧ LQ w L rb (ps ++ sgP false N (N) kb ko ⟨sb, so, none⟩) w' := by
  have hk := kids2_any (kb := kb) (ko := ko) h6 ha (by omega)
  have hLw := h.lt
  have hrw := h.row_lt
  have HH : Hid (Ln w L rb ps) := h
  have H2 : Hid (w.cell? ⟨b, o + 2, none⟩ = some (.int .i64 (N : Int))) := h2
  have H3 : Hid (w.cell? ⟨b, o + 3, none⟩ = some (.bool false)) := h3
  have hmx : max (0 : Int) (N : Int) = (N : Int) := by omega
  have hmn : min (N : Int) (N : Int) = (N : Int) := by omega
  clear h h2 h3 h6 ha
  go_enter Try.func39, Try.ntmps39
  go_wp2_with fail
  refine hk.mono ?_
  intro e w1 hq
  obtain ⟨g, c1, rfl, hr⟩ := hq.ex
  rw [kidA_len] at hr
  rw [kidA_len]
  have hcap : N ≤ c1 := by
    rcases hr.2 with ⟨h, _⟩ | ⟨g', cap', cur, h, _, _, h4, _⟩
    · cases h
    · cases h; exact h4
  have hcI : (N : Int) ≤ (c1 : Int) := by omega
  have hgw := (hr.lt g rfl)
  have HP : Hid (PtV (fun b => b ≠ L ∧ rb ≠ some b) w1 (.slice (some ⟨g, 0, none⟩) (N) c1) (kidA kb ko (N))) := ptV_own hr (by rw [kidA_len]) (by omega) (own_blk9 ⟨by omega, fun e => by have := (hrw _ e).1; omega⟩)
  have HB1 : Hid (Below w.heap.size w w1) := hq.bl
  have HQ0 : Hid (LQ w1 L rb ps w1) := LQ.refl (HH.out.kept (X := fun _ => False) (Kx.of_whole hq.bl) (fun h => h) (fun _ _ h => h))
  have HEND : Hid (∀ ps' w', LQ w1 L rb ps' w' → LQ w L rb ps' w') := fun ps' w' hq' => LQ.then (fun _ h => .inl h) (Kx.of_whole HB1.out) hq'
  have k2 : w1.cell? ⟨b, o + 2, none⟩ = some (.int .i64 (N : Int)) := kept_cell hq.bl H2.out
  have H3' : Hid (w1.cell? ⟨b, o + 3, none⟩ = some (.bool false)) := kept_cell hq.bl H3.out
  clear hq hr hk
  have HPP : Hid (PtV (fun b => b ≠ L ∧ rb ≠ some b) w1 (.slice (some ⟨g, 0, none⟩) N c1) (kidA kb ko N)) := by
    have := HP.out.cut (i := 0) (m := N) (c' := c1) (by rw [kidA_len]; omega)
    rwa [List.drop_zero, kidA_take _ _ _ _ (by omega)] at this
  by_cases hE : N = c1
  · subst hE
    have z1 : decide ((N : Int) ≤ (N : Int)) = true := decide_eq_true (by omega)
    have z3 : (N : Int) ≤ (N : Int) := by omega
    have z4 : N ≤ N := by omega
    go_wp2_with fail
    first | go_quiet (fail) | go_big_quiet (fail)
    go_wp2_with fail
    have HQa : Hid (LQ w1 L rb ps (w1.drewN nq)) := HQ0.out.still (below_dn _ _)
    refine (HQa.out.put ⟨#[40]⟩ (by omega)).mono ?_
    rintro e v1 ⟨⟨u1, rfl⟩, hq⟩
    have HQ1 : Hid _ := hq
    have y3 := hq.cell H3'.out hbL hbr
    clear hq
    go_wp2_with fail
    refine (HQ1.out.tell ⟨#[44, 32]⟩ HPP.out (by simp; omega)).mono ?_
    rintro e v2 ⟨⟨u2, rfl⟩, hq⟩
    have HQ2 : Hid _ := hq
    clear hq
    go_wp2_with fail
    refine (HQ2.out.put ⟨#[41]⟩ (by have hA := tellP_lenK ⟨#[44, 32]⟩ kb ko N; simp; omega)).mono ?_
    rintro e v3 ⟨⟨u3, rfl⟩, hq⟩
    have HQ3 : Hid _ := hq
    clear hq
    go_wp2_with fail
    go_end0
    refine ⟨⟨_, rfl⟩, HEND.out _ _ ?_⟩
    have hfin := HQ3.out
    simpa [sgP, show N - N = 0 by omega] using hfin
  · have z1 : decide ((N : Int) ≤ (c1 : Int)) = true := decide_eq_true (by omega)
    have z3 : (N : Int) ≤ (c1 : Int) := by omega
    have z4 : N ≤ c1 := by omega
    have z5 : c1 ≠ N := by omega
    have z6 : N ≠ c1 := by omega
    have z7 : ¬ c1 - N = 0 := by omega
    go_wp2_with fail
    first | go_quiet (fail) | go_big_quiet (fail)
    go_wp2_with fail
    have HQa : Hid (LQ w1 L rb ps (w1.drewN nq)) := HQ0.out.still (below_dn _ _)
    refine (HQa.out.put ⟨#[40]⟩ (by omega)).mono ?_
    rintro e v1 ⟨⟨u1, rfl⟩, hq⟩
    have HQ1 : Hid _ := hq
    have y3 := hq.cell H3'.out hbL hbr
    clear hq
    go_wp2_with fail
    refine (HQ1.out.tell ⟨#[44, 32]⟩ HPP.out (by simp; omega)).mono ?_
    rintro e v2 ⟨⟨u2, rfl⟩, hq⟩
    have HQ2 : Hid _ := hq
    clear hq
    go_wp2_with fail
    refine (HQ2.out.put ⟨#[41]⟩ (by have hA := tellP_lenK ⟨#[44, 32]⟩ kb ko N; simp; omega)).mono ?_
    rintro e v3 ⟨⟨u3, rfl⟩, hq⟩
    have HQ3 : Hid _ := hq
    clear hq
    go_wp2_with fail
    go_end0
    refine ⟨⟨_, rfl⟩, HEND.out _ _ ?_⟩
    have hfin := HQ3.out
    simpa [sgP, show N - N = 0 by omega] using hfin
set_option maxRecDepth 100000 in
set_option maxHeartbeats 8000000 in
theorem sig_N2 {w : World} {L : Nat} {rb : Option Nat} {ps : List ElQ} {b o N q kb ko c sb so : Nat} {a : Option Addr} (h : Ln w L rb ps) (hbL : b ≠ L) (hbr : rb ≠ some b)
    (h2 : w.cell? ⟨b, o + 2, none⟩ = some (.int .i64 (N : Int))) (h3 : w.cell? ⟨b, o + 3, none⟩ = some (.bool false)) (h6 : w.cell? ⟨b, o + 6, none⟩ = some (.slice a (N + (q + 2)) c)) (ha : 0 < N + (q + 2) → a = some ⟨kb, ko, none⟩) (hn : ps.length + 2 * (N + (q + 2)) + 20 ≤ 1000000) :
    Calls Try.prog 39 #[.pointer (some ⟨L, 0, none⟩), pv ⟨b, o, none⟩] w fun e w' => (∃ u, e = .returned u) ∧ LQ w L rb (ps ++ sgP false N (N + (q + 2)) kb ko ⟨sb, so, none⟩) w' := by
  have hk := kids2_any (kb := kb) (ko := ko) h6 ha (by omega)
  have hLw := h.lt
  have hrw := h.row_lt
  have HH : Hid (Ln w L rb ps) := h
  have H2 : Hid (w.cell? ⟨b, o + 2, none⟩ = some (.int .i64 (N : Int))) := h2
  have H3 : Hid (w.cell? ⟨b, o + 3, none⟩ = some (.bool false)) := h3
  have hmx : max (0 : Int) (N : Int) = (N : Int) := by omega
  have hmn : min (N : Int) ((N : Int) + ((q : Int) + 2)) = (N : Int) := by omega
  clear h h2 h3 h6 ha
  go_enter Try.func39, Try.ntmps39
  go_wp2_with fail
  refine hk.mono ?_
  intro e w1 hq
  obtain ⟨g, c1, rfl, hr⟩ := hq.ex
  rw [kidA_len] at hr
  rw [kidA_len]
  have hcap : N + (q + 2) ≤ c1 := by
    rcases hr.2 with ⟨h, _⟩ | ⟨g', cap', cur, h, _, _, h4, _⟩
    · cases h
    · cases h; exact h4
  have hcI : ((N : Int) + ((q : Int) + 2)) ≤ (c1 : Int) := by omega
  have hgw := (hr.lt g rfl)
  have HP : Hid (PtV (fun b => b ≠ L ∧ rb ≠ some b) w1 (.slice (some ⟨g, 0, none⟩) (N + (q + 2)) c1) (kidA kb ko (N + (q + 2)))) := ptV_own hr (by rw [kidA_len]) (by omega) (own_blk9 ⟨by omega, fun e => by have := (hrw _ e).1; omega⟩)
  have HB1 : Hid (Below w.heap.size w w1) := hq.bl
  have HQ0 : Hid (LQ w1 L rb ps w1) := LQ.refl (HH.out.kept (X := fun _ => False) (Kx.of_whole hq.bl) (fun h => h) (fun _ _ h => h))
  have HEND : Hid (∀ ps' w', LQ w1 L rb ps' w' → LQ w L rb ps' w') := fun ps' w' hq' => LQ.then (fun _ h => .inl h) (Kx.of_whole HB1.out) hq'
  have k2 : w1.cell? ⟨b, o + 2, none⟩ = some (.int .i64 (N : Int)) := kept_cell hq.bl H2.out
  have H3' : Hid (w1.cell? ⟨b, o + 3, none⟩ = some (.bool false)) := kept_cell hq.bl H3.out
  clear hq hr hk
  have HPP : Hid (PtV (fun b => b ≠ L ∧ rb ≠ some b) w1 (.slice (some ⟨g, 0, none⟩) N c1) (kidA kb ko N)) := by
    have := HP.out.cut (i := 0) (m := N) (c' := c1) (by rw [kidA_len]; omega)
    rwa [List.drop_zero, kidA_take _ _ _ _ (by omega)] at this
  have HPR : Hid (PtV (fun b => b ≠ L ∧ rb ≠ some b) w1 (.slice (some ⟨g, N, none⟩) (q + 2) (c1 - N)) (kidA kb (ko + N * 7) (q + 2))) := by
    have := HP.out.cut (i := N) (m := q + 2) (c' := c1 - N) (by rw [kidA_len]; omega)
    rwa [kidA_drop, show N + (q + 2) - N = q + 2 by omega, List.take_of_length_le (by rw [kidA_len]; omega)] at this
  have z1 : decide ((N : Int) ≤ (c1 : Int)) = true := decide_eq_true (by omega)
  have z3 : (N : Int) ≤ (c1 : Int) := by omega
  have z4 : N ≤ c1 := by omega
  have z5 : c1 ≠ N := by omega
  have z6 : N ≠ c1 := by omega
  have z7 : ¬ c1 - N = 0 := by omega
  have zq0 : (((q : Int) + 2) == 0) = false := int_bne (by omega)
  have zq1 : (((q : Int) + 2) == 1) = false := int_bne (by omega)
  go_wp2_with fail
  first | go_quiet (fail) | go_big_quiet (fail)
  go_wp2_with fail
  have HQa : Hid (LQ w1 L rb ps (w1.drewN nq)) := HQ0.out.still (below_dn _ _)
  refine (HQa.out.put ⟨#[40]⟩ (by omega)).mono ?_
  rintro e v1 ⟨⟨u1, rfl⟩, hq⟩
  have HQ1 : Hid _ := hq
  have y3 := hq.cell H3'.out hbL hbr
  clear hq
  go_wp2_with fail
  refine (HQ1.out.tell ⟨#[44, 32]⟩ HPP.out (by simp; omega)).mono ?_
  rintro e v2 ⟨⟨u2, rfl⟩, hq⟩
  have HQ2 : Hid _ := hq
  clear hq
  go_wp2_with fail
  refine (HQ2.out.put ⟨#[41]⟩ (by have hA := tellP_lenK ⟨#[44, 32]⟩ kb ko N; have hB := tellP_lenK ⟨#[44, 32]⟩ kb (ko + N * 7) (q + 2); simp; omega)).mono ?_
  rintro e v3 ⟨⟨u3, rfl⟩, hq⟩
  have HQ3 : Hid _ := hq
  clear hq
  go_wp2_with fail
  refine (HQ3.out.put ⟨#[32]⟩ (by have hA := tellP_lenK ⟨#[44, 32]⟩ kb ko N; have hB := tellP_lenK ⟨#[44, 32]⟩ kb (ko + N * 7) (q + 2); simp; omega)).mono ?_
  rintro e v4 ⟨⟨u4, rfl⟩, hq⟩
  have HQ4 : Hid _ := hq
  clear hq
  go_wp2_with fail
  refine (brk_any HQ4.out HPR.out (by have hA := tellP_lenK ⟨#[44, 32]⟩ kb ko N; have hB := tellP_lenK ⟨#[44, 32]⟩ kb (ko + N * 7) (q + 2); simp; omega)).mono ?_
  rintro e v5 ⟨⟨u5, rfl⟩, hq⟩
  have HQ5 : Hid _ := hq
  clear hq
  go_wp2_with fail
  go_end0
  refine ⟨⟨_, rfl⟩, HEND.out _ _ ?_⟩
  have hfin := HQ5.out
  simpa [sgP, show N + (q + 2) - N = q + 2 by omega] using hfin
end Go.Proofs.Ytifcikhgbafegab

/-
  signature, walked: SgB.
-/
namespace Go.Proofs.Ytifcikhgbafegab
open Go.RowKit
attribute [local go_sem ↓] Go.wp_at_zero Go.wp_at_succ
attribute [local simp] kidA_len kidA_nil tellP_one tellP_nil kidA_one
set_option maxRecDepth 100000 in
set_option maxHeartbeats 8000000 in
theorem sig_A1 {w : World} {L : Nat} {rb : Option Nat} {ps : List ElQ} {b o kb ko c sb so sc : Nat} {a : Option Addr} (h : Ln w L rb ps) (hbL : b ≠ L) (hbr : rb ≠ some b)
    (h2 : w.cell? ⟨b, o + 2, none⟩ = some (.int .i64 1)) (h3 : w.cell? ⟨b, o + 3, none⟩ = some (.bool true)) (h6 : w.cell? ⟨b, o + 6, none⟩ = some (.slice a (2) c)) (ha : 0 < 2 → a = some ⟨kb, ko, none⟩) (hn : ps.length + 2 * (2) + 20 ≤ 1000000) (hkL : kb ≠ L) (hkr : rb ≠ some kb) (hk0 : w.cell? ⟨kb, ko, none⟩ = some (.int .i64 11)) (hk6 : w.cell? ⟨kb, ko + 6, none⟩ = some (.slice (some ⟨sb, so, none⟩) 1 sc)) :
    Calls Try.prog 39 #[.pointer (some ⟨L, 0, none⟩), pv ⟨b, o, none⟩] w fun e w' => (∃ u, e = .returned u) ∧ LQ w L rb (ps ++ sgP true 1 (2) kb ko ⟨sb, so, none⟩) w' := by
  have hk := kids2_any (kb := kb) (ko := ko) h6 ha (by omega)
  have hLw := h.lt
  have hrw := h.row_lt
  have HH : Hid (Ln w L rb ps) := h
  have HK0 : Hid (w.cell? ⟨kb, ko, none⟩ = some (.int .i64 11)) := hk0
  have HK6 : Hid (w.cell? ⟨kb, ko + 6, none⟩ = some (.slice (some ⟨sb, so, none⟩) 1 sc)) := hk6
  have H2 : Hid (w.cell? ⟨b, o + 2, none⟩ = some (.int .i64 1)) := h2
  have H3 : Hid (w.cell? ⟨b, o + 3, none⟩ = some (.bool true)) := h3
  clear h h2 h3 h6 hk0 hk6 ha
  go_enter Try.func39, Try.ntmps39
  go_wp2_with fail
  refine hk.mono ?_
  intro e w1 hq
  obtain ⟨g, c1, rfl, hr⟩ := hq.ex
  rw [kidA_len] at hr
  rw [kidA_len]
  have hcap : 2 ≤ c1 := by
    rcases hr.2 with ⟨h, _⟩ | ⟨g', cap', cur, h, _, _, h4, _⟩
    · cases h
    · cases h; exact h4
  have hcI : (2 : Int) ≤ (c1 : Int) := by omega
  have hgw := (hr.lt g rfl)
  have HP : Hid (PtV (fun b => b ≠ L ∧ rb ≠ some b) w1 (.slice (some ⟨g, 0, none⟩) (2) c1) (kidA kb ko (2))) := ptV_own hr (by rw [kidA_len]) (by omega) (own_blk9 ⟨by omega, fun e => by have := (hrw _ e).1; omega⟩)
  have HB1 : Hid (Below w.heap.size w w1) := hq.bl
  have HQ0 : Hid (LQ w1 L rb ps w1) := LQ.refl (HH.out.kept (X := fun _ => False) (Kx.of_whole hq.bl) (fun h => h) (fun _ _ h => h))
  have HEND : Hid (∀ ps' w', LQ w1 L rb ps' w' → LQ w L rb ps' w') := fun ps' w' hq' => LQ.then (fun _ h => .inl h) (Kx.of_whole HB1.out) hq'
  have k2 : w1.cell? ⟨b, o + 2, none⟩ = some (.int .i64 1) := kept_cell hq.bl H2.out
  have H3' : Hid (w1.cell? ⟨b, o + 3, none⟩ = some (.bool true)) := kept_cell hq.bl H3.out
  clear hq hr hk
  have HPP : Hid (PtV (fun b => b ≠ L ∧ rb ≠ some b) w1 (.slice (some ⟨g, 0, none⟩) 0 c1) (kidA kb ko 0)) := by
    have := HP.out.cut (i := 0) (m := 0) (c' := c1) (by rw [kidA_len]; omega)
    rwa [List.drop_zero, kidA_take _ _ _ _ (by omega)] at this
  have hCM : w1.cell? ⟨g, 0, none⟩ = some (pv ⟨kb, ko, none⟩) := by
    obtain ⟨b9, o9, e9, h9⟩ := HP.out.get (i := 0) (by rw [kidA_len]; omega)
    obtain ⟨rfl, rfl⟩ : g = b9 ∧ 0 = o9 := by simpa using e9
    rw [Nat.zero_add] at h9
    rw [h9]
    simp [kidA]
  have HCM : Hid (w1.cell? ⟨g, 0, none⟩ = some (pv ⟨kb, ko, none⟩)) := hCM
  clear hCM
  have HgL : Hid (g ≠ L ∧ rb ≠ some g) := ⟨by omega, fun e => by have := (hrw _ e).1; omega⟩
  have HK0' : Hid (w1.cell? ⟨kb, ko, none⟩ = some (.int .i64 11)) := kept_cell HB1.out HK0.out
  have HK6' : Hid (w1.cell? ⟨kb, ko + 6, none⟩ = some (.slice (some ⟨sb, so, none⟩) 1 sc)) := kept_cell HB1.out HK6.out
  have HPR : Hid (PtV (fun b => b ≠ L ∧ rb ≠ some b) w1 (.slice (some ⟨g, 1, none⟩) 1 (c1 - 1)) [⟨kb, ko + 1 * 7, none⟩]) := by
    have := HP.out.cut (i := 1) (m := 1) (c' := c1 - 1) (by rw [kidA_len]; omega)
    rwa [kidA_drop, show 2 - 1 = 1 by omega, kidA_one, List.take_of_length_le (by simp)] at this
  have z1 : decide (1 ≤ (c1 : Int)) = true := decide_eq_true (by omega)
  have z3 : 1 ≤ (c1 : Int) := by omega
  have z4 : 1 ≤ c1 := by omega
  have z5 : c1 ≠ 1 := by omega
  have z6 : 1 ≠ c1 := by omega
  have z7 : ¬ c1 - 1 = 0 := by omega
  go_wp2_with fail
  first | go_quiet (fail) | go_big_quiet (fail)
  go_wp2_with fail
  have HQa : Hid (LQ w1 L rb ps (w1.drewN nq)) := HQ0.out.still (below_dn _ _)
  refine (HQa.out.put ⟨#[40]⟩ (by omega)).mono ?_
  rintro e v1 ⟨⟨u1, rfl⟩, hq⟩
  have HQ1 : Hid _ := hq
  have y3 := hq.cell H3'.out hbL hbr
  clear hq
  have zc0 : (0 : Int) ≤ (c1 : Int) := by omega
  go_wp2_with fail
  refine (HQ1.out.tell ⟨#[44, 32]⟩ HPP.out (by simp; omega)).mono ?_
  rintro e v2 ⟨⟨u2, rfl⟩, hq⟩
  have HQ2 : Hid _ := hq
  clear hq
  go_wp2_with fail
  refine (HQ2.out.put ⟨#[46, 46, 46]⟩ (by simp; omega)).mono ?_
  rintro e v3 ⟨⟨u3, rfl⟩, hq⟩
  have HQ3 : Hid _ := hq
  clear hq
  have y5 := HQ3.out.cell HCM.out HgL.out.1 HgL.out.2
  have hel := elem_any (HQ3.out.cell HK0'.out hkL hkr) (HQ3.out.cell HK6'.out hkL hkr)
  go_wp2_with fail
  refine hel.mono ?_
  rintro e ve ⟨ae, ce, rfl, hpe, hbe⟩
  have HPE : Hid (PtV (fun b => v3.heap.size ≤ b) ve (.slice ae 1 ce) [⟨sb, so, none⟩]) := hpe
  have HBE : Hid _ := hbe
  clear hpe hbe hel y5
  go_wp2_with fail
  refine (HQ3.out.tellN ⟨#[]⟩ HBE.out HPE.out (by simp; omega)).mono ?_
  rintro e v4 ⟨⟨u4, rfl⟩, hq⟩
  have HQ4 : Hid _ := hq
  clear hq
  go_wp2_with fail
  refine (HQ4.out.put ⟨#[41]⟩ (by simp; omega)).mono ?_
  rintro e v5 ⟨⟨u5, rfl⟩, hq⟩
  have HQ5 : Hid _ := hq
  clear hq
  go_wp2_with fail
  refine (HQ5.out.put ⟨#[32]⟩ (by simp; omega)).mono ?_
  rintro e v6 ⟨⟨u6, rfl⟩, hq⟩
  have HQ6 : Hid _ := hq
  clear hq
  go_wp2_with fail
  refine (HQ6.out.tell ⟨#[]⟩ HPR.out (by simp; omega)).mono ?_
  rintro e v7 ⟨⟨u7, rfl⟩, hq⟩
  have HQ7 : Hid _ := hq
  clear hq
  go_wp2_with fail
  go_end0
  refine ⟨⟨_, rfl⟩, HEND.out _ _ ?_⟩
  have hfin := HQ7.out
  simpa [sgP, show 2 - 1 = 1 by omega] using hfin
set_option maxRecDepth 100000 in
set_option maxHeartbeats 8000000 in
theorem sig_A0 {w : World} {L : Nat} {rb : Option Nat} {ps : List ElQ} {b o kb ko c sb so sc : Nat} {a : Option Addr} (h : Ln w L rb ps) (hbL : b ≠ L) (hbr : rb ≠ some b)
    (h2 : w.cell? ⟨b, o + 2, none⟩ = some (.int .i64 1)) (h3 : w.cell? ⟨b, o + 3, none⟩ = some (.bool true)) (h6 : w.cell? ⟨b, o + 6, none⟩ = some (.slice a (1) c)) (ha : 0 < 1 → a = some ⟨kb, ko, none⟩) (hn : ps.length + 2 * (1) + 20 ≤ 1000000) (hkL : kb ≠ L) (hkr : rb ≠ some kb) (hk0 : w.cell? ⟨kb, ko, none⟩ = some (.int .i64 11)) (hk6 : w.cell? ⟨kb, ko + 6, none⟩ = some (.slice (some ⟨sb, so, none⟩) 1 sc)) :
    Calls Try.prog 39 #[.pointer (some ⟨L, 0, none⟩), pv ⟨b, o, none⟩] w fun e w' => (∃ u, e = .returned u) ∧ LQ w L rb (ps ++ sgP true 1 (1) kb ko ⟨sb, so, none⟩) w' := by
  have hk := kids2_any (kb := kb) (ko := ko) h6 ha (by omega)
  have hLw := h.lt
  have hrw := h.row_lt
  have HH : Hid (Ln w L rb ps) := h
  have HK0 : Hid (w.cell? ⟨kb, ko, none⟩ = some (.int .i64 11)) := hk0
  have HK6 : Hid (w.cell? ⟨kb, ko + 6, none⟩ = some (.slice (some ⟨sb, so, none⟩) 1 sc)) := hk6
  have H2 : Hid (w.cell? ⟨b, o + 2, none⟩ = some (.int .i64 1)) := h2
  have H3 : Hid (w.cell? ⟨b, o + 3, none⟩ = some (.bool true)) := h3
  clear h h2 h3 h6 hk0 hk6 ha
  go_enter Try.func39, Try.ntmps39
  go_wp2_with fail
  refine hk.mono ?_
  intro e w1 hq
  obtain ⟨g, c1, rfl, hr⟩ := hq.ex
  rw [kidA_len] at hr
  rw [kidA_len]
  have hcap : 1 ≤ c1 := by
    rcases hr.2 with ⟨h, _⟩ | ⟨g', cap', cur, h, _, _, h4, _⟩
    · cases h
    · cases h; exact h4
  have hcI : (1 : Int) ≤ (c1 : Int) := by omega
  have hgw := (hr.lt g rfl)
  have HP : Hid (PtV (fun b => b ≠ L ∧ rb ≠ some b) w1 (.slice (some ⟨g, 0, none⟩) (1) c1) (kidA kb ko (1))) := ptV_own hr (by rw [kidA_len]) (by omega) (own_blk9 ⟨by omega, fun e => by have := (hrw _ e).1; omega⟩)
  have HB1 : Hid (Below w.heap.size w w1) := hq.bl
  have HQ0 : Hid (LQ w1 L rb ps w1) := LQ.refl (HH.out.kept (X := fun _ => False) (Kx.of_whole hq.bl) (fun h => h) (fun _ _ h => h))
  have HEND : Hid (∀ ps' w', LQ w1 L rb ps' w' → LQ w L rb ps' w') := fun ps' w' hq' => LQ.then (fun _ h => .inl h) (Kx.of_whole HB1.out) hq'
  have k2 : w1.cell? ⟨b, o + 2, none⟩ = some (.int .i64 1) := kept_cell hq.bl H2.out
  have H3' : Hid (w1.cell? ⟨b, o + 3, none⟩ = some (.bool true)) := kept_cell hq.bl H3.out
  clear hq hr hk
  have HPP : Hid (PtV (fun b => b ≠ L ∧ rb ≠ some b) w1 (.slice (some ⟨g, 0, none⟩) 0 c1) (kidA kb ko 0)) := by
    have := HP.out.cut (i := 0) (m := 0) (c' := c1) (by rw [kidA_len]; omega)
    rwa [List.drop_zero, kidA_take _ _ _ _ (by omega)] at this
  have hCM : w1.cell? ⟨g, 0, none⟩ = some (pv ⟨kb, ko, none⟩) := by
    obtain ⟨b9, o9, e9, h9⟩ := HP.out.get (i := 0) (by rw [kidA_len]; omega)
    obtain ⟨rfl, rfl⟩ : g = b9 ∧ 0 = o9 := by simpa using e9
    rw [Nat.zero_add] at h9
    rw [h9]
    simp [kidA]
  have HCM : Hid (w1.cell? ⟨g, 0, none⟩ = some (pv ⟨kb, ko, none⟩)) := hCM
  clear hCM
  have HgL : Hid (g ≠ L ∧ rb ≠ some g) := ⟨by omega, fun e => by have := (hrw _ e).1; omega⟩
  have HK0' : Hid (w1.cell? ⟨kb, ko, none⟩ = some (.int .i64 11)) := kept_cell HB1.out HK0.out
  have HK6' : Hid (w1.cell? ⟨kb, ko + 6, none⟩ = some (.slice (some ⟨sb, so, none⟩) 1 sc)) := kept_cell HB1.out HK6.out
  by_cases hE : c1 = 1
  · subst hE
    have z1 : decide (1 ≤ (1 : Int)) = true := decide_eq_true (by omega)
    have z3 : 1 ≤ (1 : Int) := by omega
    have z4 : 1 ≤ 1 := by omega
    go_wp2_with fail
    first | go_quiet (fail) | go_big_quiet (fail)
    go_wp2_with fail
    have HQa : Hid (LQ w1 L rb ps (w1.drewN nq)) := HQ0.out.still (below_dn _ _)
    refine (HQa.out.put ⟨#[40]⟩ (by omega)).mono ?_
    rintro e v1 ⟨⟨u1, rfl⟩, hq⟩
    have HQ1 : Hid _ := hq
    have y3 := hq.cell H3'.out hbL hbr
    clear hq
    have zc0 : (0 : Int) ≤ (1 : Int) := by omega
    go_wp2_with fail
    refine (HQ1.out.tell ⟨#[44, 32]⟩ HPP.out (by simp; omega)).mono ?_
    rintro e v2 ⟨⟨u2, rfl⟩, hq⟩
    have HQ2 : Hid _ := hq
    clear hq
    go_wp2_with fail
    refine (HQ2.out.put ⟨#[46, 46, 46]⟩ (by simp; omega)).mono ?_
    rintro e v3 ⟨⟨u3, rfl⟩, hq⟩
    have HQ3 : Hid _ := hq
    clear hq
    have y5 := HQ3.out.cell HCM.out HgL.out.1 HgL.out.2
    have hel := elem_any (HQ3.out.cell HK0'.out hkL hkr) (HQ3.out.cell HK6'.out hkL hkr)
    go_wp2_with fail
    refine hel.mono ?_
    rintro e ve ⟨ae, ce, rfl, hpe, hbe⟩
    have HPE : Hid (PtV (fun b => v3.heap.size ≤ b) ve (.slice ae 1 ce) [⟨sb, so, none⟩]) := hpe
    have HBE : Hid _ := hbe
    clear hpe hbe hel y5
    go_wp2_with fail
    refine (HQ3.out.tellN ⟨#[]⟩ HBE.out HPE.out (by simp; omega)).mono ?_
    rintro e v4 ⟨⟨u4, rfl⟩, hq⟩
    have HQ4 : Hid _ := hq
    clear hq
    go_wp2_with fail
    refine (HQ4.out.put ⟨#[41]⟩ (by simp; omega)).mono ?_
    rintro e v5 ⟨⟨u5, rfl⟩, hq⟩
    have HQ5 : Hid _ := hq
    clear hq
    go_wp2_with fail
    go_end0
    refine ⟨⟨_, rfl⟩, HEND.out _ _ ?_⟩
    have hfin := HQ5.out
    simpa [sgP, show 1 - 1 = 0 by omega] using hfin
  · have z1 : decide (1 ≤ (c1 : Int)) = true := decide_eq_true (by omega)
    have z3 : 1 ≤ (c1 : Int) := by omega
    have z4 : 1 ≤ c1 := by omega
    have z5 : c1 ≠ 1 := by omega
    have z6 : 1 ≠ c1 := by omega
    have z7 : ¬ c1 - 1 = 0 := by omega
    go_wp2_with fail
    first | go_quiet (fail) | go_big_quiet (fail)
    go_wp2_with fail
    have HQa : Hid (LQ w1 L rb ps (w1.drewN nq)) := HQ0.out.still (below_dn _ _)
    refine (HQa.out.put ⟨#[40]⟩ (by omega)).mono ?_
    rintro e v1 ⟨⟨u1, rfl⟩, hq⟩
    have HQ1 : Hid _ := hq
    have y3 := hq.cell H3'.out hbL hbr
    clear hq
    have zc0 : (0 : Int) ≤ (c1 : Int) := by omega
    go_wp2_with fail
    refine (HQ1.out.tell ⟨#[44, 32]⟩ HPP.out (by simp; omega)).mono ?_
    rintro e v2 ⟨⟨u2, rfl⟩, hq⟩
    have HQ2 : Hid _ := hq
    clear hq
    go_wp2_with fail
    refine (HQ2.out.put ⟨#[46, 46, 46]⟩ (by simp; omega)).mono ?_
    rintro e v3 ⟨⟨u3, rfl⟩, hq⟩
    have HQ3 : Hid _ := hq
    clear hq
    have y5 := HQ3.out.cell HCM.out HgL.out.1 HgL.out.2
    have hel := elem_any (HQ3.out.cell HK0'.out hkL hkr) (HQ3.out.cell HK6'.out hkL hkr)
    go_wp2_with fail
    refine hel.mono ?_
    rintro e ve ⟨ae, ce, rfl, hpe, hbe⟩
    have HPE : Hid (PtV (fun b => v3.heap.size ≤ b) ve (.slice ae 1 ce) [⟨sb, so, none⟩]) := hpe
    have HBE : Hid _ := hbe
    clear hpe hbe hel y5
    go_wp2_with fail
    refine (HQ3.out.tellN ⟨#[]⟩ HBE.out HPE.out (by simp; omega)).mono ?_
    rintro e v4 ⟨⟨u4, rfl⟩, hq⟩
    have HQ4 : Hid _ := hq
    clear hq
    go_wp2_with fail
    refine (HQ4.out.put ⟨#[41]⟩ (by simp; omega)).mono ?_
    rintro e v5 ⟨⟨u5, rfl⟩, hq⟩
    have HQ5 : Hid _ := hq
    clear hq
    go_wp2_with fail
    go_end0
    refine ⟨⟨_, rfl⟩, HEND.out _ _ ?_⟩
    have hfin := HQ5.out
    simpa [sgP, show 1 - 1 = 0 by omega] using hfin
set_option maxRecDepth 100000 in
set_option maxHeartbeats 8000000 in
theorem sig_A2 {w : World} {L : Nat} {rb : Option Nat} {ps : List ElQ} {b o q kb ko c sb so sc : Nat} {a : Option Addr} (h : Ln w L rb ps) (hbL : b ≠ L) (hbr : rb ≠ some b)
    (h2 : w.cell? ⟨b, o + 2, none⟩ = some (.int .i64 1)) (h3 : w.cell? ⟨b, o + 3, none⟩ = some (.bool true)) (h6 : w.cell? ⟨b, o + 6, none⟩ = some (.slice a (1 + (q + 2)) c)) (ha : 0 < 1 + (q + 2) → a = some ⟨kb, ko, none⟩) (hn : ps.length + 2 * (1 + (q + 2)) + 20 ≤ 1000000) (hkL : kb ≠ L) (hkr : rb ≠ some kb) (hk0 : w.cell? ⟨kb, ko, none⟩ = some (.int .i64 11)) (hk6 : w.cell? ⟨kb, ko + 6, none⟩ = some (.slice (some ⟨sb, so, none⟩) 1 sc)) :
    Calls Try.prog 39 #[.pointer (some ⟨L, 0, none⟩), pv ⟨b, o, none⟩] w fun e w' => (∃ u, e = .returned u) ∧ LQ w L rb (ps ++ sgP true 1 (1 + (q + 2)) kb ko ⟨sb, so, none⟩) w' := by
  have hk := kids2_any (kb := kb) (ko := ko) h6 ha (by omega)
  have hLw := h.lt
  have hrw := h.row_lt
  have HH : Hid (Ln w L rb ps) := h
  have HK0 : Hid (w.cell? ⟨kb, ko, none⟩ = some (.int .i64 11)) := hk0
  have HK6 : Hid (w.cell? ⟨kb, ko + 6, none⟩ = some (.slice (some ⟨sb, so, none⟩) 1 sc)) := hk6
  have H2 : Hid (w.cell? ⟨b, o + 2, none⟩ = some (.int .i64 1)) := h2
  have H3 : Hid (w.cell? ⟨b, o + 3, none⟩ = some (.bool true)) := h3
  have hmx : max (0 : Int) 1 = 1 := by omega
  have hmn : min (1 : Int) (1 + ((q : Int) + 2)) = (1 : Int) := by omega
  clear h h2 h3 h6 hk0 hk6 ha
  go_enter Try.func39, Try.ntmps39
  go_wp2_with fail
  refine hk.mono ?_
  intro e w1 hq
  obtain ⟨g, c1, rfl, hr⟩ := hq.ex
  rw [kidA_len] at hr
  rw [kidA_len]
  have hcap : 1 + (q + 2) ≤ c1 := by
    rcases hr.2 with ⟨h, _⟩ | ⟨g', cap', cur, h, _, _, h4, _⟩
    · cases h
    · cases h; exact h4
  have hcI : (1 + ((q : Int) + 2)) ≤ (c1 : Int) := by omega
  have hgw := (hr.lt g rfl)
  have HP : Hid (PtV (fun b => b ≠ L ∧ rb ≠ some b) w1 (.slice (some ⟨g, 0, none⟩) (1 + (q + 2)) c1) (kidA kb ko (1 + (q + 2)))) := ptV_own hr (by rw [kidA_len]) (by omega) (own_blk9 ⟨by omega, fun e => by have := (hrw _ e).1; omega⟩)
  have HB1 : Hid (Below w.heap.size w w1) := hq.bl
  have HQ0 : Hid (LQ w1 L rb ps w1) := LQ.refl (HH.out.kept (X := fun _ => False) (Kx.of_whole hq.bl) (fun h => h) (fun _ _ h => h))
  have HEND : Hid (∀ ps' w', LQ w1 L rb ps' w' → LQ w L rb ps' w') := fun ps' w' hq' => LQ.then (fun _ h => .inl h) (Kx.of_whole HB1.out) hq'
  have k2 : w1.cell? ⟨b, o + 2, none⟩ = some (.int .i64 1) := kept_cell hq.bl H2.out
  have H3' : Hid (w1.cell? ⟨b, o + 3, none⟩ = some (.bool true)) := kept_cell hq.bl H3.out
  clear hq hr hk
  have HPP : Hid (PtV (fun b => b ≠ L ∧ rb ≠ some b) w1 (.slice (some ⟨g, 0, none⟩) 0 c1) (kidA kb ko 0)) := by
    have := HP.out.cut (i := 0) (m := 0) (c' := c1) (by rw [kidA_len]; omega)
    rwa [List.drop_zero, kidA_take _ _ _ _ (by omega)] at this
  have hCM : w1.cell? ⟨g, 0, none⟩ = some (pv ⟨kb, ko, none⟩) := by
    obtain ⟨b9, o9, e9, h9⟩ := HP.out.get (i := 0) (by rw [kidA_len]; omega)
    obtain ⟨rfl, rfl⟩ : g = b9 ∧ 0 = o9 := by simpa using e9
    rw [Nat.zero_add] at h9
    rw [h9]
    simp [kidA]
  have HCM : Hid (w1.cell? ⟨g, 0, none⟩ = some (pv ⟨kb, ko, none⟩)) := hCM
  clear hCM
  have HgL : Hid (g ≠ L ∧ rb ≠ some g) := ⟨by omega, fun e => by have := (hrw _ e).1; omega⟩
  have HK0' : Hid (w1.cell? ⟨kb, ko, none⟩ = some (.int .i64 11)) := kept_cell HB1.out HK0.out
  have HK6' : Hid (w1.cell? ⟨kb, ko + 6, none⟩ = some (.slice (some ⟨sb, so, none⟩) 1 sc)) := kept_cell HB1.out HK6.out
  have HPR : Hid (PtV (fun b => b ≠ L ∧ rb ≠ some b) w1 (.slice (some ⟨g, 1, none⟩) (q + 2) (c1 - 1)) (kidA kb (ko + 1 * 7) (q + 2))) := by
    have := HP.out.cut (i := 1) (m := q + 2) (c' := c1 - 1) (by rw [kidA_len]; omega)
    rwa [kidA_drop, show 1 + (q + 2) - 1 = q + 2 by omega, List.take_of_length_le (by rw [kidA_len]; omega)] at this
  have z1 : decide (1 ≤ (c1 : Int)) = true := decide_eq_true (by omega)
  have z3 : 1 ≤ (c1 : Int) := by omega
  have z4 : 1 ≤ c1 := by omega
  have z5 : c1 ≠ 1 := by omega
  have z6 : 1 ≠ c1 := by omega
  have z7 : ¬ c1 - 1 = 0 := by omega
  have zq0 : (((q : Int) + 2) == 0) = false := int_bne (by omega)
  have zq1 : (((q : Int) + 2) == 1) = false := int_bne (by omega)
  have zs1 : (1 + ((q : Int) + 2) - 1) = (q : Int) + 2 := by omega
  have zs3 : (1 : Int) ≤ 1 + ((q : Int) + 2) := by omega
  go_wp2_with fail
  first | go_quiet (fail) | go_big_quiet (fail)
  go_wp2_with fail
  have HQa : Hid (LQ w1 L rb ps (w1.drewN nq)) := HQ0.out.still (below_dn _ _)
  refine (HQa.out.put ⟨#[40]⟩ (by omega)).mono ?_
  rintro e v1 ⟨⟨u1, rfl⟩, hq⟩
  have HQ1 : Hid _ := hq
  have y3 := hq.cell H3'.out hbL hbr
  clear hq
  have zc0 : (0 : Int) ≤ (c1 : Int) := by omega
  go_wp2_with fail
  refine (HQ1.out.tell ⟨#[44, 32]⟩ HPP.out (by simp; omega)).mono ?_
  rintro e v2 ⟨⟨u2, rfl⟩, hq⟩
  have HQ2 : Hid _ := hq
  clear hq
  go_wp2_with fail
  refine (HQ2.out.put ⟨#[46, 46, 46]⟩ (by have hB := tellP_lenK ⟨#[44, 32]⟩ kb (ko + 1 * 7) (q + 2); simp; omega)).mono ?_
  rintro e v3 ⟨⟨u3, rfl⟩, hq⟩
  have HQ3 : Hid _ := hq
  clear hq
  have y5 := HQ3.out.cell HCM.out HgL.out.1 HgL.out.2
  have hel := elem_any (HQ3.out.cell HK0'.out hkL hkr) (HQ3.out.cell HK6'.out hkL hkr)
  go_wp2_with fail
  refine hel.mono ?_
  rintro e ve ⟨ae, ce, rfl, hpe, hbe⟩
  have HPE : Hid (PtV (fun b => v3.heap.size ≤ b) ve (.slice ae 1 ce) [⟨sb, so, none⟩]) := hpe
  have HBE : Hid _ := hbe
  clear hpe hbe hel y5
  go_wp2_with fail
  refine (HQ3.out.tellN ⟨#[]⟩ HBE.out HPE.out (by have hB := tellP_lenK ⟨#[44, 32]⟩ kb (ko + 1 * 7) (q + 2); simp; omega)).mono ?_
  rintro e v4 ⟨⟨u4, rfl⟩, hq⟩
  have HQ4 : Hid _ := hq
  clear hq
  go_wp2_with fail
  refine (HQ4.out.put ⟨#[41]⟩ (by have hB := tellP_lenK ⟨#[44, 32]⟩ kb (ko + 1 * 7) (q + 2); simp; omega)).mono ?_
  rintro e v5 ⟨⟨u5, rfl⟩, hq⟩
  have HQ5 : Hid _ := hq
  clear hq
  go_wp2_with fail
  refine (HQ5.out.put ⟨#[32]⟩ (by have hB := tellP_lenK ⟨#[44, 32]⟩ kb (ko + 1 * 7) (q + 2); simp; omega)).mono ?_
  rintro e v6 ⟨⟨u6, rfl⟩, hq⟩
  have HQ6 : Hid _ := hq
  clear hq
  go_wp2_with fail
  refine (brk_any HQ6.out HPR.out (by have hB := tellP_lenK ⟨#[44, 32]⟩ kb (ko + 1 * 7) (q + 2); simp; omega)).mono ?_
  rintro e v7 ⟨⟨u7, rfl⟩, hq⟩
  have HQ7 : Hid _ := hq
  clear hq
  go_wp2_with fail
  go_end0
  refine ⟨⟨_, rfl⟩, HEND.out _ _ ?_⟩
  have hfin := HQ7.out
  simpa [sgP, show 1 + (q + 2) - 1 = q + 2 by omega] using hfin
end Go.Proofs.Ytifcikhgbafegab

/-
  signature, walked: SgC.
-/
namespace Go.Proofs.Ytifcikhgbafegab
open Go.RowKit
attribute [local go_sem ↓] Go.wp_at_zero Go.wp_at_succ
attribute [local simp] kidA_len kidA_nil tellP_one tellP_nil kidA_one
set_option maxRecDepth 100000 in
set_option maxHeartbeats 8000000 in
theorem sig_B1 {w : World} {L : Nat} {rb : Option Nat} {ps : List ElQ} {b o M kb ko c sb so sc : Nat} {a : Option Addr} (h : Ln w L rb ps) (hbL : b ≠ L) (hbr : rb ≠ some b)
    (h2 : w.cell? ⟨b, o + 2, none⟩ = some (.int .i64 ((M : Int) + 1))) (h3 : w.cell? ⟨b, o + 3, none⟩ = some (.bool true)) (h6 : w.cell? ⟨b, o + 6, none⟩ = some (.slice a (M + 2) c)) (ha : 0 < M + 2 → a = some ⟨kb, ko, none⟩) (hn : ps.length + 2 * (M + 2) + 20 ≤ 1000000) (hM : 1 ≤ M) (hkL : kb ≠ L) (hkr : rb ≠ some kb) (hk0 : w.cell? ⟨kb, ko + M * 7, none⟩ = some (.int .i64 11)) (hk6 : w.cell? ⟨kb, ko + M * 7 + 6, none⟩ = some (.slice (some ⟨sb, so, none⟩) 1 sc)) :
    Calls Try.prog 39 #[.pointer (some ⟨L, 0, none⟩), pv ⟨b, o, none⟩] w fun e w' => (∃ u, e = .returned u) ∧ LQ w L rb (ps ++ sgP true (M + 1) (M + 2) kb ko ⟨sb, so, none⟩) w' := by
  have hk := kids2_any (kb := kb) (ko := ko) h6 ha (by omega)
  have hLw := h.lt
  have hrw := h.row_lt
  have HH : Hid (Ln w L rb ps) := h
  have HK0 : Hid (w.cell? ⟨kb, ko + M * 7, none⟩ = some (.int .i64 11)) := hk0
  have HK6 : Hid (w.cell? ⟨kb, ko + M * 7 + 6, none⟩ = some (.slice (some ⟨sb, so, none⟩) 1 sc)) := hk6
  have H2 : Hid (w.cell? ⟨b, o + 2, none⟩ = some (.int .i64 ((M : Int) + 1))) := h2
  have H3 : Hid (w.cell? ⟨b, o + 3, none⟩ = some (.bool true)) := h3
  have hmx : max (0 : Int) ((M : Int) + 1) = ((M : Int) + 1) := by omega
  have hmn : min ((M : Int) + 1) ((M : Int) + 2) = ((M : Int) + 1) := by omega
  clear h h2 h3 h6 hk0 hk6 ha
  go_enter Try.func39, Try.ntmps39
  go_wp2_with fail
  refine hk.mono ?_
  intro e w1 hq
  obtain ⟨g, c1, rfl, hr⟩ := hq.ex
  rw [kidA_len] at hr
  rw [kidA_len]
  have hcap : M + 2 ≤ c1 := by
    rcases hr.2 with ⟨h, _⟩ | ⟨g', cap', cur, h, _, _, h4, _⟩
    · cases h
    · cases h; exact h4
  have hcI : ((M : Int) + 2) ≤ (c1 : Int) := by omega
  have hgw := (hr.lt g rfl)
  have HP : Hid (PtV (fun b => b ≠ L ∧ rb ≠ some b) w1 (.slice (some ⟨g, 0, none⟩) (M + 2) c1) (kidA kb ko (M + 2))) := ptV_own hr (by rw [kidA_len]) (by omega) (own_blk9 ⟨by omega, fun e => by have := (hrw _ e).1; omega⟩)
  have HB1 : Hid (Below w.heap.size w w1) := hq.bl
  have HQ0 : Hid (LQ w1 L rb ps w1) := LQ.refl (HH.out.kept (X := fun _ => False) (Kx.of_whole hq.bl) (fun h => h) (fun _ _ h => h))
  have HEND : Hid (∀ ps' w', LQ w1 L rb ps' w' → LQ w L rb ps' w') := fun ps' w' hq' => LQ.then (fun _ h => .inl h) (Kx.of_whole HB1.out) hq'
  have k2 : w1.cell? ⟨b, o + 2, none⟩ = some (.int .i64 ((M : Int) + 1)) := kept_cell hq.bl H2.out
  have H3' : Hid (w1.cell? ⟨b, o + 3, none⟩ = some (.bool true)) := kept_cell hq.bl H3.out
  clear hq hr hk
  have HPP : Hid (PtV (fun b => b ≠ L ∧ rb ≠ some b) w1 (.slice (some ⟨g, 0, none⟩) M c1) (kidA kb ko M)) := by
    have := HP.out.cut (i := 0) (m := M) (c' := c1) (by rw [kidA_len]; omega)
    rwa [List.drop_zero, kidA_take _ _ _ _ (by omega)] at this
  have hCM : w1.cell? ⟨g, M, none⟩ = some (pv ⟨kb, ko + M * 7, none⟩) := by
    obtain ⟨b9, o9, e9, h9⟩ := HP.out.get (i := M) (by rw [kidA_len]; omega)
    obtain ⟨rfl, rfl⟩ : g = b9 ∧ 0 = o9 := by simpa using e9
    rw [Nat.zero_add] at h9
    rw [h9]
    simp [kidA]
  have HCM : Hid (w1.cell? ⟨g, M, none⟩ = some (pv ⟨kb, ko + M * 7, none⟩)) := hCM
  clear hCM
  have HgL : Hid (g ≠ L ∧ rb ≠ some g) := ⟨by omega, fun e => by have := (hrw _ e).1; omega⟩
  have HK0' : Hid (w1.cell? ⟨kb, ko + M * 7, none⟩ = some (.int .i64 11)) := kept_cell HB1.out HK0.out
  have HK6' : Hid (w1.cell? ⟨kb, ko + M * 7 + 6, none⟩ = some (.slice (some ⟨sb, so, none⟩) 1 sc)) := kept_cell HB1.out HK6.out
  have HPR : Hid (PtV (fun b => b ≠ L ∧ rb ≠ some b) w1 (.slice (some ⟨g, (M + 1), none⟩) 1 (c1 - (M + 1))) [⟨kb, ko + (M + 1) * 7, none⟩]) := by
    have := HP.out.cut (i := (M + 1)) (m := 1) (c' := c1 - (M + 1)) (by rw [kidA_len]; omega)
    rwa [kidA_drop, show M + 2 - (M + 1) = 1 by omega, kidA_one, List.take_of_length_le (by simp)] at this
  have z1 : decide (((M : Int) + 1) ≤ (c1 : Int)) = true := decide_eq_true (by omega)
  have z3 : ((M : Int) + 1) ≤ (c1 : Int) := by omega
  have z4 : (M + 1) ≤ c1 := by omega
  have z5 : c1 ≠ (M + 1) := by omega
  have z6 : (M + 1) ≠ c1 := by omega
  have z7 : ¬ c1 - (M + 1) = 0 := by omega
  go_wp2_with fail
  first | go_quiet (fail) | go_big_quiet (fail)
  go_wp2_with fail
  have HQa : Hid (LQ w1 L rb ps (w1.drewN nq)) := HQ0.out.still (below_dn _ _)
  refine (HQa.out.put ⟨#[40]⟩ (by omega)).mono ?_
  rintro e v1 ⟨⟨u1, rfl⟩, hq⟩
  have HQ1 : Hid _ := hq
  have y3 := hq.cell H3'.out hbL hbr
  clear hq
  have zM : (0 : Int) < (M : Int) + 1 := by omega
  have zM2 : decide ((0 : Int) < (M : Int) + 1) = true := decide_eq_true zM
  have zw : wrap64 ((M : Int) + 1 - 1) = (M : Int) := by unfold wrap64; omega
  have zw2 : ((M : Int) + 1 - 1) = (M : Int) := by omega
  have zM3 : (1 : Int) < (M : Int) + 1 := by omega
  have zM4 : (M : Int) ≤ (c1 : Int) := by omega
  have zM5 : (M : Int) < (M : Int) + 1 := by omega
  go_wp2_with fail
  refine (HQ1.out.tell ⟨#[44, 32]⟩ HPP.out (by simp; omega)).mono ?_
  rintro e v2 ⟨⟨u2, rfl⟩, hq⟩
  have HQ2 : Hid _ := hq
  clear hq
  go_wp2_with fail
  refine (HQ2.out.put ⟨#[44, 32]⟩ (by have hA := tellP_lenK ⟨#[44, 32]⟩ kb ko M; simp; omega)).mono ?_
  rintro e v3 ⟨⟨u3, rfl⟩, hq⟩
  have HQ3 : Hid _ := hq
  clear hq
  go_wp2_with fail
  refine (HQ3.out.put ⟨#[46, 46, 46]⟩ (by have hA := tellP_lenK ⟨#[44, 32]⟩ kb ko M; simp; omega)).mono ?_
  rintro e v4 ⟨⟨u4, rfl⟩, hq⟩
  have HQ4 : Hid _ := hq
  clear hq
  have y5 := HQ4.out.cell HCM.out HgL.out.1 HgL.out.2
  have hel := elem_any (HQ4.out.cell HK0'.out hkL hkr) (HQ4.out.cell HK6'.out hkL hkr)
  go_wp2_with fail
  refine hel.mono ?_
  rintro e ve ⟨ae, ce, rfl, hpe, hbe⟩
  have HPE : Hid (PtV (fun b => v4.heap.size ≤ b) ve (.slice ae 1 ce) [⟨sb, so, none⟩]) := hpe
  have HBE : Hid _ := hbe
  clear hpe hbe hel y5
  go_wp2_with fail
  refine (HQ4.out.tellN ⟨#[]⟩ HBE.out HPE.out (by have hA := tellP_lenK ⟨#[44, 32]⟩ kb ko M; simp; omega)).mono ?_
  rintro e v5 ⟨⟨u5, rfl⟩, hq⟩
  have HQ5 : Hid _ := hq
  clear hq
  go_wp2_with fail
  refine (HQ5.out.put ⟨#[41]⟩ (by have hA := tellP_lenK ⟨#[44, 32]⟩ kb ko M; simp; omega)).mono ?_
  rintro e v6 ⟨⟨u6, rfl⟩, hq⟩
  have HQ6 : Hid _ := hq
  clear hq
  go_wp2_with fail
  refine (HQ6.out.put ⟨#[32]⟩ (by have hA := tellP_lenK ⟨#[44, 32]⟩ kb ko M; simp; omega)).mono ?_
  rintro e v7 ⟨⟨u7, rfl⟩, hq⟩
  have HQ7 : Hid _ := hq
  clear hq
  go_wp2_with fail
  refine (HQ7.out.tell ⟨#[]⟩ HPR.out (by have hA := tellP_lenK ⟨#[44, 32]⟩ kb ko M; simp; omega)).mono ?_
  rintro e v8 ⟨⟨u8, rfl⟩, hq⟩
  have HQ8 : Hid _ := hq
  clear hq
  go_wp2_with fail
  go_end0
  refine ⟨⟨_, rfl⟩, HEND.out _ _ ?_⟩
  have hfin := HQ8.out
  simpa [sgP, show M + 2 - (M + 1) = 1 by omega, show 1 < M + 1 by omega, show 0 < M by omega] using hfin
set_option maxRecDepth 100000 in
set_option maxHeartbeats 8000000 in
theorem sig_B0 {w : World} {L : Nat} {rb : Option Nat} {ps : List ElQ} {b o M kb ko c sb so sc : Nat} {a : Option Addr} (h : Ln w L rb ps) (hbL : b ≠ L) (hbr : rb ≠ some b)
    (h2 : w.cell? ⟨b, o + 2, none⟩ = some (.int .i64 ((M : Int) + 1))) (h3 : w.cell? ⟨b, o + 3, none⟩ = some (.bool true)) (h6 : w.cell? ⟨b, o + 6, none⟩ = some (.slice a (M + 1) c)) (ha : 0 < M + 1 → a = some ⟨kb, ko, none⟩) (hn : ps.length + 2 * (M + 1) + 20 ≤ 1000000) (hM : 1 ≤ M) (hkL : kb ≠ L) (hkr : rb ≠ some kb) (hk0 : w.cell? ⟨kb, ko + M * 7, none⟩ = some (.int .i64 11)) (hk6 : w.cell? ⟨kb, ko + M * 7 + 6, none⟩ = some (.slice (some ⟨sb, so, none⟩) 1 sc)) :
    Calls Try.prog 39 #[.pointer (some ⟨L, 0, none⟩), pv ⟨b, o, none⟩] w fun e w' => (∃ u, e = .returned u) ∧ LQ w L rb (ps ++ sgP true (M + 1) (M + 1) kb ko ⟨sb, so, none⟩) w' := by
  have hk := kids2_any (kb := kb) (ko := ko) h6 ha (by omega)
  have hLw := h.lt
  have hrw := h.row_lt
  have HH : Hid (Ln w L rb ps) := h
  have HK0 : Hid (w.cell? ⟨kb, ko + M * 7, none⟩ = some (.int .i64 11)) := hk0
  have HK6 : Hid (w.cell? ⟨kb, ko + M * 7 + 6, none⟩ = some (.slice (some ⟨sb, so, none⟩) 1 sc)) := hk6
  have H2 : Hid (w.cell? ⟨b, o + 2, none⟩ = some (.int .i64 ((M : Int) + 1))) := h2
  have H3 : Hid (w.cell? ⟨b, o + 3, none⟩ = some (.bool true)) := h3
  have hmx : max (0 : Int) ((M : Int) + 1) = ((M : Int) + 1) := by omega
  have hmn : min ((M : Int) + 1) ((M : Int) + 1) = ((M : Int) + 1) := by omega
  clear h h2 h3 h6 hk0 hk6 ha
  go_enter Try.func39, Try.ntmps39
  go_wp2_with fail
  refine hk.mono ?_
  intro e w1 hq
  obtain ⟨g, c1, rfl, hr⟩ := hq.ex
  rw [kidA_len] at hr
  rw [kidA_len]
  have hcap : M + 1 ≤ c1 := by
    rcases hr.2 with ⟨h, _⟩ | ⟨g', cap', cur, h, _, _, h4, _⟩
    · cases h
    · cases h; exact h4
  have hcI : ((M : Int) + 1) ≤ (c1 : Int) := by omega
  have hgw := (hr.lt g rfl)
  have HP : Hid (PtV (fun b => b ≠ L ∧ rb ≠ some b) w1 (.slice (some ⟨g, 0, none⟩) (M + 1) c1) (kidA kb ko (M + 1))) := ptV_own hr (by rw [kidA_len]) (by omega) (own_blk9 ⟨by omega, fun e => by have := (hrw _ e).1; omega⟩)
  have HB1 : Hid (Below w.heap.size w w1) := hq.bl
  have HQ0 : Hid (LQ w1 L rb ps w1) := LQ.refl (HH.out.kept (X := fun _ => False) (Kx.of_whole hq.bl) (fun h => h) (fun _ _ h => h))
  have HEND : Hid (∀ ps' w', LQ w1 L rb ps' w' → LQ w L rb ps' w') := fun ps' w' hq' => LQ.then (fun _ h => .inl h) (Kx.of_whole HB1.out) hq'
  have k2 : w1.cell? ⟨b, o + 2, none⟩ = some (.int .i64 ((M : Int) + 1)) := kept_cell hq.bl H2.out
  have H3' : Hid (w1.cell? ⟨b, o + 3, none⟩ = some (.bool true)) := kept_cell hq.bl H3.out
  clear hq hr hk
  have HPP : Hid (PtV (fun b => b ≠ L ∧ rb ≠ some b) w1 (.slice (some ⟨g, 0, none⟩) M c1) (kidA kb ko M)) := by
    have := HP.out.cut (i := 0) (m := M) (c' := c1) (by rw [kidA_len]; omega)
    rwa [List.drop_zero, kidA_take _ _ _ _ (by omega)] at this
  have hCM : w1.cell? ⟨g, M, none⟩ = some (pv ⟨kb, ko + M * 7, none⟩) := by
    obtain ⟨b9, o9, e9, h9⟩ := HP.out.get (i := M) (by rw [kidA_len]; omega)
    obtain ⟨rfl, rfl⟩ : g = b9 ∧ 0 = o9 := by simpa using e9
    rw [Nat.zero_add] at h9
    rw [h9]
    simp [kidA]
  have HCM : Hid (w1.cell? ⟨g, M, none⟩ = some (pv ⟨kb, ko + M * 7, none⟩)) := hCM
  clear hCM
  have HgL : Hid (g ≠ L ∧ rb ≠ some g) := ⟨by omega, fun e => by have := (hrw _ e).1; omega⟩
  have HK0' : Hid (w1.cell? ⟨kb, ko + M * 7, none⟩ = some (.int .i64 11)) := kept_cell HB1.out HK0.out
  have HK6' : Hid (w1.cell? ⟨kb, ko + M * 7 + 6, none⟩ = some (.slice (some ⟨sb, so, none⟩) 1 sc)) := kept_cell HB1.out HK6.out
  by_cases hE : c1 = (M + 1)
  · subst hE
    have z1 : decide (((M : Int) + 1) ≤ ((M : Int) + 1)) = true := decide_eq_true (by omega)
    have z3 : ((M : Int) + 1) ≤ ((M : Int) + 1) := by omega
    have z4 : (M + 1) ≤ (M + 1) := by omega
    go_wp2_with fail
    first | go_quiet (fail) | go_big_quiet (fail)
    go_wp2_with fail
    have HQa : Hid (LQ w1 L rb ps (w1.drewN nq)) := HQ0.out.still (below_dn _ _)
    refine (HQa.out.put ⟨#[40]⟩ (by omega)).mono ?_
    rintro e v1 ⟨⟨u1, rfl⟩, hq⟩
    have HQ1 : Hid _ := hq
    have y3 := hq.cell H3'.out hbL hbr
    clear hq
    have zM : (0 : Int) < (M : Int) + 1 := by omega
    have zM2 : decide ((0 : Int) < (M : Int) + 1) = true := decide_eq_true zM
    have zw : wrap64 ((M : Int) + 1 - 1) = (M : Int) := by unfold wrap64; omega
    have zw2 : ((M : Int) + 1 - 1) = (M : Int) := by omega
    have zM3 : (1 : Int) < (M : Int) + 1 := by omega
    have zM4 : (M : Int) ≤ ((M : Int) + 1) := by omega
    have zM5 : (M : Int) < (M : Int) + 1 := by omega
    go_wp2_with fail
    refine (HQ1.out.tell ⟨#[44, 32]⟩ HPP.out (by simp; omega)).mono ?_
    rintro e v2 ⟨⟨u2, rfl⟩, hq⟩
    have HQ2 : Hid _ := hq
    clear hq
    go_wp2_with fail
    refine (HQ2.out.put ⟨#[44, 32]⟩ (by have hA := tellP_lenK ⟨#[44, 32]⟩ kb ko M; simp; omega)).mono ?_
    rintro e v3 ⟨⟨u3, rfl⟩, hq⟩
    have HQ3 : Hid _ := hq
    clear hq
    go_wp2_with fail
    refine (HQ3.out.put ⟨#[46, 46, 46]⟩ (by have hA := tellP_lenK ⟨#[44, 32]⟩ kb ko M; simp; omega)).mono ?_
    rintro e v4 ⟨⟨u4, rfl⟩, hq⟩
    have HQ4 : Hid _ := hq
    clear hq
    have y5 := HQ4.out.cell HCM.out HgL.out.1 HgL.out.2
    have hel := elem_any (HQ4.out.cell HK0'.out hkL hkr) (HQ4.out.cell HK6'.out hkL hkr)
    go_wp2_with fail
    refine hel.mono ?_
    rintro e ve ⟨ae, ce, rfl, hpe, hbe⟩
    have HPE : Hid (PtV (fun b => v4.heap.size ≤ b) ve (.slice ae 1 ce) [⟨sb, so, none⟩]) := hpe
    have HBE : Hid _ := hbe
    clear hpe hbe hel y5
    go_wp2_with fail
    refine (HQ4.out.tellN ⟨#[]⟩ HBE.out HPE.out (by have hA := tellP_lenK ⟨#[44, 32]⟩ kb ko M; simp; omega)).mono ?_
    rintro e v5 ⟨⟨u5, rfl⟩, hq⟩
    have HQ5 : Hid _ := hq
    clear hq
    go_wp2_with fail
    refine (HQ5.out.put ⟨#[41]⟩ (by have hA := tellP_lenK ⟨#[44, 32]⟩ kb ko M; simp; omega)).mono ?_
    rintro e v6 ⟨⟨u6, rfl⟩, hq⟩
    have HQ6 : Hid _ := hq
    clear hq
    go_wp2_with fail
    go_end0
    refine ⟨⟨_, rfl⟩, HEND.out _ _ ?_⟩
    have hfin := HQ6.out
    simpa [sgP, show M + 1 - (M + 1) = 0 by omega, show 1 < M + 1 by omega, show 0 < M by omega] using hfin
  · have z1 : decide (((M : Int) + 1) ≤ (c1 : Int)) = true := decide_eq_true (by omega)
    have z3 : ((M : Int) + 1) ≤ (c1 : Int) := by omega
    have z4 : (M + 1) ≤ c1 := by omega
    have z5 : c1 ≠ (M + 1) := by omega
    have z6 : (M + 1) ≠ c1 := by omega
    have z7 : ¬ c1 - (M + 1) = 0 := by omega
    go_wp2_with fail
    first | go_quiet (fail) | go_big_quiet (fail)
    go_wp2_with fail
    have HQa : Hid (LQ w1 L rb ps (w1.drewN nq)) := HQ0.out.still (below_dn _ _)
    refine (HQa.out.put ⟨#[40]⟩ (by omega)).mono ?_
    rintro e v1 ⟨⟨u1, rfl⟩, hq⟩
    have HQ1 : Hid _ := hq
    have y3 := hq.cell H3'.out hbL hbr
    clear hq
    have zM : (0 : Int) < (M : Int) + 1 := by omega
    have zM2 : decide ((0 : Int) < (M : Int) + 1) = true := decide_eq_true zM
    have zw : wrap64 ((M : Int) + 1 - 1) = (M : Int) := by unfold wrap64; omega
    have zw2 : ((M : Int) + 1 - 1) = (M : Int) := by omega
    have zM3 : (1 : Int) < (M : Int) + 1 := by omega
    have zM4 : (M : Int) ≤ (c1 : Int) := by omega
    have zM5 : (M : Int) < (M : Int) + 1 := by omega
    go_wp2_with fail
    refine (HQ1.out.tell ⟨#[44, 32]⟩ HPP.out (by simp; omega)).mono ?_
    rintro e v2 ⟨⟨u2, rfl⟩, hq⟩
    have HQ2 : Hid _ := hq
    clear hq
    go_wp2_with fail
    refine (HQ2.out.put ⟨#[44, 32]⟩ (by have hA := tellP_lenK ⟨#[44, 32]⟩ kb ko M; simp; omega)).mono ?_
    rintro e v3 ⟨⟨u3, rfl⟩, hq⟩
    have HQ3 : Hid _ := hq
    clear hq
    go_wp2_with fail
    refine (HQ3.out.put ⟨#[46, 46, 46]⟩ (by have hA := tellP_lenK ⟨#[44, 32]⟩ kb ko M; simp; omega)).mono ?_
    rintro e v4 ⟨⟨u4, rfl⟩, hq⟩
    have HQ4 : Hid _ := hq
    clear hq
    have y5 := HQ4.out.cell HCM.out HgL.out.1 HgL.out.2
    have hel := elem_any (HQ4.out.cell HK0'.out hkL hkr) (HQ4.out.cell HK6'.out hkL hkr)
    go_wp2_with fail
    refine hel.mono ?_
    rintro e ve ⟨ae, ce, rfl, hpe, hbe⟩
    have HPE : Hid (PtV (fun b => v4.heap.size ≤ b) ve (.slice ae 1 ce) [⟨sb, so, none⟩]) := hpe
    have HBE : Hid _ := hbe
    clear hpe hbe hel y5
    go_wp2_with fail
    refine (HQ4.out.tellN ⟨#[]⟩ HBE.out HPE.out (by have hA := tellP_lenK ⟨#[44, 32]⟩ kb ko M; simp; omega)).mono ?_
    rintro e v5 ⟨⟨u5, rfl⟩, hq⟩
    have HQ5 : Hid _ := hq
    clear hq
    go_wp2_with fail
    refine (HQ5.out.put ⟨#[41]⟩ (by have hA := tellP_lenK ⟨#[44, 32]⟩ kb ko M; simp; omega)).mono ?_
    rintro e v6 ⟨⟨u6, rfl⟩, hq⟩
    have HQ6 : Hid _ := hq
    clear hq
    go_wp2_with fail
    go_end0
    refine ⟨⟨_, rfl⟩, HEND.out _ _ ?_⟩
    have hfin := HQ6.out
    simpa [sgP, show M + 1 - (M + 1) = 0 by omega, show 1 < M + 1 by omega, show 0 < M by omega] using hfin
set_option maxRecDepth 100000 in
set_option maxHeartbeats 8000000 in
theorem sig_B2 {w : World} {L : Nat} {rb : Option Nat} {ps : List ElQ} {b o M q kb ko c sb so sc : Nat} {a : Option Addr} (h : Ln w L rb ps) (hbL : b ≠ L) (hbr : rb ≠ some b)
    (h2 : w.cell? ⟨b, o + 2, none⟩ = some (.int .i64 ((M : Int) + 1))) (h3 : w.cell? ⟨b, o + 3, none⟩ = some (.bool true)) (h6 : w.cell? ⟨b, o + 6, none⟩ = some (.slice a (M + 1 + (q + 2)) c)) (ha : 0 < M + 1 + (q + 2) → a = some ⟨kb, ko, none⟩) (hn : ps.length + 2 * (M + 1 + (q + 2)) + 20 ≤ 1000000) (hM : 1 ≤ M) (hkL : kb ≠ L) (hkr : rb ≠ some kb) (hk0 : w.cell? ⟨kb, ko + M * 7, none⟩ = some (.int .i64 11)) (hk6 : w.cell? ⟨kb, ko + M * 7 + 6, none⟩ = some (.slice (some ⟨sb, so, none⟩) 1 sc)) :
    Calls Try.prog 39 #[.pointer (some ⟨L, 0, none⟩), pv ⟨b, o, none⟩] w fun e w' => (∃ u, e = .returned u) ∧ LQ w L rb (ps ++ sgP true (M + 1) (M + 1 + (q + 2)) kb ko ⟨sb, so, none⟩) w' := by
  have hk := kids2_any (kb := kb) (ko := ko) h6 ha (by omega)
  have hLw := h.lt
  have hrw := h.row_lt
  have HH : Hid (Ln w L rb ps) := h
  have HK0 : Hid (w.cell? ⟨kb, ko + M * 7, none⟩ = some (.int .i64 11)) := hk0
  have HK6 : Hid (w.cell? ⟨kb, ko + M * 7 + 6, none⟩ = some (.slice (some ⟨sb, so, none⟩) 1 sc)) := hk6
  have H2 : Hid (w.cell? ⟨b, o + 2, none⟩ = some (.int .i64 ((M : Int) + 1))) := h2
  have H3 : Hid (w.cell? ⟨b, o + 3, none⟩ = some (.bool true)) := h3
  have hmx : max (0 : Int) ((M : Int) + 1) = ((M : Int) + 1) := by omega
  have hmn : min ((M : Int) + 1) ((M : Int) + 1 + ((q : Int) + 2)) = ((M : Int) + 1) := by omega
  clear h h2 h3 h6 hk0 hk6 ha
  go_enter Try.func39, Try.ntmps39
  go_wp2_with fail
  refine hk.mono ?_
  intro e w1 hq
  obtain ⟨g, c1, rfl, hr⟩ := hq.ex
  rw [kidA_len] at hr
  rw [kidA_len]
  have hcap : M + 1 + (q + 2) ≤ c1 := by
    rcases hr.2 with ⟨h, _⟩ | ⟨g', cap', cur, h, _, _, h4, _⟩
    · cases h
    · cases h; exact h4
  have hcI : ((M : Int) + 1 + ((q : Int) + 2)) ≤ (c1 : Int) := by omega
  have hgw := (hr.lt g rfl)
  have HP : Hid (PtV (fun b => b ≠ L ∧ rb ≠ some b) w1 (.slice (some ⟨g, 0, none⟩) (M + 1 + (q + 2)) c1) (kidA kb ko (M + 1 + (q + 2)))) := ptV_own hr (by rw [kidA_len]) (by omega) (own_blk9 ⟨by omega, fun e => by have := (hrw _ e).1; omega⟩)
  have HB1 : Hid (Below w.heap.size w w1) := hq.bl
  have HQ0 : Hid (LQ w1 L rb ps w1) := LQ.refl (HH.out.kept (X := fun _ => False) (Kx.of_whole hq.bl) (fun h => h) (fun _ _ h => h))
  have HEND : Hid (∀ ps' w', LQ w1 L rb ps' w' → LQ w L rb ps' w') := fun ps' w' hq' => LQ.then (fun _ h => .inl h) (Kx.of_whole HB1.out) hq'
  have k2 : w1.cell? ⟨b, o + 2, none⟩ = some (.int .i64 ((M : Int) + 1)) := kept_cell hq.bl H2.out
  have H3' : Hid (w1.cell? ⟨b, o + 3, none⟩ = some (.bool true)) := kept_cell hq.bl H3.out
  clear hq hr hk
  have HPP : Hid (PtV (fun b => b ≠ L ∧ rb ≠ some b) w1 (.slice (some ⟨g, 0, none⟩) M c1) (kidA kb ko M)) := by
    have := HP.out.cut (i := 0) (m := M) (c' := c1) (by rw [kidA_len]; omega)
    rwa [List.drop_zero, kidA_take _ _ _ _ (by omega)] at this
  have hCM : w1.cell? ⟨g, M, none⟩ = some (pv ⟨kb, ko + M * 7, none⟩) := by
    obtain ⟨b9, o9, e9, h9⟩ := HP.out.get (i := M) (by rw [kidA_len]; omega)
    obtain ⟨rfl, rfl⟩ : g = b9 ∧ 0 = o9 := by simpa using e9
    rw [Nat.zero_add] at h9
    rw [h9]
    simp [kidA]
  have HCM : Hid (w1.cell? ⟨g, M, none⟩ = some (pv ⟨kb, ko + M * 7, none⟩)) := hCM
  clear hCM
  have HgL : Hid (g ≠ L ∧ rb ≠ some g) := ⟨by omega, fun e => by have := (hrw _ e).1; omega⟩
  have HK0' : Hid (w1.cell? ⟨kb, ko + M * 7, none⟩ = some (.int .i64 11)) := kept_cell HB1.out HK0.out
  have HK6' : Hid (w1.cell? ⟨kb, ko + M * 7 + 6, none⟩ = some (.slice (some ⟨sb, so, none⟩) 1 sc)) := kept_cell HB1.out HK6.out
  have HPR : Hid (PtV (fun b => b ≠ L ∧ rb ≠ some b) w1 (.slice (some ⟨g, (M + 1), none⟩) (q + 2) (c1 - (M + 1))) (kidA kb (ko + (M + 1) * 7) (q + 2))) := by
    have := HP.out.cut (i := (M + 1)) (m := q + 2) (c' := c1 - (M + 1)) (by rw [kidA_len]; omega)
    rwa [kidA_drop, show M + 1 + (q + 2) - (M + 1) = q + 2 by omega, List.take_of_length_le (by rw [kidA_len]; omega)] at this
  have z1 : decide (((M : Int) + 1) ≤ (c1 : Int)) = true := decide_eq_true (by omega)
  have z3 : ((M : Int) + 1) ≤ (c1 : Int) := by omega
  have z4 : (M + 1) ≤ c1 := by omega
  have z5 : c1 ≠ (M + 1) := by omega
  have z6 : (M + 1) ≠ c1 := by omega
  have z7 : ¬ c1 - (M + 1) = 0 := by omega
  have zq0 : (((q : Int) + 2) == 0) = false := int_bne (by omega)
  have zq1 : (((q : Int) + 2) == 1) = false := int_bne (by omega)
  go_wp2_with fail
  first | go_quiet (fail) | go_big_quiet (fail)
  go_wp2_with fail
  have HQa : Hid (LQ w1 L rb ps (w1.drewN nq)) := HQ0.out.still (below_dn _ _)
  refine (HQa.out.put ⟨#[40]⟩ (by omega)).mono ?_
  rintro e v1 ⟨⟨u1, rfl⟩, hq⟩
  have HQ1 : Hid _ := hq
  have y3 := hq.cell H3'.out hbL hbr
  clear hq
  have zM : (0 : Int) < (M : Int) + 1 := by omega
  have zM2 : decide ((0 : Int) < (M : Int) + 1) = true := decide_eq_true zM
  have zw : wrap64 ((M : Int) + 1 - 1) = (M : Int) := by unfold wrap64; omega
  have zw2 : ((M : Int) + 1 - 1) = (M : Int) := by omega
  have zM3 : (1 : Int) < (M : Int) + 1 := by omega
  have zM4 : (M : Int) ≤ (c1 : Int) := by omega
  have zM5 : (M : Int) < (M : Int) + 1 := by omega
  go_wp2_with fail
  refine (HQ1.out.tell ⟨#[44, 32]⟩ HPP.out (by simp; omega)).mono ?_
  rintro e v2 ⟨⟨u2, rfl⟩, hq⟩
  have HQ2 : Hid _ := hq
  clear hq
  go_wp2_with fail
  refine (HQ2.out.put ⟨#[44, 32]⟩ (by have hA := tellP_lenK ⟨#[44, 32]⟩ kb ko M; have hB := tellP_lenK ⟨#[44, 32]⟩ kb (ko + (M + 1) * 7) (q + 2); simp; omega)).mono ?_
  rintro e v3 ⟨⟨u3, rfl⟩, hq⟩
  have HQ3 : Hid _ := hq
  clear hq
  go_wp2_with fail
  refine (HQ3.out.put ⟨#[46, 46, 46]⟩ (by have hA := tellP_lenK ⟨#[44, 32]⟩ kb ko M; have hB := tellP_lenK ⟨#[44, 32]⟩ kb (ko + (M + 1) * 7) (q + 2); simp; omega)).mono ?_
  rintro e v4 ⟨⟨u4, rfl⟩, hq⟩
  have HQ4 : Hid _ := hq
  clear hq
  have y5 := HQ4.out.cell HCM.out HgL.out.1 HgL.out.2
  have hel := elem_any (HQ4.out.cell HK0'.out hkL hkr) (HQ4.out.cell HK6'.out hkL hkr)
  go_wp2_with fail
  refine hel.mono ?_
  rintro e ve ⟨ae, ce, rfl, hpe, hbe⟩
  have HPE : Hid (PtV (fun b => v4.heap.size ≤ b) ve (.slice ae 1 ce) [⟨sb, so, none⟩]) := hpe
  have HBE : Hid _ := hbe
  clear hpe hbe hel y5
  go_wp2_with fail
  refine (HQ4.out.tellN ⟨#[]⟩ HBE.out HPE.out (by have hA := tellP_lenK ⟨#[44, 32]⟩ kb ko M; have hB := tellP_lenK ⟨#[44, 32]⟩ kb (ko + (M + 1) * 7) (q + 2); simp; omega)).mono ?_
  rintro e v5 ⟨⟨u5, rfl⟩, hq⟩
  have HQ5 : Hid _ := hq
  clear hq
  go_wp2_with fail
  refine (HQ5.out.put ⟨#[41]⟩ (by have hA := tellP_lenK ⟨#[44, 32]⟩ kb ko M; have hB := tellP_lenK ⟨#[44, 32]⟩ kb (ko + (M + 1) * 7) (q + 2); simp; omega)).mono ?_
  rintro e v6 ⟨⟨u6, rfl⟩, hq⟩
  have HQ6 : Hid _ := hq
  clear hq
  go_wp2_with fail
  refine (HQ6.out.put ⟨#[32]⟩ (by have hA := tellP_lenK ⟨#[44, 32]⟩ kb ko M; have hB := tellP_lenK ⟨#[44, 32]⟩ kb (ko + (M + 1) * 7) (q + 2); simp; omega)).mono ?_
  rintro e v7 ⟨⟨u7, rfl⟩, hq⟩
  have HQ7 : Hid _ := hq
  clear hq
  go_wp2_with fail
  refine (brk_any HQ7.out HPR.out (by have hA := tellP_lenK ⟨#[44, 32]⟩ kb ko M; have hB := tellP_lenK ⟨#[44, 32]⟩ kb (ko + (M + 1) * 7) (q + 2); simp; omega)).mono ?_
  rintro e v8 ⟨⟨u8, rfl⟩, hq⟩
  have HQ8 : Hid _ := hq
  clear hq
  go_wp2_with fail
  go_end0
  refine ⟨⟨_, rfl⟩, HEND.out _ _ ?_⟩
  have hfin := HQ8.out
  simpa [sgP, show M + 1 + (q + 2) - (M + 1) = q + 2 by omega, show 1 < M + 1 by omega, show 0 < M by omega] using hfin
end Go.Proofs.Ytifcikhgbafegab

/-
  signature, walked at every function type.
-/
namespace Go.Proofs.Ytifcikhgbafegab
open Go.RowKit
theorem sig_any {w : World} {L : Nat} {rb : Option Nat} {ps : List ElQ} {b o N n kb ko c sb so sc : Nat} {f : Bool} {a : Option Addr} (h : Ln w L rb ps) (hbL : b ≠ L) (hbr : rb ≠ some b)
    (h2 : w.cell? ⟨b, o + 2, none⟩ = some (.int .i64 (N : Int))) (h3 : w.cell? ⟨b, o + 3, none⟩ = some (.bool f)) (h6 : w.cell? ⟨b, o + 6, none⟩ = some (.slice a n c)) (ha : 0 < n → a = some ⟨kb, ko, none⟩) (hN : N ≤ n) (hn : ps.length + 2 * n + 20 ≤ 1000000)
    (hf : f = true → 1 ≤ N ∧ kb ≠ L ∧ rb ≠ some kb ∧ w.cell? ⟨kb, ko + (N - 1) * 7, none⟩ = some (.int .i64 11) ∧ w.cell? ⟨kb, ko + (N - 1) * 7 + 6, none⟩ = some (.slice (some ⟨sb, so, none⟩) 1 sc)) :
    Calls Try.prog 39 #[.pointer (some ⟨L, 0, none⟩), pv ⟨b, o, none⟩] w fun e w' => (∃ u, e = .returned u) ∧ LQ w L rb (ps ++ sgP f N n kb ko ⟨sb, so, none⟩) w' := by
  obtain ⟨d, rfl⟩ : ∃ d, n = N + d := ⟨n - N, by omega⟩
  cases f with
  | false =>
    match d with
    | 0 => exact sig_N0 h hbL hbr h2 h3 h6 ha hn
    | 1 => exact sig_N1 h hbL hbr h2 h3 h6 ha hn
    | q + 2 => exact sig_N2 h hbL hbr h2 h3 h6 ha hn
  | true =>
    obtain ⟨h1, hkL, hkr, hk0, hk6⟩ := hf rfl
    obtain ⟨M, rfl⟩ : ∃ M, N = M + 1 := ⟨N - 1, by omega⟩
    rw [Nat.add_sub_cancel] at hk0 hk6
    match M, d with
    | 0, 0 =>
      rw [Nat.zero_mul, Nat.add_zero] at hk0 hk6
      exact sig_A0 h hbL hbr h2 h3 h6 ha hn hkL hkr hk0 hk6
    | 0, 1 =>
      rw [Nat.zero_mul, Nat.add_zero] at hk0 hk6
      exact sig_A1 h hbL hbr h2 h3 h6 ha hn hkL hkr hk0 hk6
    | 0, q + 2 =>
      rw [Nat.zero_mul, Nat.add_zero] at hk0 hk6
      exact sig_A2 h hbL hbr h2 h3 h6 ha hn hkL hkr hk0 hk6
    | M + 1, 0 => exact sig_B0 h hbL hbr h2 h3 h6 ha hn (by omega) hkL hkr hk0 hk6
    | M + 1, 1 => exact sig_B1 h hbL hbr h2 h3 h6 ha hn (by omega) hkL hkr hk0 hk6
    | M + 1, q + 2 => exact sig_B2 h hbL hbr h2 h3 h6 ha hn (by omega) hkL hkr hk0 hk6
end Go.Proofs.Ytifcikhgbafegab

