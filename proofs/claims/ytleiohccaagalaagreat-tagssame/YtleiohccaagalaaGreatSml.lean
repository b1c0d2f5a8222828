/-
  TagsSame, walked.
-/
import Derived.Test.YtleiohccaagalaaGreatLaw
import Derived.Test.YtleiohccaagalaaGreatFew
import Derived.Test.YtleiohccaagalaaGreatRsm
namespace Go.Proofs.YtleiohccaagalaaGreat
open Go.RowKit Go.Sort
attribute [local go_sem ↓] Go.wp_at_zero Go.wp_at_succ
theorem readR_tup {w : World} {p : Pt} {e : Ending} {w' : World} (h : RulQ w (some p) e w') : ∃ b, e = .returned (.tuple #[.pointer (some ⟨b, 0, none⟩), .int .i64 0]) ∧ RuleV w' (.pointer (some ⟨b, 0, none⟩)) p ∧ Below w.heap.size w w' := by
  obtain ⟨b, e1, _, hr⟩ := h.yes _ rfl
  exact ⟨b, e1, .inr ⟨b, rfl, hr⟩, h.bl⟩
set_option maxRecDepth 100000 in
set_option maxHeartbeats 4000000 in
theorem same_11 (A B : ByteArray) {a : Option Addr} {n c : Nat} {l : List Bs} (w : World) (hA : A.size ≤ 600) (hB : B.size ≤ 600) (hT : TxV w a n c l) (hn : n ≤ 8796093021952) (hM : Mx w) {p : Pt} (hp : readR A.data.toList = some p) {q : Pt} (hq : readR B.data.toList = some q) : Calls Tryz.prog 3 #[.string A, .string B, .slice a n c] w fun e w' => e = .returned (.bool true) ∧ Below w.heap.size w w' := by
  have hf := few_any hT (by omega)
  have h1 := Read_any A w (by omega) hM
  have h2 : ∀ W, Below w.heap.size w W → Calls Tryz.prog 6 #[.string B] W (RulQ W (readR B.data.toList)) := fun W h => Read_any B W (by omega) (hM.below hM.lt h)
  have h3 := fun W => rread_any A W (by omega)
  have h4 := fun W => rread_any B W (by omega)
  rw [hp] at h1 h3
  rw [hq] at h2 h4
  have HA : Hid (∀ W, Below w.heap.size w W → Calls Tryz.prog 5 #[] W fun e w' => e = .returned (.bool true) ∧ Below W.heap.size W w') := fun W h => awake_any W (hM.below hM.lt h)
  have kA : ¬ (600 : Int) < (A.size : Int) := by omega
  have kB : ¬ (600 : Int) < (B.size : Int) := by omega
  have HT : Hid (TxV w a n c l) := hT
  have HN : Hid (n ≤ 8796093021952) := hn
  clear hM hp hq hA hB hT hn
  go_enter Tryz.func3, Tryz.ntmps3
  go_wp2_with (go_at_call 4; refine hf.mono ?_; intro e w1 hq; obtain ⟨b, rfl⟩ := hq.ex; obtain rfl := hq.same.symm; clear hq hf; cases b)
  · refine (HA.out _ (Below.refl _ _)).mono ?_
    rintro e w2 ⟨rfl, hb2⟩
    go_wp2_with fail
    go_ret
    exact ⟨rfl, hb2⟩
  · go_wp2_with (first
    | (go_at_call 6; refine h1.mono ?_; intro e w1 hq; obtain ⟨b1, rfl, hu1, hbl⟩ := readR_tup hq; have HB1 : Hid (Below w.heap.size w w1) := hbl; have HU1 : Hid (RuleV w1 (.pointer (some ⟨b1, 0, none⟩)) p) := hu1; have hz1 := hbl.size; clear hq h1 hu1 hbl)
    | (go_at_call 6; refine (h2 _ HB1.out).mono ?_; intro e w2 hq; obtain ⟨b2, rfl, hu2, hbl⟩ := readR_tup hq; have HB2 : Hid (Below w.heap.size w w2) := HB1.out.trans (hbl.mono hz1); have HY2 : Hid (RuleV w2 (.pointer (some ⟨b2, 0, none⟩)) q) := hu2; have HU2 : Hid (RuleV w2 (.pointer (some ⟨b1, 0, none⟩)) p) := RuleV.whole HU1.out hbl; have hz2 := HB2.out.size; clear hq h2 hu2 hbl)
    | (go_at_call 7; refine (h3 _).mono ?_; intro e w3 hq; obtain ⟨va, vc, rfl, hv⟩ := hq.yes _ rfl; have hb3 : Below w2.heap.size w2 (w3.alloc (.cells #[.int .i64 (nf p).kind, .string (bs (nf p).tag), .slice va (nf p).kids.length vc] 31)) := hq.bl.trans ((below_alloc w3 _).mono hq.bl.size); have HB3 : Hid (Below w.heap.size w (w3.alloc (.cells #[.int .i64 (nf p).kind, .string (bs (nf p).tag), .slice va (nf p).kids.length vc] 31))) := HB2.out.trans (hb3.mono hz2); have HU3 : Hid (RuleV (w3.alloc (.cells #[.int .i64 (nf p).kind, .string (bs (nf p).tag), .slice va (nf p).kids.length vc] 31)) (.pointer (some ⟨b1, 0, none⟩)) p) := RuleV.whole HU2.out hb3; have HY3 : Hid (RuleV (w3.alloc (.cells #[.int .i64 (nf p).kind, .string (bs (nf p).tag), .slice va (nf p).kids.length vc] 31)) (.pointer (some ⟨b2, 0, none⟩)) q) := RuleV.whole HY2.out hb3; have HV3 : Hid (SlV (Bf w2.heap.size) (w3.alloc (.cells #[.int .i64 (nf p).kind, .string (bs (nf p).tag), .slice va (nf p).kids.length vc] 31)) (.slice va (nf p).kids.length vc) (nf p).kids) := hv.kept (below_alloc w3 _); have HX3 : Hid ((w3.alloc (.cells #[.int .i64 (nf p).kind, .string (bs (nf p).tag), .slice va (nf p).kids.length vc] 31)).heap[w3.heap.size]? = some (.cells #[.int .i64 (nf p).kind, .string (bs (nf p).tag), .slice va (nf p).kids.length vc] 31 (0, 0))) := heap_new w3 _; have hz3 := HB3.out.size; clear hq h3 hb3 hv)
    | (go_at_call 7; refine (h4 _).mono ?_; intro e w4 hq; obtain ⟨ua, uc, rfl, hv⟩ := hq.yes _ rfl; have hb4 : Below (w3.alloc (.cells #[.int .i64 (nf p).kind, .string (bs (nf p).tag), .slice va (nf p).kids.length vc] 31)).heap.size (w3.alloc (.cells #[.int .i64 (nf p).kind, .string (bs (nf p).tag), .slice va (nf p).kids.length vc] 31)) (w4.alloc (.cells #[.int .i64 (nf q).kind, .string (bs (nf q).tag), .slice ua (nf q).kids.length uc] 31)) := hq.bl.trans ((below_alloc w4 _).mono hq.bl.size); have HB4 : Hid (Below w.heap.size w (w4.alloc (.cells #[.int .i64 (nf q).kind, .string (bs (nf q).tag), .slice ua (nf q).kids.length uc] 31))) := HB3.out.trans (hb4.mono hz3); have HU4 : Hid (RuleV (w4.alloc (.cells #[.int .i64 (nf q).kind, .string (bs (nf q).tag), .slice ua (nf q).kids.length uc] 31)) (.pointer (some ⟨b1, 0, none⟩)) p) := RuleV.whole HU3.out hb4; have HY4 : Hid (RuleV (w4.alloc (.cells #[.int .i64 (nf q).kind, .string (bs (nf q).tag), .slice ua (nf q).kids.length uc] 31)) (.pointer (some ⟨b2, 0, none⟩)) q) := RuleV.whole HY3.out hb4; have HV4 : Hid (SlV (Bf w2.heap.size) (w4.alloc (.cells #[.int .i64 (nf q).kind, .string (bs (nf q).tag), .slice ua (nf q).kids.length uc] 31)) (.slice va (nf p).kids.length vc) (nf p).kids) := HV3.out.kept hb4; have HX4 : Hid ((w4.alloc (.cells #[.int .i64 (nf q).kind, .string (bs (nf q).tag), .slice ua (nf q).kids.length uc] 31)).heap[w3.heap.size]? = some (.cells #[.int .i64 (nf p).kind, .string (bs (nf p).tag), .slice va (nf p).kids.length vc] 31 (0, 0))) := blk_kept hb4 HX3.out; have HW4 : Hid (SlV (Bf (w3.alloc (.cells #[.int .i64 (nf p).kind, .string (bs (nf p).tag), .slice va (nf p).kids.length vc] 31)).heap.size) (w4.alloc (.cells #[.int .i64 (nf q).kind, .string (bs (nf q).tag), .slice ua (nf q).kids.length uc] 31)) (.slice ua (nf q).kids.length uc) (nf q).kids) := hv.kept (below_alloc w4 _); have HZ4 : Hid ((w4.alloc (.cells #[.int .i64 (nf q).kind, .string (bs (nf q).tag), .slice ua (nf q).kids.length uc] 31)).heap[w4.heap.size]? = some (.cells #[.int .i64 (nf q).kind, .string (bs (nf q).tag), .slice ua (nf q).kids.length uc] 31 (0, 0))) := heap_new w4 _; have hz4 := HB4.out.size; clear hq h4 hb4 hv))
    obtain ⟨Bq, hBq⟩ : ∃ Bq, Bq = alike p q (eo l) := ⟨_, rfl⟩
    have HS4 : Hid (∀ W, Below (w4.alloc (.cells #[.int .i64 (nf q).kind, .string (bs (nf q).tag), .slice ua (nf q).kids.length uc] 31)).heap.size (w4.alloc (.cells #[.int .i64 (nf q).kind, .string (bs (nf q).tag), .slice ua (nf q).kids.length uc] 31)) W → Calls Tryz.prog 8 #[.pointer (some ⟨b1, 0, none⟩), .pointer (some ⟨b2, 0, none⟩), .slice a n c] W fun e w' => e = .returned (.bool Bq) ∧ Below W.heap.size W w') := fun W h => by
      rw [hBq]; exact Same_any (RuleV.whole HU4.out h) (RuleV.whole HY4.out h) (HT.out.whole (HB4.out.trans (h.mono hz4))) HN.out
    have HRS4 : Hid (∀ W, Below (w4.alloc (.cells #[.int .i64 (nf q).kind, .string (bs (nf q).tag), .slice ua (nf q).kids.length uc] 31)).heap.size (w4.alloc (.cells #[.int .i64 (nf q).kind, .string (bs (nf q).tag), .slice ua (nf q).kids.length uc] 31)) W → Calls Tryz.prog 9 #[.agg #[.int .i64 (nf p).kind, .string (bs (nf p).tag), .slice va (nf p).kids.length vc], .agg #[.int .i64 (nf q).kind, .string (bs (nf q).tag), .slice ua (nf q).kids.length uc], .slice a n c] W fun e w' => e = .returned (.bool Bq) ∧ Below W.heap.size W w') := fun W h => by
      rw [hBq]; exact rsame_any _ _ W (HV4.out.kept h) (HW4.out.kept h) (HT.out.whole (HB4.out.trans (h.mono hz4))) HN.out
    have HA4 : Hid (∀ W, Below (w4.alloc (.cells #[.int .i64 (nf q).kind, .string (bs (nf q).tag), .slice ua (nf q).kids.length uc] 31)).heap.size (w4.alloc (.cells #[.int .i64 (nf q).kind, .string (bs (nf q).tag), .slice ua (nf q).kids.length uc] 31)) W → Calls Tryz.prog 5 #[] W fun e w' => e = .returned (.bool true) ∧ Below W.heap.size W w') := fun W h => HA.out W (HB4.out.trans (h.mono hz4))
    have HKP : Hid (∀ W, Below (w4.alloc (.cells #[.int .i64 (nf q).kind, .string (bs (nf q).tag), .slice ua (nf q).kids.length uc] 31)).heap.size (w4.alloc (.cells #[.int .i64 (nf q).kind, .string (bs (nf q).tag), .slice ua (nf q).kids.length uc] 31)) W → (W.cell? ⟨w3.heap.size, 0, none⟩ = some (.int .i64 (nf p).kind) ∧ W.cell? ⟨w3.heap.size, 1, none⟩ = some (.string (bs (nf p).tag)) ∧ W.cell? ⟨w3.heap.size, 2, none⟩ = some (.slice va (nf p).kids.length vc)) ∧ (W.cell? ⟨w4.heap.size, 0, none⟩ = some (.int .i64 (nf q).kind) ∧ W.cell? ⟨w4.heap.size, 1, none⟩ = some (.string (bs (nf q).tag)) ∧ W.cell? ⟨w4.heap.size, 2, none⟩ = some (.slice ua (nf q).kids.length uc))) := fun W h => by
      obtain ⟨k0, k1, k2, _, _, _⟩ := bx3 (blk_kept h HX4.out)
      obtain ⟨j0, j1, j2, _, _, _⟩ := bx3 (blk_kept h HZ4.out)
      exact ⟨⟨k0, k1, k2⟩, j0, j1, j2⟩
    clear hBq HU4 HY4 HV4 HW4 HX4 HZ4 HA HU3 HY3 HV3 HX3 HB3 HU2 HY2 HB2 HU1 HB1
    generalize w4.alloc (.cells #[.int .i64 (nf q).kind, .string (bs (nf q).tag), .slice ua (nf q).kids.length uc] 31) = W5 at *
    generalize (nf p).kind = kp at *
    generalize (nf q).kind = kq at *
    generalize (nf p).kids.length = np at *
    generalize (nf q).kids.length = nq' at *
    generalize bs (nf p).tag = tp at *
    generalize bs (nf q).tag = tq at *
    have kS := HKP.out W5 (Below.refl _ _)
    cases Bq
    all_goals
      go_region_held3 (fun W => (W.cell? ⟨w3.heap.size, 0, none⟩ = some (.int .i64 kp) ∧ W.cell? ⟨w3.heap.size, 1, none⟩ = some (.string tp) ∧ W.cell? ⟨w3.heap.size, 2, none⟩ = some (.slice va np vc)) ∧ (W.cell? ⟨w4.heap.size, 0, none⟩ = some (.int .i64 kq) ∧ W.cell? ⟨w4.heap.size, 1, none⟩ = some (.string tq) ∧ W.cell? ⟨w4.heap.size, 2, none⟩ = some (.slice ua nq' uc)))
        (first | exact kS | go_keep)
        (first
          | (go_at_call 8; refine (HS4.out _ (below_drew1 _)).mono ?_; rintro e w6 ⟨rfl, hb6⟩; have HB6 : Hid (Below W5.heap.size W5 w6) := (below_drew1 _).trans hb6; have kS := HKP.out w6 HB6.out; have hz6 := HB6.out.size; clear hb6 HS4)
          | (go_at_call 9; refine (HRS4.out _ HB6.out).mono ?_; rintro e w7 ⟨rfl, hb7⟩; have HB7 : Hid (Below W5.heap.size W5 w7) := HB6.out.trans (hb7.mono hz6); have kS := HKP.out w7 HB7.out; have hz7 := HB7.out.size; clear hb7 HRS4)
          | (go_at_call 5; refine (HA4.out _ HB7.out).mono ?_; rintro e w8 ⟨rfl, hb8⟩; have HB8 : Hid (Below W5.heap.size W5 w8) := HB7.out.trans (hb8.mono hz7); have kS := HKP.out w8 HB8.out; clear hb8 HA4))
      all_goals
        go_wp2_with fail
        go_ret
        exact ⟨rfl, HB4.out.trans (HB8.out.mono hz4)⟩
set_option maxRecDepth 100000 in
set_option maxHeartbeats 4000000 in
theorem same_10 (A B : ByteArray) {a : Option Addr} {n c : Nat} {l : List Bs} (w : World) (hA : A.size ≤ 600) (hB : B.size ≤ 600) (hT : TxV w a n c l) (hn : n ≤ 8796093021952) (hM : Mx w) {p : Pt} (hp : readR A.data.toList = some p) (hq : readR B.data.toList = none) : Calls Tryz.prog 3 #[.string A, .string B, .slice a n c] w fun e w' => e = .returned (.bool true) ∧ Below w.heap.size w w' := by
  have hf := few_any hT (by omega)
  have h1 := Read_any A w (by omega) hM
  have h2 : ∀ W, Below w.heap.size w W → Calls Tryz.prog 6 #[.string B] W (RulQ W (readR B.data.toList)) := fun W h => Read_any B W (by omega) (hM.below hM.lt h)
  have h3 := fun W => rread_any A W (by omega)
  have h4 := fun W => rread_any B W (by omega)
  rw [hp] at h1 h3
  rw [hq] at h2 h4
  have HA : Hid (∀ W, Below w.heap.size w W → Calls Tryz.prog 5 #[] W fun e w' => e = .returned (.bool true) ∧ Below W.heap.size W w') := fun W h => awake_any W (hM.below hM.lt h)
  have kA : ¬ (600 : Int) < (A.size : Int) := by omega
  have kB : ¬ (600 : Int) < (B.size : Int) := by omega
  have HT : Hid (TxV w a n c l) := hT
  have HN : Hid (n ≤ 8796093021952) := hn
  clear hM hp hq hA hB hT hn
  go_enter Tryz.func3, Tryz.ntmps3
  go_wp2_with (go_at_call 4; refine hf.mono ?_; intro e w1 hq; obtain ⟨b, rfl⟩ := hq.ex; obtain rfl := hq.same.symm; clear hq hf; cases b)
  · refine (HA.out _ (Below.refl _ _)).mono ?_
    rintro e w2 ⟨rfl, hb2⟩
    go_wp2_with fail
    go_ret
    exact ⟨rfl, hb2⟩
  · go_wp2_with (first
    | (go_at_call 6; refine h1.mono ?_; intro e w1 hq; obtain ⟨b1, rfl, hu1, hbl⟩ := readR_tup hq; have HB1 : Hid (Below w.heap.size w w1) := hbl; have HU1 : Hid (RuleV w1 (.pointer (some ⟨b1, 0, none⟩)) p) := hu1; have hz1 := hbl.size; clear hq h1 hu1 hbl)
    | (go_at_call 6; refine (h2 _ HB1.out).mono ?_; intro e w2 hq; obtain rfl := hq.no rfl; have HB2 : Hid (Below w.heap.size w w2) := HB1.out.trans (hq.bl.mono hz1); have HU2 : Hid (RuleV w2 (.pointer (some ⟨b1, 0, none⟩)) p) := RuleV.whole HU1.out hq.bl; have hz2 := HB2.out.size; clear hq h2)
    | (go_at_call 7; refine (h3 _).mono ?_; intro e w3 hq; obtain ⟨va, vc, rfl, hv⟩ := hq.yes _ rfl; have hb3 : Below w2.heap.size w2 (w3.alloc (.cells #[.int .i64 (nf p).kind, .string (bs (nf p).tag), .slice va (nf p).kids.length vc] 31)) := hq.bl.trans ((below_alloc w3 _).mono hq.bl.size); have HB3 : Hid (Below w.heap.size w (w3.alloc (.cells #[.int .i64 (nf p).kind, .string (bs (nf p).tag), .slice va (nf p).kids.length vc] 31))) := HB2.out.trans (hb3.mono hz2); have hz3 := HB3.out.size; clear hq h3 hb3 hv)
    | (go_at_call 7; refine (h4 _).mono ?_; intro e w4 hq; obtain rfl := hq.no rfl; have hb4 : Below (w3.alloc (.cells #[.int .i64 (nf p).kind, .string (bs (nf p).tag), .slice va (nf p).kids.length vc] 31)).heap.size (w3.alloc (.cells #[.int .i64 (nf p).kind, .string (bs (nf p).tag), .slice va (nf p).kids.length vc] 31)) (w4.alloc (.cells #[.int .i64 0, .string ⟨#[]⟩, .slice none 0 0] 31)) := hq.bl.trans ((below_alloc w4 _).mono hq.bl.size); have HB4 : Hid (Below w.heap.size w (w4.alloc (.cells #[.int .i64 0, .string ⟨#[]⟩, .slice none 0 0] 31))) := HB3.out.trans (hb4.mono hz3); have hz4 := HB4.out.size; clear hq h4 hb4)
    | (go_at_call 5; refine (HA.out _ HB4.out).mono ?_; rintro e w5 ⟨rfl, hb5⟩; have HB5 : Hid (Below w.heap.size w w5) := HB4.out.trans (hb5.mono hz4); clear hb5))
    go_ret
    exact ⟨rfl, HB5.out⟩
set_option maxRecDepth 100000 in
set_option maxHeartbeats 4000000 in
theorem same_01 (A B : ByteArray) {a : Option Addr} {n c : Nat} {l : List Bs} (w : World) (hA : A.size ≤ 600) (hB : B.size ≤ 600) (hT : TxV w a n c l) (hn : n ≤ 8796093021952) (hM : Mx w) (hp : readR A.data.toList = none) {q : Pt} (hq : readR B.data.toList = some q) : Calls Tryz.prog 3 #[.string A, .string B, .slice a n c] w fun e w' => e = .returned (.bool true) ∧ Below w.heap.size w w' := by
  have hf := few_any hT (by omega)
  have h1 := Read_any A w (by omega) hM
  have h2 : ∀ W, Below w.heap.size w W → Calls Tryz.prog 6 #[.string B] W (RulQ W (readR B.data.toList)) := fun W h => Read_any B W (by omega) (hM.below hM.lt h)
  have h3 := fun W => rread_any A W (by omega)
  have h4 := fun W => rread_any B W (by omega)
  rw [hp] at h1 h3
  rw [hq] at h2 h4
  have HA : Hid (∀ W, Below w.heap.size w W → Calls Tryz.prog 5 #[] W fun e w' => e = .returned (.bool true) ∧ Below W.heap.size W w') := fun W h => awake_any W (hM.below hM.lt h)
  have kA : ¬ (600 : Int) < (A.size : Int) := by omega
  have kB : ¬ (600 : Int) < (B.size : Int) := by omega
  have HT : Hid (TxV w a n c l) := hT
  have HN : Hid (n ≤ 8796093021952) := hn
  clear hM hp hq hA hB hT hn
  go_enter Tryz.func3, Tryz.ntmps3
  go_wp2_with (go_at_call 4; refine hf.mono ?_; intro e w1 hq; obtain ⟨b, rfl⟩ := hq.ex; obtain rfl := hq.same.symm; clear hq hf; cases b)
  · refine (HA.out _ (Below.refl _ _)).mono ?_
    rintro e w2 ⟨rfl, hb2⟩
    go_wp2_with fail
    go_ret
    exact ⟨rfl, hb2⟩
  · go_wp2_with (first
    | (go_at_call 6; refine h1.mono ?_; intro e w1 hq; obtain rfl := hq.no rfl; have HB1 : Hid (Below w.heap.size w w1) := hq.bl; have hz1 := hq.bl.size; clear hq h1)
    | (go_at_call 6; refine (h2 _ HB1.out).mono ?_; intro e w2 hq; obtain ⟨b2, rfl, hu2, hbl⟩ := readR_tup hq; have HB2 : Hid (Below w.heap.size w w2) := HB1.out.trans (hbl.mono hz1); have HY2 : Hid (RuleV w2 (.pointer (some ⟨b2, 0, none⟩)) q) := hu2; have hz2 := HB2.out.size; clear hq h2 hu2 hbl)
    | (go_at_call 7; refine (h3 _).mono ?_; intro e w3 hq; obtain rfl := hq.no rfl; have hb3 : Below w2.heap.size w2 (w3.alloc (.cells #[.int .i64 0, .string ⟨#[]⟩, .slice none 0 0] 31)) := hq.bl.trans ((below_alloc w3 _).mono hq.bl.size); have HB3 : Hid (Below w.heap.size w (w3.alloc (.cells #[.int .i64 0, .string ⟨#[]⟩, .slice none 0 0] 31))) := HB2.out.trans (hb3.mono hz2); have hz3 := HB3.out.size; clear hq h3 hb3)
    | (go_at_call 7; refine (h4 _).mono ?_; intro e w4 hq; obtain ⟨ua, uc, rfl, hv⟩ := hq.yes _ rfl; have hb4 : Below (w3.alloc (.cells #[.int .i64 0, .string ⟨#[]⟩, .slice none 0 0] 31)).heap.size (w3.alloc (.cells #[.int .i64 0, .string ⟨#[]⟩, .slice none 0 0] 31)) (w4.alloc (.cells #[.int .i64 (nf q).kind, .string (bs (nf q).tag), .slice ua (nf q).kids.length uc] 31)) := hq.bl.trans ((below_alloc w4 _).mono hq.bl.size); have HB4 : Hid (Below w.heap.size w (w4.alloc (.cells #[.int .i64 (nf q).kind, .string (bs (nf q).tag), .slice ua (nf q).kids.length uc] 31))) := HB3.out.trans (hb4.mono hz3); have hz4 := HB4.out.size; clear hq h4 hb4 hv)
    | (go_at_call 5; refine (HA.out _ HB4.out).mono ?_; rintro e w5 ⟨rfl, hb5⟩; have HB5 : Hid (Below w.heap.size w w5) := HB4.out.trans (hb5.mono hz4); clear hb5))
    go_ret
    exact ⟨rfl, HB5.out⟩
set_option maxRecDepth 100000 in
set_option maxHeartbeats 4000000 in
theorem same_00 (A B : ByteArray) {a : Option Addr} {n c : Nat} {l : List Bs} (w : World) (hA : A.size ≤ 600) (hB : B.size ≤ 600) (hT : TxV w a n c l) (hn : n ≤ 8796093021952) (hM : Mx w) (hp : readR A.data.toList = none) (hq : readR B.data.toList = none) : Calls Tryz.prog 3 #[.string A, .string B, .slice a n c] w fun e w' => e = .returned (.bool true) ∧ Below w.heap.size w w' := by
  have hf := few_any hT (by omega)
  have h1 := Read_any A w (by omega) hM
  have h2 : ∀ W, Below w.heap.size w W → Calls Tryz.prog 6 #[.string B] W (RulQ W (readR B.data.toList)) := fun W h => Read_any B W (by omega) (hM.below hM.lt h)
  have h3 := fun W => rread_any A W (by omega)
  have h4 := fun W => rread_any B W (by omega)
  rw [hp] at h1 h3
  rw [hq] at h2 h4
  have HA : Hid (∀ W, Below w.heap.size w W → Calls Tryz.prog 5 #[] W fun e w' => e = .returned (.bool true) ∧ Below W.heap.size W w') := fun W h => awake_any W (hM.below hM.lt h)
  have kA : ¬ (600 : Int) < (A.size : Int) := by omega
  have kB : ¬ (600 : Int) < (B.size : Int) := by omega
  have HT : Hid (TxV w a n c l) := hT
  have HN : Hid (n ≤ 8796093021952) := hn
  clear hM hp hq hA hB hT hn
  go_enter Tryz.func3, Tryz.ntmps3
  go_wp2_with (go_at_call 4; refine hf.mono ?_; intro e w1 hq; obtain ⟨b, rfl⟩ := hq.ex; obtain rfl := hq.same.symm; clear hq hf; cases b)
  · refine (HA.out _ (Below.refl _ _)).mono ?_
    rintro e w2 ⟨rfl, hb2⟩
    go_wp2_with fail
    go_ret
    exact ⟨rfl, hb2⟩
  · go_wp2_with (first
    | (go_at_call 6; refine h1.mono ?_; intro e w1 hq; obtain rfl := hq.no rfl; have HB1 : Hid (Below w.heap.size w w1) := hq.bl; have hz1 := hq.bl.size; clear hq h1)
    | (go_at_call 6; refine (h2 _ HB1.out).mono ?_; intro e w2 hq; obtain rfl := hq.no rfl; have HB2 : Hid (Below w.heap.size w w2) := HB1.out.trans (hq.bl.mono hz1); have hz2 := HB2.out.size; clear hq h2)
    | (go_at_call 7; refine (h3 _).mono ?_; intro e w3 hq; obtain rfl := hq.no rfl; have hb3 : Below w2.heap.size w2 (w3.alloc (.cells #[.int .i64 0, .string ⟨#[]⟩, .slice none 0 0] 31)) := hq.bl.trans ((below_alloc w3 _).mono hq.bl.size); have HB3 : Hid (Below w.heap.size w (w3.alloc (.cells #[.int .i64 0, .string ⟨#[]⟩, .slice none 0 0] 31))) := HB2.out.trans (hb3.mono hz2); have hz3 := HB3.out.size; clear hq h3 hb3)
    | (go_at_call 7; refine (h4 _).mono ?_; intro e w4 hq; obtain rfl := hq.no rfl; have hb4 : Below (w3.alloc (.cells #[.int .i64 0, .string ⟨#[]⟩, .slice none 0 0] 31)).heap.size (w3.alloc (.cells #[.int .i64 0, .string ⟨#[]⟩, .slice none 0 0] 31)) (w4.alloc (.cells #[.int .i64 0, .string ⟨#[]⟩, .slice none 0 0] 31)) := hq.bl.trans ((below_alloc w4 _).mono hq.bl.size); have HB4 : Hid (Below w.heap.size w (w4.alloc (.cells #[.int .i64 0, .string ⟨#[]⟩, .slice none 0 0] 31))) := HB3.out.trans (hb4.mono hz3); have hz4 := HB4.out.size; clear hq h4 hb4)
    | (go_at_call 5; refine (HA.out _ HB4.out).mono ?_; rintro e w5 ⟨rfl, hb5⟩; have HB5 : Hid (Below w.heap.size w w5) := HB4.out.trans (hb5.mono hz4); clear hb5))
    go_ret
    exact ⟨rfl, HB5.out⟩
set_option maxRecDepth 100000 in
set_option maxHeartbeats 4000000 in
theorem samelaw_any (A B : ByteArray) {a : Option Addr} {n c : Nat} {l : List Bs} (w : World) (hT : TxV w a n c l) (hn : n ≤ 8796093021952) (hM : Mx w) : Calls Tryz.prog 3 #[.string A, .string B, .slice a n c] w fun e w' => e = .returned (.bool true) ∧ Below w.heap.size w w' := by
  by_cases hA : A.size ≤ 600
  · by_cases hB : B.size ≤ 600
    · cases hp : readR A.data.toList with
      | some p =>
        cases hq : readR B.data.toList with
        | some q => exact same_11 A B w hA hB hT hn hM hp hq
        | none => exact same_10 A B w hA hB hT hn hM hp hq
      | none =>
        cases hq : readR B.data.toList with
        | some q => exact same_01 A B w hA hB hT hn hM hp hq
        | none => exact same_00 A B w hA hB hT hn hM hp hq
    · have HA := awake_any w hM
      have kA : ¬ (600 : Int) < (A.size : Int) := by omega
      have kB : (600 : Int) < (B.size : Int) := by omega
      clear hA hB hM hT hn
      go_enter Tryz.func3, Tryz.ntmps3
      go_wp2_with (go_at_call 5; refine HA.mono ?_; rintro e w2 ⟨rfl, hb2⟩)
      go_ret
      exact ⟨rfl, hb2⟩
  · have HA := awake_any w hM
    have kA : (600 : Int) < (A.size : Int) := by omega
    clear hA hM hT hn
    go_enter Tryz.func3, Tryz.ntmps3
    go_wp2_with (go_at_call 5; refine HA.mono ?_; rintro e w2 ⟨rfl, hb2⟩)
    go_ret
    exact ⟨rfl, hb2⟩
end Go.Proofs.YtleiohccaagalaaGreat
