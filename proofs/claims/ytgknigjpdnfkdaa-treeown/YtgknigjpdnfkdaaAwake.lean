/-
  What every statement ends in: the sample; Expr and Stmt.
-/
import Derived.Test.YtgknigjpdnfkdaaIdents
namespace Go.Proofs.Ytgknigjpdnfkdaa
open Go.RowKit
def exB (k : Int) : Bool := decide (40 ≤ k ∧ k ≤ 52 ∧ k ≠ 47)
def stB (k : Int) : Bool := decide ((60 ≤ k ∧ k ≤ 77 ∧ k ≠ 65 ∧ k ≠ 76) ∨ k = 4 ∨ k = 5)
set_option maxRecDepth 100000 in
set_option maxHeartbeats 2000000 in
theorem expr_any (n : Nd) (a : Option Addr) (k c : Nat) (w : World) : Calls Try.prog 27 #[aggN n (.slice a k c)] w fun e w' => e = .returned (.bool (exB n.kind)) ∧ Below w.heap.size w w' := by
  simp only [aggN, encN]
  generalize n.kind = q at *
  go_enter Try.func27, Try.ntmps27
  go_wp2
  all_goals (go_ret; refine ⟨ret_bool ?_, below_alloc _ _⟩; rw [Bool.eq_iff_iff]; simp_all [exB]; try omega)
set_option maxRecDepth 100000 in
set_option maxHeartbeats 2000000 in
theorem rexpr_any (n : Nd) (a : Option Addr) (k c : Nat) (w : World) : Calls Try.prog 28 #[aggN n (.slice a k c)] w fun e w' => e = .returned (.bool (exB n.kind)) ∧ Below w.heap.size w w' := by
  simp only [aggN, encN]
  generalize n.kind = q at *
  go_enter Try.func28, Try.ntmps28
  go_wp2
  all_goals (go_ret; refine ⟨ret_bool ?_, below_alloc _ _⟩; rw [Bool.eq_iff_iff]; simp_all [exB]; try omega)
set_option maxRecDepth 100000 in
set_option maxHeartbeats 2000000 in
theorem stmt_any (n : Nd) (a : Option Addr) (k c : Nat) (w : World) : Calls Try.prog 29 #[aggN n (.slice a k c)] w fun e w' => e = .returned (.bool (stB n.kind)) ∧ Below w.heap.size w w' := by
  simp only [aggN, encN]
  generalize n.kind = q at *
  go_enter Try.func29, Try.ntmps29
  go_wp2
  all_goals (go_ret; refine ⟨ret_bool ?_, below_alloc _ _⟩; rw [Bool.eq_iff_iff]; simp_all [stB]; try omega)
set_option maxRecDepth 100000 in
set_option maxHeartbeats 2000000 in
theorem rstmt_any (n : Nd) (a : Option Addr) (k c : Nat) (w : World) : Calls Try.prog 30 #[aggN n (.slice a k c)] w fun e w' => e = .returned (.bool (stB n.kind)) ∧ Below w.heap.size w w' := by
  simp only [aggN, encN]
  generalize n.kind = q at *
  go_enter Try.func30, Try.ntmps30
  go_wp2
  all_goals (go_ret; refine ⟨ret_bool ?_, below_alloc _ _⟩; rw [Bool.eq_iff_iff]; simp_all [stB]; try omega)
def smp : Nd := .mk 52 0 5 ⟨#[43]⟩ [.mk 40 0 1 ⟨#[97]⟩ [], .mk 44 2 5 ⟨#[]⟩ [.mk 40 3 4 ⟨#[98]⟩ []]]
set_option maxRecDepth 100000 in
set_option maxHeartbeats 2000000 in
theorem sample_any (w : World) : Calls Try.prog 33 #[] w fun e w' => ∃ a c, e = .returned (aggN smp (.slice a 2 c)) ∧ SlV (fun _ _ _ => True) w' (.slice a 2 c) smp.kids ∧ Below w.heap.size w w' := by
  go_enter Try.func33, Try.ntmps33
  go_wp2
  obtain ⟨W, hW⟩ : ∃ y, (((w.alloc (.cells #[.int .i64 52, .int .i64 0, .int .i64 5, .string ⟨#[43]⟩, .slice (some ⟨w.heap.size + 1 + 1, 0, none⟩) 2 2] 24)).alloc (.cells #[.int .i64 40, .int .i64 3, .int .i64 4, .string ⟨#[98]⟩, .slice none 0 0] 24)).alloc (.cells #[.int .i64 40, .int .i64 0, .int .i64 1, .string ⟨#[97]⟩, .slice none 0 0, .int .i64 44, .int .i64 2, .int .i64 5, .string ⟨#[]⟩, .slice (some ⟨w.heap.size + 1, 0, none⟩) 1 1] 24)) = y := ⟨_, rfl⟩
  have hB : Below w.heap.size w W := hW ▸ bthen (below_alloc2 _ _ _) (below_alloc _ _)
  have h1 : W.heap[w.heap.size + 1]? = some (.cells #[.int .i64 40, .int .i64 3, .int .i64 4, .string ⟨#[98]⟩, .slice none 0 0] 24) := by
    rw [← hW]
    refine (Below.heap_alloc _ _ _ (by simp)).trans ?_
    have := heap_alloc_new (w.alloc (.cells #[.int .i64 52, .int .i64 0, .int .i64 5, .string ⟨#[43]⟩, .slice (some ⟨w.heap.size + 1 + 1, 0, none⟩) 2 2] 24)) (.cells #[.int .i64 40, .int .i64 3, .int .i64 4, .string ⟨#[98]⟩, .slice none 0 0] 24)
    simpa using this
  have h2 : W.heap[w.heap.size + 1 + 1]? = some (.cells #[.int .i64 40, .int .i64 0, .int .i64 1, .string ⟨#[97]⟩, .slice none 0 0, .int .i64 44, .int .i64 2, .int .i64 5, .string ⟨#[]⟩, .slice (some ⟨w.heap.size + 1, 0, none⟩) 1 1] 24) := by
    rw [← hW]
    have := heap_alloc_new ((w.alloc (.cells #[.int .i64 52, .int .i64 0, .int .i64 5, .string ⟨#[43]⟩, .slice (some ⟨w.heap.size + 1 + 1, 0, none⟩) 2 2] 24)).alloc (.cells #[.int .i64 40, .int .i64 3, .int .i64 4, .string ⟨#[98]⟩, .slice none 0 0] 24)) (.cells #[.int .i64 40, .int .i64 0, .int .i64 1, .string ⟨#[97]⟩, .slice none 0 0, .int .i64 44, .int .i64 2, .int .i64 5, .string ⟨#[]⟩, .slice (some ⟨w.heap.size + 1, 0, none⟩) 1 1] 24)
    simpa using this
  refine bodyPost_ret (v := aggN smp (.slice (some ⟨w.heap.size + 1 + 1, 0, none⟩) 2 2)) (by simp [results, Try.results33, go_sem, aggN, encN, smp, Nd.kind, Nd.fr, Nd.to, Nd.text]) rfl ⟨_, _, rfl, ?_, ?_⟩
  · rw [hW]
    refine .inr ⟨_, _, _, _, rfl, by simp [smp, Nd.kids], h2, trivial, ?_⟩
    simp [smp, Nd.kids, liesL, Nd.lies, cell_of h2]
    exact ⟨_, _, ⟨rfl, rfl⟩, ⟨_, h1⟩, by simp [cell_of h1]⟩
  · rw [hW]; exact hB
set_option maxRecDepth 100000 in
set_option maxHeartbeats 2000000 in
theorem awake_any (w : World) : Calls Try.prog 9 #[] w fun e w' => e = .returned (.bool true) ∧ Below w.heap.size w w' := by
  have hsz : smp.sz = 4 := by simp [smp, Nd.sz, szL]
  have hdp : smp.dep = 3 := by simp [smp, Nd.dep, depL]
  have hid : (idk (smp.flat 0)).length = 2 := by simp [smp, Nd.flat, flatL, idk, Nd.kind]
  have K1 : ∀ (w : World) (va : Value) (B : BP), SlV B w va smp.kids → _ := fun w va B h => size_any smp (by omega) w va B h
  have K2 : ∀ (w : World) (va : Value) (B : BP), SlV B w va smp.kids → _ := fun w va B h => depth_any smp (by omega) w va B h
  have K3 : ∀ (w : World) (va : Value) (B : BP), SlV B w va smp.kids → _ := fun w va B h => idents_any smp (by omega) w va B h
  have K4 := expr_any smp
  have K5 := stmt_any smp
  have e1 : exB smp.kind = true := by simp [exB, smp, Nd.kind]
  have e2 : stB smp.kind = false := by simp [stB, smp, Nd.kind]
  rw [e1] at K4
  rw [e2] at K5
  simp only [hsz, hdp, hid] at K1 K2 K3
  have hsm := sample_any w
  simp only [aggN, encN] at K1 K2 K3 K4 K5 hsm
  generalize smp.kind = q0 at *
  generalize smp.fr = q1 at *
  generalize smp.to = q2 at *
  generalize smp.text = q3 at *
  generalize smp.kids = q4 at *
  clear hsz hdp hid e1 e2
  have HK1 : Hid _ := ⟨K1⟩
  have HK2 : Hid _ := ⟨K2⟩
  have HK3 : Hid _ := ⟨K3⟩
  have HK4 : Hid _ := ⟨K4⟩
  have HK5 : Hid _ := ⟨K5⟩
  clear K1 K2 K3 K4 K5
  go_enter Try.func9, Try.ntmps9
  go_wp2_with (first
    | (go_at_call 33; refine hsm.mono ?_; clear hsm; rintro e w1 ⟨a, c, rfl, hS1, hB1⟩; obtain ⟨W1, hW1⟩ : ∃ y, w1.alloc (.cells #[.int .i64 q0, .int .i64 q1, .int .i64 q2, .string q3, .slice a 2 c] 24) = y := ⟨_, rfl⟩; have HB1 : Hid (Below w.heap.size w W1) := ⟨hW1 ▸ bthen hB1 (below_alloc _ _)⟩; have HS1 : Hid (SlV _ W1 _ _) := ⟨hS1.kept (hW1 ▸ below_alloc _ _)⟩; obtain ⟨kb, hkb⟩ : ∃ y, w1.heap.size = y := ⟨_, rfl⟩; have hb1 : W1.heap[kb]? = some (.cells #[.int .i64 q0, .int .i64 q1, .int .i64 q2, .string q3, .slice a 2 c] 24) := (hkb ▸ hW1 ▸ heap_alloc_new _ _); have z0 := cell_of hb1 0; have z1 := cell_of hb1 1; have z2 := cell_of hb1 2; have z3 := cell_of hb1 3; have z4 := cell_of hb1 4; simp only [List.getElem?_toArray, List.getElem?_cons_zero, List.getElem?_cons_succ] at z0 z1 z2 z3 z4; have HH1 : Hid (W1.heap[kb]? = some _) := ⟨hb1⟩; clear hS1 hB1 hb1)
    | (go_at_call 14; refine (HK1.out W1 _ _ HS1.out).mono ?_; clear HK1; rintro e v14 ⟨rfl, hB14⟩; have HB14 : Hid (Below w.heap.size w v14) := ⟨bthen HB1.out hB14⟩; have HS14 : Hid (SlV _ v14 _ _) := ⟨HS1.out.kept hB14⟩; have hb14 := (hB14.block kb (Array.getElem?_eq_some_iff.1 HH1.out).1).trans HH1.out; have z14a0 := cell_of hb14 0; have z14a1 := cell_of hb14 1; have z14a2 := cell_of hb14 2; have z14a3 := cell_of hb14 3; have z14a4 := cell_of hb14 4; simp only [List.getElem?_toArray, List.getElem?_cons_zero, List.getElem?_cons_succ] at z14a0 z14a1 z14a2 z14a3 z14a4; have HH14 : Hid (v14.heap[kb]? = some _) := ⟨hb14⟩; clear hB14 hb14)
    | (go_at_call 15; refine (HK2.out v14 _ _ HS14.out).mono ?_; clear HK2; rintro e v15 ⟨rfl, hB15⟩; have HB15 : Hid (Below w.heap.size w v15) := ⟨bthen HB14.out hB15⟩; have HS15 : Hid (SlV _ v15 _ _) := ⟨HS14.out.kept hB15⟩; have hb15 := (hB15.block kb (Array.getElem?_eq_some_iff.1 HH14.out).1).trans HH14.out; have z15a0 := cell_of hb15 0; have z15a1 := cell_of hb15 1; have z15a2 := cell_of hb15 2; have z15a3 := cell_of hb15 3; have z15a4 := cell_of hb15 4; simp only [List.getElem?_toArray, List.getElem?_cons_zero, List.getElem?_cons_succ] at z15a0 z15a1 z15a2 z15a3 z15a4; have HH15 : Hid (v15.heap[kb]? = some _) := ⟨hb15⟩; clear hB15 hb15)
    | (go_at_call 24; refine (HK3.out v15 _ _ HS15.out).mono ?_; clear HK3; rintro e v24 ⟨a4, c4, rfl, -, hB24⟩; have HB24 : Hid (Below w.heap.size w v24) := ⟨bthen HB15.out hB24⟩; have HS24 : Hid (SlV _ v24 _ _) := ⟨HS15.out.kept hB24⟩; have hb24 := (hB24.block kb (Array.getElem?_eq_some_iff.1 HH15.out).1).trans HH15.out; have z24a0 := cell_of hb24 0; have z24a1 := cell_of hb24 1; have z24a2 := cell_of hb24 2; have z24a3 := cell_of hb24 3; have z24a4 := cell_of hb24 4; simp only [List.getElem?_toArray, List.getElem?_cons_zero, List.getElem?_cons_succ] at z24a0 z24a1 z24a2 z24a3 z24a4; have HH24 : Hid (v24.heap[kb]? = some _) := ⟨hb24⟩; clear hB24 hb24)
    | (go_at_call 27; refine (HK4.out a 2 c v24).mono ?_; clear HK4; rintro e v27 ⟨rfl, hB27⟩; have HB27 : Hid (Below w.heap.size w v27) := ⟨bthen HB24.out hB27⟩; have HS27 : Hid (SlV _ v27 _ _) := ⟨HS24.out.kept hB27⟩; have hb27 := (hB27.block kb (Array.getElem?_eq_some_iff.1 HH24.out).1).trans HH24.out; have z27a0 := cell_of hb27 0; have z27a1 := cell_of hb27 1; have z27a2 := cell_of hb27 2; have z27a3 := cell_of hb27 3; have z27a4 := cell_of hb27 4; simp only [List.getElem?_toArray, List.getElem?_cons_zero, List.getElem?_cons_succ] at z27a0 z27a1 z27a2 z27a3 z27a4; have HH27 : Hid (v27.heap[kb]? = some _) := ⟨hb27⟩; clear hB27 hb27)
    | (go_at_call 29; refine (HK5.out a 2 c v27).mono ?_; clear HK5; rintro e v29 ⟨rfl, hB29⟩; have HB29 : Hid (Below w.heap.size w v29) := ⟨bthen HB27.out hB29⟩; have HS29 : Hid (SlV _ v29 _ _) := ⟨HS27.out.kept hB29⟩; have hb29 := (hB29.block kb (Array.getElem?_eq_some_iff.1 HH27.out).1).trans HH27.out; have z29a0 := cell_of hb29 0; have z29a1 := cell_of hb29 1; have z29a2 := cell_of hb29 2; have z29a3 := cell_of hb29 3; have z29a4 := cell_of hb29 4; simp only [List.getElem?_toArray, List.getElem?_cons_zero, List.getElem?_cons_succ] at z29a0 z29a1 z29a2 z29a3 z29a4; have HH29 : Hid (v29.heap[kb]? = some _) := ⟨hb29⟩; clear hB29 hb29))
  go_ret
  exact ⟨rfl, HB29.out⟩
end Go.Proofs.Ytgknigjpdnfkdaa
