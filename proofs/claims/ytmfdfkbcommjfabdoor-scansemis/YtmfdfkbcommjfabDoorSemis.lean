/-
  ScanSemis, called in memory that holds Go's tables of UTF-8 and any MaxLen: it returns true and leaves all that lay there as it was.
-/
import Derived.Test.YtmfdfkbcommjfabDoorAsk
namespace Go.Proofs.YtmfdfkbcommjfabDoor
open Go.RowKit
attribute [local go_sem ↓] Go.wp_at_zero Go.wp_at_succ
/-- the texts of the law -/
def smL : List (List UInt8) := [[97], [49], [34, 115, 34], [98, 114, 101, 97, 107], [99, 111, 110, 116, 105, 110, 117, 101], [114, 101, 116, 117, 114, 110], [43, 43], [45, 45], [41], [93], [125], [43], [40], [91], [123], [44], [46], [105, 102], [102, 117, 110, 99], [61], [58, 61], [60, 45], [124, 124], [103, 111], [100, 101, 102, 97, 117, 108, 116], [58], [46, 46, 46]]
def smV : Array Value := #[.string ⟨#[97]⟩, .string ⟨#[49]⟩, .string ⟨#[34, 115, 34]⟩, .string ⟨#[98, 114, 101, 97, 107]⟩, .string ⟨#[99, 111, 110, 116, 105, 110, 117, 101]⟩, .string ⟨#[114, 101, 116, 117, 114, 110]⟩, .string ⟨#[43, 43]⟩, .string ⟨#[45, 45]⟩, .string ⟨#[41]⟩, .string ⟨#[93]⟩, .string ⟨#[125]⟩, .string ⟨#[43]⟩, .string ⟨#[40]⟩, .string ⟨#[91]⟩, .string ⟨#[123]⟩, .string ⟨#[44]⟩, .string ⟨#[46]⟩, .string ⟨#[105, 102]⟩, .string ⟨#[102, 117, 110, 99]⟩, .string ⟨#[61]⟩, .string ⟨#[58, 61]⟩, .string ⟨#[60, 45]⟩, .string ⟨#[124, 124]⟩, .string ⟨#[103, 111]⟩, .string ⟨#[100, 101, 102, 97, 117, 108, 116]⟩, .string ⟨#[58]⟩, .string ⟨#[46, 46, 46]⟩]
theorem smV_get : smV = (smL.map fun x => Value.string (bsL x)).toArray := rfl
def okRead (S : ByteArray) (n : Nat) : Bool := decide (S.size ≤ 65536) && okT S && (match scn S.data.toList 0 0 ⟨[], []⟩ with | .ok s => s.toks.length == n | .error _ => false)
theorem okRead_of {S : ByteArray} {n : Nat} (h : okRead S n = true) : ∃ s, readOf S = .ok s ∧ s.toks.length = n := by
  unfold okRead at h
  rw [Bool.and_eq_true, Bool.and_eq_true, decide_eq_true_eq] at h
  obtain ⟨⟨h1, h2⟩, h3⟩ := h
  unfold readOf
  rw [if_neg (by omega), h2, if_neg (by decide)]
  cases hs : scn S.data.toList 0 0 ⟨[], []⟩ with
  | error o => rw [hs] at h3; cases h3
  | ok s => rw [hs] at h3; exact ⟨s, rfl, eq_of_beq h3⟩
def smAll : Bool := (List.range 27).all fun k => okRead (bsL (smL.getD k [] ++ [10, 120])) (if k < 11 then 5 else 4) && okRead (bsL (smL.getD k [] ++ [32, 47, 47, 32, 114])) (if k < 11 then 3 else 2)
theorem smAll_true : smAll = true := by decide +kernel
theorem sm_at (k : Nat) (hk : k < 27) : ∃ x s1 s2, smL[k]? = some x ∧ readOf (bsL (x ++ [10, 120])) = .ok s1 ∧ s1.toks.length = (if k < 11 then 5 else 4) ∧ readOf (bsL (x ++ [32, 47, 47, 32, 114])) = .ok s2 ∧ s2.toks.length = (if k < 11 then 3 else 2) := by
  have h := smAll_true
  unfold smAll at h
  rw [List.all_eq_true] at h
  have hx := h k (by simpa using hk)
  rw [Bool.and_eq_true] at hx
  obtain ⟨s1, a1, a2⟩ := okRead_of hx.1
  obtain ⟨s2, b1, b2⟩ := okRead_of hx.2
  have hl : smL.length = 27 := rfl
  refine ⟨smL.getD k [], s1, s2, ?_, a1, a2, b1, b2⟩
  rw [List.getD_eq_getElem?_getD, List.getElem?_eq_getElem (by omega)]
  rfl
set_option maxRecDepth 100000 in
set_option maxHeartbeats 2000000 in
theorem semis_out (k : Int) (w : World) (hM : Mem w) (h : k < 0 ∨ 27 ≤ k) : Calls Tryd.prog 4 #[.int .i64 k] w fun e w' => e = .returned (.bool true) ∧ Below w.heap.size w w' := by
  have g6 := fun W (hb : Below w.heap.size w W) => awake_any W (hM.below hb)
  clear hM
  go_enter Tryd.func4, Tryd.ntmps4
  go_wp2_with (go_at_call 6; refine (g6 _ ((Below.refl _ _).alloc (Nat.le_refl _) _)).mono ?_; rintro e w1 ⟨rfl, hb1⟩; have HB1 : Hid _ := hb1; clear hb1)
  all_goals first
    | (exfalso; omega)
    | (go_ret; exact ⟨rfl, ((Below.refl _ _).alloc (Nat.le_refl _) _).trans (HB1.out.mono (by simp))⟩)
theorem TokQ.ok {w : World} {s : St} {e : Ending} {w' : World} (h : TokQ w (.ok s) e w') : Below w.heap.size w w' ∧ ∃ a cap, e = .returned (.tuple #[.slice a s.toks.length cap, .agg #[.int .i64 0, .string ⟨#[]⟩, .int .i64 0]]) ∧ w'.ownsRow w.heap.size 29 4 (.slice a s.toks.length cap) s.toks.length (flT s.toks) := by
  obtain ⟨hb, a, cap, he, ho⟩ := h
  exact ⟨hb, a, cap, he, ho⟩
theorem bsL_app (x y : List UInt8) : bsL x ++ bsL y = bsL (x ++ y) := by
  apply ByteArray.ext
  simp [bsL, ByteArray.data_append]
set_option maxRecDepth 100000 in
set_option maxHeartbeats 2000000 in
theorem semis_in (k : Nat) (w : World) (hM : Mem w) (h : k < 27) : Calls Tryd.prog 4 #[.int .i64 k] w fun e w' => e = .returned (.bool true) ∧ Below w.heap.size w w' := by
  obtain ⟨x, s1, s2, hx, r1, n1, r2, n2⟩ := sm_at k h
  have HM : Hid (Mem w) := hM
  have g6 := fun W (hb : Below w.heap.size w W) => awake_any W (hM.below hb)
  have g7a := fun W (hb : Below w.heap.size w W) => tokens_q (bsL x ++ ⟨#[10, 120]⟩) W (hM.below hb)
  have g7b := fun W (hb : Below w.heap.size w W) => tokens_q (bsL x ++ ⟨#[32, 47, 47, 32, 114]⟩) W (hM.below hb)
  rw [show (bsL x ++ ⟨#[10, 120]⟩ : ByteArray) = bsL (x ++ [10, 120]) from bsL_app x [10, 120], r1] at g7a
  rw [show (bsL x ++ ⟨#[32, 47, 47, 32, 114]⟩ : ByteArray) = bsL (x ++ [32, 47, 47, 32, 114]) from bsL_app x [32, 47, 47, 32, 114], r2] at g7b
  have HX : Hid (smL[k]? = some x) := hx
  have c1 : (bsL x ++ ⟨#[10, 120]⟩ : ByteArray) = bsL (x ++ [10, 120]) := bsL_app x [10, 120]
  have c2 : (bsL x ++ ⟨#[32, 47, 47, 32, 114]⟩ : ByteArray) = bsL (x ++ [32, 47, 47, 32, 114]) := bsL_app x [32, 47, 47, 32, 114]
  generalize bsL (x ++ [10, 120]) = T1 at *
  generalize bsL (x ++ [32, 47, 47, 32, 114]) = T2 at *
  clear hM r1 r2 hx
  have z1 : ¬ (k : Int) < 0 := by omega
  have z2 : ¬ (27 : Int) ≤ (k : Int) := by omega
  have z3 : (0 : Int) ≤ (k : Int) := by omega
  have z4 : (k : Int) < 27 := by omega
  have hlit : ∀ (h : k < ([.string ⟨#[97]⟩, .string ⟨#[49]⟩, .string ⟨#[34, 115, 34]⟩, .string ⟨#[98, 114, 101, 97, 107]⟩, .string ⟨#[99, 111, 110, 116, 105, 110, 117, 101]⟩, .string ⟨#[114, 101, 116, 117, 114, 110]⟩, .string ⟨#[43, 43]⟩, .string ⟨#[45, 45]⟩, .string ⟨#[41]⟩, .string ⟨#[93]⟩, .string ⟨#[125]⟩, .string ⟨#[43]⟩, .string ⟨#[40]⟩, .string ⟨#[91]⟩, .string ⟨#[123]⟩, .string ⟨#[44]⟩, .string ⟨#[46]⟩, .string ⟨#[105, 102]⟩, .string ⟨#[102, 117, 110, 99]⟩, .string ⟨#[61]⟩, .string ⟨#[58, 61]⟩, .string ⟨#[60, 45]⟩, .string ⟨#[124, 124]⟩, .string ⟨#[103, 111]⟩, .string ⟨#[100, 101, 102, 97, 117, 108, 116]⟩, .string ⟨#[58]⟩, .string ⟨#[46, 46, 46]⟩] : List Value).length), ([.string ⟨#[97]⟩, .string ⟨#[49]⟩, .string ⟨#[34, 115, 34]⟩, .string ⟨#[98, 114, 101, 97, 107]⟩, .string ⟨#[99, 111, 110, 116, 105, 110, 117, 101]⟩, .string ⟨#[114, 101, 116, 117, 114, 110]⟩, .string ⟨#[43, 43]⟩, .string ⟨#[45, 45]⟩, .string ⟨#[41]⟩, .string ⟨#[93]⟩, .string ⟨#[125]⟩, .string ⟨#[43]⟩, .string ⟨#[40]⟩, .string ⟨#[91]⟩, .string ⟨#[123]⟩, .string ⟨#[44]⟩, .string ⟨#[46]⟩, .string ⟨#[105, 102]⟩, .string ⟨#[102, 117, 110, 99]⟩, .string ⟨#[61]⟩, .string ⟨#[58, 61]⟩, .string ⟨#[60, 45]⟩, .string ⟨#[124, 124]⟩, .string ⟨#[103, 111]⟩, .string ⟨#[100, 101, 102, 97, 117, 108, 116]⟩, .string ⟨#[58]⟩, .string ⟨#[46, 46, 46]⟩] : List Value)[k]'h = .string (bsL x) := fun h => by
    have e : ([.string ⟨#[97]⟩, .string ⟨#[49]⟩, .string ⟨#[34, 115, 34]⟩, .string ⟨#[98, 114, 101, 97, 107]⟩, .string ⟨#[99, 111, 110, 116, 105, 110, 117, 101]⟩, .string ⟨#[114, 101, 116, 117, 114, 110]⟩, .string ⟨#[43, 43]⟩, .string ⟨#[45, 45]⟩, .string ⟨#[41]⟩, .string ⟨#[93]⟩, .string ⟨#[125]⟩, .string ⟨#[43]⟩, .string ⟨#[40]⟩, .string ⟨#[91]⟩, .string ⟨#[123]⟩, .string ⟨#[44]⟩, .string ⟨#[46]⟩, .string ⟨#[105, 102]⟩, .string ⟨#[102, 117, 110, 99]⟩, .string ⟨#[61]⟩, .string ⟨#[58, 61]⟩, .string ⟨#[60, 45]⟩, .string ⟨#[124, 124]⟩, .string ⟨#[103, 111]⟩, .string ⟨#[100, 101, 102, 97, 117, 108, 116]⟩, .string ⟨#[58]⟩, .string ⟨#[46, 46, 46]⟩] : List Value) = smL.map fun x => Value.string (bsL x) := rfl
    have q : ([.string ⟨#[97]⟩, .string ⟨#[49]⟩, .string ⟨#[34, 115, 34]⟩, .string ⟨#[98, 114, 101, 97, 107]⟩, .string ⟨#[99, 111, 110, 116, 105, 110, 117, 101]⟩, .string ⟨#[114, 101, 116, 117, 114, 110]⟩, .string ⟨#[43, 43]⟩, .string ⟨#[45, 45]⟩, .string ⟨#[41]⟩, .string ⟨#[93]⟩, .string ⟨#[125]⟩, .string ⟨#[43]⟩, .string ⟨#[40]⟩, .string ⟨#[91]⟩, .string ⟨#[123]⟩, .string ⟨#[44]⟩, .string ⟨#[46]⟩, .string ⟨#[105, 102]⟩, .string ⟨#[102, 117, 110, 99]⟩, .string ⟨#[61]⟩, .string ⟨#[58, 61]⟩, .string ⟨#[60, 45]⟩, .string ⟨#[124, 124]⟩, .string ⟨#[103, 111]⟩, .string ⟨#[100, 101, 102, 97, 117, 108, 116]⟩, .string ⟨#[58]⟩, .string ⟨#[46, 46, 46]⟩] : List Value)[k]? = some (.string (bsL x)) := by rw [e, List.getElem?_map, HX.out]; rfl
    exact (List.getElem?_eq_some_iff.1 q).2
  have HB0 : Hid (∀ o, Below w.heap.size w (w.alloc o)) := fun o => (Below.refl _ _).alloc (Nat.le_refl _) o
  have hcell : (w.alloc (.cells #[.string ⟨#[97]⟩, .string ⟨#[49]⟩, .string ⟨#[34, 115, 34]⟩, .string ⟨#[98, 114, 101, 97, 107]⟩, .string ⟨#[99, 111, 110, 116, 105, 110, 117, 101]⟩, .string ⟨#[114, 101, 116, 117, 114, 110]⟩, .string ⟨#[43, 43]⟩, .string ⟨#[45, 45]⟩, .string ⟨#[41]⟩, .string ⟨#[93]⟩, .string ⟨#[125]⟩, .string ⟨#[43]⟩, .string ⟨#[40]⟩, .string ⟨#[91]⟩, .string ⟨#[123]⟩, .string ⟨#[44]⟩, .string ⟨#[46]⟩, .string ⟨#[105, 102]⟩, .string ⟨#[102, 117, 110, 99]⟩, .string ⟨#[61]⟩, .string ⟨#[58, 61]⟩, .string ⟨#[60, 45]⟩, .string ⟨#[124, 124]⟩, .string ⟨#[103, 111]⟩, .string ⟨#[100, 101, 102, 97, 117, 108, 116]⟩, .string ⟨#[58]⟩, .string ⟨#[46, 46, 46]⟩] 9)).cell? ⟨w.heap.size, k, none⟩ = some (.string (bsL x)) := (cell_of (heap_alloc_new w _) k).trans (by show smV[k]? = _; rw [smV_get]; simp [HX.out])
  have hxl : (bsL x).size ≤ 8 := by
    have q : ∀ y ∈ smL, y.length ≤ 8 := by decide
    have := q x (List.mem_of_getElem? HX.out)
    simpa [bsL, ByteArray.size] using this
  have y1 : ¬ 9223372036854775807 < (bsL x).size + 2 := by omega
  have y2 : ¬ 9223372036854775807 < (bsL x).size + 5 := by omega
  by_cases hk : k < 11
  · have z5 : (k : Int) < 11 := by omega
    rw [if_pos hk] at n1 n2
    go_enter Tryd.func4, Tryd.ntmps4
    go_wp2_with (first
      | (go_at_call 7; refine (g7a _ (HB0.out _)).mono ?_; clear g7a; intro e w1 h1; obtain ⟨hb1, a1, d1, rfl, _⟩ := h1.ok; rw [n1]; have HB1 : Hid (Below w.heap.size w w1) := (HB0.out _).trans (hb1.mono (by simp)); have hz1 : w.heap.size < w1.heap.size := (by have := hb1.size; simp at this; omega); have x1 : w1.cell? ⟨w.heap.size, k, none⟩ = some (.string (bsL x)) := (by rw [hb1.cell (by simp)]; exact hcell); clear hb1 h1)
      | (go_at_call 7; refine (g7b _ (HB1.out.alloc (by omega) _)).mono ?_; clear g7b; intro e w2 h2; obtain ⟨hb2, a2, d2, rfl, _⟩ := h2.ok; rw [n2]; have HB2 : Hid (Below w.heap.size w w2) := (HB1.out.alloc (by omega) _).trans (hb2.mono (by simp; omega)); have hz2 : w1.heap.size < w2.heap.size := (by have := hb2.size; simp at this; omega); have e0 : w2.cell? ⟨w1.heap.size, 0, none⟩ = some (.int .i64 0) := (by rw [hb2.cell (by simp)]; exact cell_of (heap_alloc_new w1 _) 0); clear hb2 h2)
      | (go_at_call 6; refine (g6 _ (HB2.out.alloc (by omega) _)).mono ?_; rintro e w3 ⟨rfl, hb3⟩; have HB3 : Hid (Below (w2.alloc (.cells #[.int .i64 0, .string ⟨#[]⟩, .int .i64 0] 25)).heap.size (w2.alloc (.cells #[.int .i64 0, .string ⟨#[]⟩, .int .i64 0] 25)) w3) := hb3; clear hb3))
    go_ret
    exact ⟨rfl, (HB2.out.alloc (by omega) _).trans (HB3.out.mono (by simp; omega))⟩
  · have z5 : ¬ (k : Int) < 11 := by omega
    rw [if_neg hk] at n1 n2
    go_enter Tryd.func4, Tryd.ntmps4
    go_wp2_with (first
      | (go_at_call 7; refine (g7a _ (HB0.out _)).mono ?_; clear g7a; intro e w1 h1; obtain ⟨hb1, a1, d1, rfl, _⟩ := h1.ok; rw [n1]; have HB1 : Hid (Below w.heap.size w w1) := (HB0.out _).trans (hb1.mono (by simp)); have hz1 : w.heap.size < w1.heap.size := (by have := hb1.size; simp at this; omega); have x1 : w1.cell? ⟨w.heap.size, k, none⟩ = some (.string (bsL x)) := (by rw [hb1.cell (by simp)]; exact hcell); clear hb1 h1)
      | (go_at_call 7; refine (g7b _ (HB1.out.alloc (by omega) _)).mono ?_; clear g7b; intro e w2 h2; obtain ⟨hb2, a2, d2, rfl, _⟩ := h2.ok; rw [n2]; have HB2 : Hid (Below w.heap.size w w2) := (HB1.out.alloc (by omega) _).trans (hb2.mono (by simp; omega)); have hz2 : w1.heap.size < w2.heap.size := (by have := hb2.size; simp at this; omega); have e0 : w2.cell? ⟨w1.heap.size, 0, none⟩ = some (.int .i64 0) := (by rw [hb2.cell (by simp)]; exact cell_of (heap_alloc_new w1 _) 0); clear hb2 h2)
      | (go_at_call 6; refine (g6 _ (HB2.out.alloc (by omega) _)).mono ?_; rintro e w3 ⟨rfl, hb3⟩; have HB3 : Hid (Below (w2.alloc (.cells #[.int .i64 0, .string ⟨#[]⟩, .int .i64 0] 25)).heap.size (w2.alloc (.cells #[.int .i64 0, .string ⟨#[]⟩, .int .i64 0] 25)) w3) := hb3; clear hb3))
    go_ret
    exact ⟨rfl, (HB2.out.alloc (by omega) _).trans (HB3.out.mono (by simp; omega))⟩
theorem semis_any (k : Int) (w : World) (hM : Mem w) : Calls Tryd.prog 4 #[.int .i64 k] w fun e w' => e = .returned (.bool true) ∧ Below w.heap.size w w' := by
  by_cases h : k < 0 ∨ 27 ≤ k
  · exact semis_out k w hM h
  · obtain ⟨n, rfl⟩ : ∃ n : Nat, k = n := ⟨k.toNat, by omega⟩
    exact semis_in n w hM (by omega)
end Go.Proofs.YtmfdfkbcommjfabDoor
