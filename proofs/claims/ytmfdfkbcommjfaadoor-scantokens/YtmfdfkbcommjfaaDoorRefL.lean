/-
  Scan, Tokens and Comments of the document (recastref3), walked at every source.
-/
import Derived.Test.YtmfdfkbcommjfaaDoorRefK
import Derived.Test.YtmfdfkbcommjfaaDoorSaC
namespace Go.Proofs.YtmfdfkbcommjfaaDoor
open Go.RowKit
attribute [local go_sem ↓] Go.wp_at_zero Go.wp_at_succ
set_option maxRecDepth 100000 in
set_option maxHeartbeats 2000000 in
theorem scan_great (S : ByteArray) (w : World) (hS : 65536 < S.size) : Calls Tryd.prog 23 #[.string S] w (ScnP w S (.bad 2 0)) := by
  have k1 : (65536 : Int) < (S.size : Int) := by omega
  go_enter Tryd.func23, Tryd.ntmps23
  go_wp2_with fail
  refine wp_loop_rounds 1 ?_
  rw [rounds_succ]
  go_wp2_with fail
  go_ret
  have hb1 : Below w.heap.size w (w.alloc (.cells #[.string S, .int .i64 0, .slice none 0 0, .slice none 0 0, .int .i64 2, .string ⟨#[]⟩, .int .i64 0] 45)) := (Below.refl _ _).alloc (Nat.le_refl _) _
  refine ⟨hb1.alloc hb1.size _, w.heap.size + 1, rfl, by omega, 0, ⟨#[]⟩, by omega, _, _, ?_, World.ownsRow_nil _ _ _ _, World.ownsRow_nil _ _ _ _⟩
  have q := heap_alloc_new (w.alloc (.cells #[.string S, .int .i64 0, .slice none 0 0, .slice none 0 0, .int .i64 2, .string ⟨#[]⟩, .int .i64 0] 45)) (.cells #[.string ⟨#[]⟩, .int .i64 0, .slice none 0 0, .slice none 0 0, .int .i64 2, .string ⟨#[]⟩, .int .i64 0] 45)
  simpa using q
set_option maxRecDepth 100000 in
set_option maxHeartbeats 2000000 in
theorem scan_inv (S : ByteArray) (w : World) (hS : S.size ≤ 65536) (hv : okT S = false) : Calls Tryd.prog 23 #[.string S] w (ScnP w S (.bad 2 0)) := by
  have k1 : decide ((65536 : Int) < (S.size : Int)) = false := decide_eq_false (by omega)
  have k1' : ¬ (65536 : Int) < (S.size : Int) := by omega
  have g19 := fun w => rvalid_any S w (by omega)
  rw [hv] at g19
  clear hv
  go_enter Tryd.func23, Tryd.ntmps23
  go_wp2_with (go_at_call 19; refine (g19 _).mono ?_; rintro e w1 ⟨rfl, hw1⟩; obtain rfl := hw1.symm)
  refine wp_loop_rounds 1 ?_
  rw [rounds_succ]
  go_wp2_with fail
  go_ret
  have hb1 : Below w.heap.size w (w.alloc (.cells #[.string S, .int .i64 0, .slice none 0 0, .slice none 0 0, .int .i64 2, .string ⟨#[]⟩, .int .i64 0] 45)) := (Below.refl _ _).alloc (Nat.le_refl _) _
  refine ⟨hb1.alloc hb1.size _, w.heap.size + 1, rfl, by omega, 0, ⟨#[]⟩, by omega, _, _, ?_, World.ownsRow_nil _ _ _ _, World.ownsRow_nil _ _ _ _⟩
  have q := heap_alloc_new (w.alloc (.cells #[.string S, .int .i64 0, .slice none 0 0, .slice none 0 0, .int .i64 2, .string ⟨#[]⟩, .int .i64 0] 45)) (.cells #[.string ⟨#[]⟩, .int .i64 0, .slice none 0 0, .slice none 0 0, .int .i64 2, .string ⟨#[]⟩, .int .i64 0] 45)
  simpa using q
theorem scan_any (S : ByteArray) (w : World) : Calls Tryd.prog 23 #[.string S] w (ScnP w S (readOf S)) := by
  rw [readOf_eq]
  by_cases hS : 65536 < S.size
  · rw [if_pos hS]; exact scan_great S w hS
  · rw [if_neg hS]
    cases hv : okT S with
    | false => rw [if_pos rfl]; exact scan_inv S w (by omega) hv
    | true => rw [if_neg (by decide)]; exact scan_ok S w (by omega) hv _ rfl
/-- what an answer says -/
def roT : RO → List Tk
  | .ok s => s.toks
  | .bad _ _ => []
def roR : RO → List (Nat × Nat)
  | .ok s => s.rems
  | .bad _ _ => []
def roC : RO → Nat
  | .ok _ => 0
  | .bad c _ => c
def roA : RO → Nat
  | .ok _ => 0
  | .bad _ a => a
/-- what Tokens answers, the code's and the document's -/
def TokQ (w : World) (r : RO) (e : Ending) (w' : World) : Prop :=
  Below w.heap.size w w' ∧ ∃ a cap, e = .returned (.tuple #[.slice a (roT r).length cap, fltV (roC r) (roA r)]) ∧ w'.ownsRow w.heap.size 38 4 (.slice a (roT r).length cap) (roT r).length (flT (roT r))
def RemQ (w : World) (r : RO) (e : Ending) (w' : World) : Prop :=
  Below w.heap.size w w' ∧ ∃ a cap, e = .returned (.slice a (roR r).length cap) ∧ w'.ownsRow w.heap.size 33 2 (.slice a (roR r).length cap) (roR r).length (flS (roR r))
theorem tokens_q (S : ByteArray) (w : World) (hM : Mem w) : Calls Tryd.prog 10 #[.string S] w (TokQ w (readOf S)) := by
  refine (tokens_any S w hM).mono ?_
  rintro e w' ⟨hb, h⟩
  refine ⟨hb, ?_⟩
  cases hr : readOf S with
  | ok s =>
    rw [hr] at h
    obtain ⟨tv, rfl, ho⟩ := h
    obtain ⟨a, cap, rfl⟩ := own_slice ho
    exact ⟨a, cap, rfl, ho⟩
  | bad c o =>
    rw [hr] at h
    exact ⟨none, 0, h, World.ownsRow_nil _ _ _ _⟩
theorem comments_q (S : ByteArray) (w : World) (hM : Mem w) : Calls Tryd.prog 17 #[.string S] w (RemQ w (readOf S)) := by
  refine (comments_any S w hM).mono ?_
  rintro e w' ⟨hb, h⟩
  refine ⟨hb, ?_⟩
  cases hr : readOf S with
  | ok s =>
    rw [hr] at h
    obtain ⟨tv, rfl, ho⟩ := h
    obtain ⟨a, cap, rfl⟩ := own_slice ho
    exact ⟨a, cap, rfl, ho⟩
  | bad c o =>
    rw [hr] at h
    exact ⟨none, 0, h, World.ownsRow_nil _ _ _ _⟩
theorem ScnP.open {w : World} {S : ByteArray} {r : RO} {e : Ending} {w' : World} (h : ScnP w S r e w') : Below w.heap.size w w' ∧ ∃ R a1 c1 a2 c2, e = .returned (.pointer (some ⟨R, 0, none⟩)) ∧ w.heap.size ≤ R ∧ w'.cell? ⟨R, 2, none⟩ = some (.slice a1 (roT r).length c1) ∧ w'.cell? ⟨R, 3, none⟩ = some (.slice a2 (roR r).length c2) ∧ w'.cell? ⟨R, 4, none⟩ = some (.int .i64 (roC r)) ∧ w'.cell? ⟨R, 5, none⟩ = some (.string ⟨#[]⟩) ∧ w'.cell? ⟨R, 6, none⟩ = some (.int .i64 (roA r)) ∧
    w'.ownsRow w.heap.size 38 4 (.slice a1 (roT r).length c1) (roT r).length (flT (roT r)) ∧ w'.ownsRow w.heap.size 33 2 (.slice a2 (roR r).length c2) (roR r).length (flS (roR r)) := by
  obtain ⟨hb, R, rfl, hR, h⟩ := h
  refine ⟨hb, R, ?_⟩
  cases r with
  | ok s =>
    obtain ⟨i, hs⟩ := h
    have c4 := hs.cell4
    have c5 := hs.cell5
    have c6 := hs.cell6
    obtain ⟨_, tv, rv, hh, ht, hr⟩ := hs
    obtain ⟨a1, d1, rfl⟩ := own_slice ht
    obtain ⟨a2, d2, rfl⟩ := own_slice hr
    exact ⟨a1, d1, a2, d2, rfl, hR, by simp [World.cell?, hh, roT], by simp [World.cell?, hh, roR], c4, c5, c6, ht, hr⟩
  | bad c a =>
    obtain ⟨i, T, hs⟩ := h
    have c4 := hs.cell4
    have c5 := hs.cell5
    have c6 := hs.cell6
    obtain ⟨_, tv, rv, hh, ht, hr⟩ := hs
    obtain ⟨a1, d1, rfl⟩ := own_slice ht
    obtain ⟨a2, d2, rfl⟩ := own_slice hr
    exact ⟨a1, d1, a2, d2, rfl, hR, by simp [World.cell?, hh, roT], by simp [World.cell?, hh, roR], c4, c5, c6, ht, hr⟩
set_option maxRecDepth 100000 in
set_option maxHeartbeats 2000000 in
theorem rcomments_any (S : ByteArray) (w : World) : Calls Tryd.prog 18 #[.string S] w (RemQ w (readOf S)) := by
  have g23 := scan_any S w
  generalize readOf S = r at *
  go_enter Tryd.func18, Tryd.ntmps18
  go_wp2_with (go_at_call 23; refine g23.mono ?_; intro e w1 h1; obtain ⟨hb, R, a1, d1, a2, d2, rfl, hRle, y2, y3, y4, y5, y6, ho1, ho2⟩ := h1.open; have HB : Hid _ := hb; have HO1 : Hid _ := ho1; have HO2 : Hid _ := ho2; clear h1 hb ho1 ho2)
  go_ret
  exact ⟨HB.out, a2, d2, rfl, HO2.out⟩
set_option maxRecDepth 100000 in
set_option maxHeartbeats 2000000 in
theorem rtokens_any (S : ByteArray) (w : World) : Calls Tryd.prog 11 #[.string S] w (TokQ w (readOf S)) := by
  have g23 := scan_any S (w.alloc (.cells #[.int .i64 0, .string ⟨#[]⟩, .int .i64 0] 25))
  generalize readOf S = r at *
  have hsz : (w.alloc (.cells #[.int .i64 0, .string ⟨#[]⟩, .int .i64 0] 25)).heap.size = w.heap.size + 1 := by simp
  have HZ : Hid ((w.alloc (.cells #[.int .i64 0, .string ⟨#[]⟩, .int .i64 0] 25)).heap[w.heap.size]? = some (.cells #[.int .i64 0, .string ⟨#[]⟩, .int .i64 0] 25 (0, 0))) := heap_alloc_new w _
  have HBZ : Hid (Below w.heap.size w (w.alloc (.cells #[.int .i64 0, .string ⟨#[]⟩, .int .i64 0] 25))) := (Below.refl _ _).alloc (Nat.le_refl _) _
  go_enter Tryd.func11, Tryd.ntmps11
  go_wp2_with (go_at_call 23; refine g23.mono ?_; intro e w1 h1; obtain ⟨hb, R, a1, d1, a2, d2, rfl, hRle, y2, y3, y4, y5, y6, ho1, ho2⟩ := h1.open; rw [hsz] at hb hRle; have HB : Hid _ := hb; have HO1 : Hid _ := ho1; clear h1 hb ho1 ho2)
  have hA : w1.heap[w.heap.size]? = some (.cells #[.int .i64 0, .string ⟨#[]⟩, .int .i64 0] 25 (0, 0)) := (HB.out.block _ (by omega)).trans HZ.out
  have HBW : Hid (Below w.heap.size w w1) := HBZ.out.trans (HB.out.mono (by omega))
  have b0 : w1.frozen? ⟨w.heap.size, 0, none⟩ = false := by simp [World.frozen?, hA]
  have b1 : w1.frozen? ⟨w.heap.size, 1, none⟩ = false := by simp [World.frozen?, hA]
  have b2 : w1.frozen? ⟨w.heap.size, 2, none⟩ = false := by simp [World.frozen?, hA]
  have x0 : w1.cell? ⟨w.heap.size, 0, none⟩ = some (.int .i64 0) := cell_of hA 0
  have x1 : w1.cell? ⟨w.heap.size, 1, none⟩ = some (.string ⟨#[]⟩) := cell_of hA 1
  have x2 : w1.cell? ⟨w.heap.size, 2, none⟩ = some (.int .i64 0) := cell_of hA 2
  have n1 : R ≠ w.heap.size := by omega
  have n2 : w.heap.size ≠ R := by omega
  have HA : Hid (w1.heap[w.heap.size]? = some (.cells #[.int .i64 0, .string ⟨#[]⟩, .int .i64 0] 25 (0, 0))) := hA
  clear hA g23
  go_region
  all_goals
    go_wp2_with fail
    have hc := put1_cell (c := .int .i64 (roC r)) (d := .string ⟨#[]⟩) (e := .int .i64 (roA r)) HA.out
    have d0 : (put1 w1 w.heap.size (.int .i64 (roC r)) (.string ⟨#[]⟩) (.int .i64 (roA r))).cell? ⟨w.heap.size, 0, none⟩ = some (.int .i64 (roC r)) := cell_of hc 0
    have d1 : (put1 w1 w.heap.size (.int .i64 (roC r)) (.string ⟨#[]⟩) (.int .i64 (roA r))).cell? ⟨w.heap.size, 1, none⟩ = some (.string ⟨#[]⟩) := cell_of hc 1
    have d2 : (put1 w1 w.heap.size (.int .i64 (roC r)) (.string ⟨#[]⟩) (.int .i64 (roA r))).cell? ⟨w.heap.size, 2, none⟩ = some (.int .i64 (roA r)) := cell_of hc 2
    have ho : (put1 w1 w.heap.size (.int .i64 (roC r)) (.string ⟨#[]⟩) (.int .i64 (roA r))).ownsRow w.heap.size 38 4 (.slice a1 (roT r).length _) (roT r).length (flT (roT r)) := own_base (own_far HO1.out (fun k hk => put1_far (A := w.heap.size) (by have := (own_blk HO1.out hk).1; omega))) (by omega)
    refine bodyPost_ret (v := .tuple #[.slice a1 (roT r).length _, fltV (roC r) (roA r)]) (w := (put1 w1 w.heap.size (.int .i64 (roC r)) (.string ⟨#[]⟩) (.int .i64 (roA r))).drew) (by simp [results, Tryd.results11, go_sem, d0, d1, d2, fltV]) rfl ⟨(put1_below HBW.out).drew, _, _, rfl, ho⟩
end Go.Proofs.YtmfdfkbcommjfaaDoor
