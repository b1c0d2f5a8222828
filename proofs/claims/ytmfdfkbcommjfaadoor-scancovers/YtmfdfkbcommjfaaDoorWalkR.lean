/-
  scan.Tokens, scan.Comments and awake, walked.
-/
import Derived.Test.YtmfdfkbcommjfaaDoorWalkQ
namespace Go.Proofs.YtmfdfkbcommjfaaDoor
open Go.RowKit
attribute [local go_sem ↓] Go.wp_at_zero Go.wp_at_succ
/-- the memory that the calls ask for: Go's tables of UTF-8, and MaxLen -/
structure Mem (w : World) : Prop where
  tabs : ∀ W, Below w.heap.size w W → Tabs W
  mx : Mx w
theorem Mem.below {w W : World} (h : Mem w) (hb : Below w.heap.size w W) : Mem W :=
  ⟨fun W' h' => h.tabs W' (hb.trans (h'.mono hb.size)), h.mx.below hb (mx_size h.mx)⟩
/-- what Tokens answers -/
def TokP (w : World) (r : RO) (e : Ending) (w' : World) : Prop :=
  Below w.heap.size w w' ∧ match r with
    | .ok s => ∃ tv, e = .returned (.tuple #[tv, fltV 0 0]) ∧ w'.ownsRow w.heap.size 38 4 tv s.toks.length (flT s.toks)
    | .bad c o => e = .returned (.tuple #[.slice none 0 0, fltV c o])
/-- a fault laid into a new block -/
def put1 (W : World) (A : Nat) (c d e : Value) : World := ((W.setCell ⟨A, 0, none⟩ c).setCell ⟨A, 1, none⟩ d).setCell ⟨A, 2, none⟩ e
theorem put1_far {W : World} {A k : Nat} {c d e : Value} (h : k ≠ A) : (put1 W A c d e).heap[k]? = W.heap[k]? := by
  unfold put1
  rw [Below.heap_setCell _ _ _ _ h, Below.heap_setCell _ _ _ _ h, Below.heap_setCell _ _ _ _ h]
theorem put1_cell {W : World} {A : Nat} {c d e x0 x1 x2 : Value} (h : W.heap[A]? = some (.cells #[x0, x1, x2] 25 (0, 0))) : (put1 W A c d e).heap[A]? = some (.cells #[c, d, e] 25 (0, 0)) := by
  unfold put1
  rw [heap_set (heap_set (heap_set h _) _)]
  rfl
theorem put1_below {w W : World} {A : Nat} {c d e : Value} (h : Below A w W) : Below A w (put1 W A c d e) :=
  ((h.setCell (p := ⟨A, 0, none⟩) (Nat.le_refl _) _).setCell (p := ⟨A, 1, none⟩) (Nat.le_refl _) _).setCell (p := ⟨A, 2, none⟩) (Nat.le_refl _) _
set_option maxRecDepth 100000 in
set_option maxHeartbeats 1000000 in
theorem tokens_any (S : ByteArray) (w : World) (hM : Mem w) : Calls Tryd.prog 10 #[.string S] w (TokP w (readOf S)) := by
  have h22 := fun W (h : Below w.heap.size w W) => read_any S W (hM.below h).tabs (hM.below h).mx
  have H22 : Hid (∀ W, Below w.heap.size w W → Calls Tryd.prog 22 #[.string S] W (ReadP W (readOf S))) := h22
  clear h22 hM
  have hz : (w.alloc (.cells #[.int .i64 0, .string ⟨#[]⟩, .int .i64 0] 25)).heap[w.heap.size]? = some (.cells #[.int .i64 0, .string ⟨#[]⟩, .int .i64 0] 25 (0, 0)) := heap_alloc_new w _
  have HZ : Hid ((w.alloc (.cells #[.int .i64 0, .string ⟨#[]⟩, .int .i64 0] 25)).heap[w.heap.size]? = some (.cells #[.int .i64 0, .string ⟨#[]⟩, .int .i64 0] 25 (0, 0))) := hz
  have HBZ : Hid (Below w.heap.size w (w.alloc (.cells #[.int .i64 0, .string ⟨#[]⟩, .int .i64 0] 25))) := (Below.refl _ _).alloc (Nat.le_refl _) _
  have hsz : (w.alloc (.cells #[.int .i64 0, .string ⟨#[]⟩, .int .i64 0] 25)).heap.size = w.heap.size + 1 := by simp
  clear hz
  generalize readOf S = r at *
  cases r with
  | bad c o =>
    go_enter Tryd.func10, Tryd.ntmps10
    go_wp2_with (go_at_call 22; refine (H22.out _ HBZ.out).mono ?_; rintro e w1 ⟨hb1, rfl⟩; have HB1 : Hid (Below (w.heap.size + 1) (w.alloc (.cells #[.int .i64 0, .string ⟨#[]⟩, .int .i64 0] 25)) w1) := hb1.mono (by rw [hsz]; exact Nat.le_refl _);  clear hb1; unfold fltV)
    have hA : (w1.alloc (.cells #[.int .i64 c, .string ⟨#[]⟩, .int .i64 o] 25)).heap[w.heap.size]? = some (.cells #[.int .i64 0, .string ⟨#[]⟩, .int .i64 0] 25 (0, 0)) := by
      have q : w1.heap[w.heap.size]? = some (.cells #[.int .i64 0, .string ⟨#[]⟩, .int .i64 0] 25 (0, 0)) := (HB1.out.block _ (by omega)).trans HZ.out
      rw [Below.heap_alloc _ _ _ (Array.getElem?_eq_some_iff.1 q).1]; exact q
    have hF : (w1.alloc (.cells #[.int .i64 c, .string ⟨#[]⟩, .int .i64 o] 25)).heap[w1.heap.size]? = some (.cells #[.int .i64 c, .string ⟨#[]⟩, .int .i64 o] 25 (0, 0)) := heap_alloc_new w1 _
    have hlt : w.heap.size < w1.heap.size := by have := HB1.out.size; rw [hsz] at this; omega
    have HBW : Hid (Below w.heap.size w (w1.alloc (.cells #[.int .i64 c, .string ⟨#[]⟩, .int .i64 o] 25))) := (HBZ.out.trans (HB1.out.mono (by omega))).alloc (by omega) _
    have HEX : Hid (Below w1.heap.size w1 (w1.alloc (.cells #[.int .i64 c, .string ⟨#[]⟩, .int .i64 o] 25))) := (Below.refl _ _).alloc (Nat.le_refl _) _
    generalize w1.alloc (.cells #[.int .i64 c, .string ⟨#[]⟩, .int .i64 o] 25) = W at *
    generalize hFF : w1.heap.size = F at *
    have a0 : W.cell? ⟨w.heap.size, 0, none⟩ = some (.int .i64 0) := by simp [World.cell?, hA]
    have a1 : W.cell? ⟨w.heap.size, 1, none⟩ = some (.string ⟨#[]⟩) := by simp [World.cell?, hA]
    have a2 : W.cell? ⟨w.heap.size, 2, none⟩ = some (.int .i64 0) := by simp [World.cell?, hA]
    have b0 : W.frozen? ⟨w.heap.size, 0, none⟩ = false := by simp [World.frozen?, hA]
    have b1 : W.frozen? ⟨w.heap.size, 1, none⟩ = false := by simp [World.frozen?, hA]
    have b2 : W.frozen? ⟨w.heap.size, 2, none⟩ = false := by simp [World.frozen?, hA]
    have g0 : W.cell? ⟨F, 0, none⟩ = some (.int .i64 c) := by simp [World.cell?, hF]
    have g1 : W.cell? ⟨F, 1, none⟩ = some (.string ⟨#[]⟩) := by simp [World.cell?, hF]
    have g2 : W.cell? ⟨F, 2, none⟩ = some (.int .i64 o) := by simp [World.cell?, hF]
    have n1 : F ≠ w.heap.size := by omega
    have n2 : w.heap.size ≠ F := by omega
    have HA : Hid (W.heap[w.heap.size]? = some (.cells #[.int .i64 0, .string ⟨#[]⟩, .int .i64 0] 25 (0, 0))) := hA
    clear hA hF
    go_region
    all_goals
      go_wp2_with fail
      have hc := put1_cell (c := .int .i64 c) (d := .string ⟨#[]⟩) (e := .int .i64 o) HA.out
      have d0 : (put1 W w.heap.size (.int .i64 c) (.string ⟨#[]⟩) (.int .i64 o)).cell? ⟨w.heap.size, 0, none⟩ = some (.int .i64 c) := by simp [World.cell?, hc]
      have d1 : (put1 W w.heap.size (.int .i64 c) (.string ⟨#[]⟩) (.int .i64 o)).cell? ⟨w.heap.size, 1, none⟩ = some (.string ⟨#[]⟩) := by simp [World.cell?, hc]
      have d2 : (put1 W w.heap.size (.int .i64 c) (.string ⟨#[]⟩) (.int .i64 o)).cell? ⟨w.heap.size, 2, none⟩ = some (.int .i64 o) := by simp [World.cell?, hc]
      refine bodyPost_ret (v := .tuple #[.slice none 0 0, fltV c o]) (w := (put1 W w.heap.size (.int .i64 c) (.string ⟨#[]⟩) (.int .i64 o)).drew) (by simp [results, Tryd.results10, go_sem, d0, d1, d2, fltV]) rfl ⟨(put1_below HBW.out).drew, rfl⟩
  | ok s =>
    go_enter Tryd.func10, Tryd.ntmps10
    go_wp2_with (go_at_call 22; refine (H22.out _ HBZ.out).mono ?_; rintro e w1 ⟨hb1, tv, rv, rfl, ht, _⟩; obtain ⟨ta, tc, rfl⟩ := own_slice ht; have HT : Hid (w1.ownsRow (w.alloc (.cells #[.int .i64 0, .string ⟨#[]⟩, .int .i64 0] 25)).heap.size 38 4 (.slice ta s.toks.length tc) s.toks.length (flT s.toks)) := ht; have HB1 : Hid (Below (w.heap.size + 1) (w.alloc (.cells #[.int .i64 0, .string ⟨#[]⟩, .int .i64 0] 25)) w1) := hb1.mono (by rw [hsz]; exact Nat.le_refl _); clear ht; clear hb1; unfold fltV)
    have hA : (w1.alloc (.cells #[.int .i64 0, .string ⟨#[]⟩, .int .i64 0] 25)).heap[w.heap.size]? = some (.cells #[.int .i64 0, .string ⟨#[]⟩, .int .i64 0] 25 (0, 0)) := by
      have q : w1.heap[w.heap.size]? = some (.cells #[.int .i64 0, .string ⟨#[]⟩, .int .i64 0] 25 (0, 0)) := (HB1.out.block _ (by omega)).trans HZ.out
      rw [Below.heap_alloc _ _ _ (Array.getElem?_eq_some_iff.1 q).1]; exact q
    have hF : (w1.alloc (.cells #[.int .i64 0, .string ⟨#[]⟩, .int .i64 0] 25)).heap[w1.heap.size]? = some (.cells #[.int .i64 0, .string ⟨#[]⟩, .int .i64 0] 25 (0, 0)) := heap_alloc_new w1 _
    have hlt : w.heap.size < w1.heap.size := by have := HB1.out.size; rw [hsz] at this; omega
    have HBW : Hid (Below w.heap.size w (w1.alloc (.cells #[.int .i64 0, .string ⟨#[]⟩, .int .i64 0] 25))) := (HBZ.out.trans (HB1.out.mono (by omega))).alloc (by omega) _
    have HEX : Hid (Below w1.heap.size w1 (w1.alloc (.cells #[.int .i64 0, .string ⟨#[]⟩, .int .i64 0] 25))) := (Below.refl _ _).alloc (Nat.le_refl _) _
    generalize w1.alloc (.cells #[.int .i64 0, .string ⟨#[]⟩, .int .i64 0] 25) = W at *
    generalize hFF : w1.heap.size = F at *
    have a0 : W.cell? ⟨w.heap.size, 0, none⟩ = some (.int .i64 0) := by simp [World.cell?, hA]
    have a1 : W.cell? ⟨w.heap.size, 1, none⟩ = some (.string ⟨#[]⟩) := by simp [World.cell?, hA]
    have a2 : W.cell? ⟨w.heap.size, 2, none⟩ = some (.int .i64 0) := by simp [World.cell?, hA]
    have b0 : W.frozen? ⟨w.heap.size, 0, none⟩ = false := by simp [World.frozen?, hA]
    have b1 : W.frozen? ⟨w.heap.size, 1, none⟩ = false := by simp [World.frozen?, hA]
    have b2 : W.frozen? ⟨w.heap.size, 2, none⟩ = false := by simp [World.frozen?, hA]
    have g0 : W.cell? ⟨F, 0, none⟩ = some (.int .i64 0) := by simp [World.cell?, hF]
    have g1 : W.cell? ⟨F, 1, none⟩ = some (.string ⟨#[]⟩) := by simp [World.cell?, hF]
    have g2 : W.cell? ⟨F, 2, none⟩ = some (.int .i64 0) := by simp [World.cell?, hF]
    have n1 : F ≠ w.heap.size := by omega
    have n2 : w.heap.size ≠ F := by omega
    have HA : Hid (W.heap[w.heap.size]? = some (.cells #[.int .i64 0, .string ⟨#[]⟩, .int .i64 0] 25 (0, 0))) := hA
    clear hA hF
    go_region
    all_goals
      go_wp2_with fail
      have hc := put1_cell (c := .int .i64 0) (d := .string ⟨#[]⟩) (e := .int .i64 0) HA.out
      have d0 : (put1 W w.heap.size (.int .i64 0) (.string ⟨#[]⟩) (.int .i64 0)).cell? ⟨w.heap.size, 0, none⟩ = some (.int .i64 0) := by simp [World.cell?, hc]
      have d1 : (put1 W w.heap.size (.int .i64 0) (.string ⟨#[]⟩) (.int .i64 0)).cell? ⟨w.heap.size, 1, none⟩ = some (.string ⟨#[]⟩) := by simp [World.cell?, hc]
      have d2 : (put1 W w.heap.size (.int .i64 0) (.string ⟨#[]⟩) (.int .i64 0)).cell? ⟨w.heap.size, 2, none⟩ = some (.int .i64 0) := by simp [World.cell?, hc]
      refine bodyPost_ret (v := .tuple #[.slice ta s.toks.length tc, fltV 0 0]) (w := (put1 W w.heap.size (.int .i64 0) (.string ⟨#[]⟩) (.int .i64 0)).drew) (by simp [results, Tryd.results10, go_sem, d0, d1, d2, fltV]) rfl ⟨(put1_below HBW.out).drew, _, rfl, (own_base (own_far HT.out (fun k hk => (put1_far (A := w.heap.size) (by have := (own_blk HT.out hk).1; rw [hsz] at this; omega)).trans (HEX.out.block k (by have := (HT.out.lt k hk).2; omega)))) (by rw [hsz]; omega) : (put1 W w.heap.size (.int .i64 0) (.string ⟨#[]⟩) (.int .i64 0)).ownsRow w.heap.size 38 4 (.slice ta s.toks.length tc) s.toks.length (flT s.toks))⟩
end Go.Proofs.YtmfdfkbcommjfaaDoor
