/-
  scan.Tokens, scan.Comments and awake, walked.
-/
import Derived.Test.YtmfdfkbcommjfaaDoorWalkQ
namespace Go.Proofs.YtmfdfkbcommjfaaDoor
open Go.RowKit
attribute [local go_sem ↓] Go.wp_at_zero Go.wp_at_succ
/-- the memory that the calls ask for: Go's tables of UTF-8, and MaxLen -/
structure Mem (w : World) : Prop where
  tabs : ∀ W, Below w.heap.size w W → Tabs W
  mx : Mx w
theorem Mem.below {w W : World} (h : Mem w) (hb : Below w.heap.size w W) : Mem W :=
  ⟨fun W' h' => h.tabs W' (hb.trans (h'.mono hb.size)), h.mx.below hb (mx_size h.mx)⟩
/-- what Tokens answers -/
def TokP (w : World) (r : RO) (e : Ending) (w' : World) : Prop :=
  Below w.heap.size w w' ∧ match r with
    | .ok s => ∃ tv, e = .returned (.tuple #[tv, fltV 0 0]) ∧ w'.ownsRow w.heap.size 38 4 tv s.toks.length (flT s.toks)
    | .bad c o => e = .returned (.tuple #[.slice none 0 0, fltV c o])
/-- a fault laid into a new block -/
def put1 (W : World) (A : Nat) (c d e : Value) : World := ((W.setCell ⟨A, 0, none⟩ c).setCell ⟨A, 1, none⟩ d).setCell ⟨A, 2, none⟩ e
theorem put1_far {W : World} {A k : Nat} {c d e : Value} (h : k ≠ A) : (put1 W A c d e).heap[k]? = W.heap[k]? := by
  unfold put1
  rw [Below.heap_setCell _ _ _ _ h, Below.heap_setCell _ _ _ _ h, Below.heap_setCell _ _ _ _ h]
theorem put1_cell {W : World} {A : Nat} {c d e x0 x1 x2 : Value} (h : W.heap[A]? = some (.cells #[x0, x1, x2] 25 (0, 0))) : (put1 W A c d e).heap[A]? = some (.cells #[c, d, e] 25 (0, 0)) := by
  unfold put1
  rw [heap_set (heap_set (heap_set h _) _)]
  rfl
theorem put1_below {w W : World} {A : Nat} {c d e : Value} (h : Below A w W) : Below A w (put1 W A c d e) :=
  ((h.setCell (p := ⟨A, 0, none⟩) (Nat.le_refl _) _).setCell (p := ⟨A, 1, none⟩) (Nat.le_refl _) _).setCell (p := ⟨A, 2, none⟩) (Nat.le_refl _) _
set_option maxRecDepth 100000 in
set_option maxHeartbeats 1000000 in
theorem tokens_any (S : ByteArray) (w : World) (hM : Mem w) : Calls Tryd.prog 10 #[.string S] w (TokP w (readOf S)) := by
  have h22 := fun W (h : Below w.heap.size w W) => read_any S W (hM.below h).tabs (hM.below h).mx
  have H22 : Hid (∀ W, Below w.heap.size w W → Calls Tryd.prog 22 #[.string S] W (ReadP W (readOf S))) := h22
  clear h22 hM
  have hz : (w.alloc (.cells #[.int .i64 0, .string ⟨#[]⟩, .int .i64 0] 25)).heap[w.heap.size]? = some (.cells #[.int .i64 0, .string ⟨#[]⟩, .int .i64 0] 25 (0, 0)) := heap_alloc_new w _
  have HZ : Hid ((w.alloc (.cells #[.int .i64 0, .string ⟨#[]⟩, .int .i64 0] 25)).heap[w.heap.size]? = some (.cells #[.int .i64 0, .string ⟨#[]⟩, .int .i64 0] 25 (0, 0))) := hz
  have HBZ : Hid (Below w.heap.size w (w.alloc (.cells #[.int .i64 0, .string ⟨#[]⟩, .int .i64 0] 25))) := (Below.refl _ _).alloc (Nat.le_refl _) _
  have hsz : (w.alloc (.cells #[.int .i64 0, .string ⟨#[]⟩, .int .i64 0] 25)).heap.size = w.heap.size + 1 := by simp
  clear hz
  generalize readOf S = r at *
  cases r with
  | bad c o =>
    go_enter Tryd.func10, Tryd.ntmps10
    go_wp2_with (go_at_call 22; refine (H22.out _ HBZ.out).mono ?_; rintro e w1 ⟨hb1, rfl⟩; have HB1 : Hid (Below (w.heap.size + 1) (w.alloc (.cells #[.int .i64 0, .string ⟨#[]⟩, .int .i64 0] 25)) w1) := hb1.mono (by rw [hsz]; exact Nat.le_refl _);  clear hb1; unfold fltV)
    have hA : (w1.alloc (.cells #[.int .i64 c, .string ⟨#[]⟩, .int .i64 o] 25)).heap[w.heap.size]? = some (.cells #[.int .i64 0, .string ⟨#[]⟩, .int .i64 0] 25 (0, 0)) := by
      have q : w1.heap[w.heap.size]? = some (.cells #[.int .i64 0, .string ⟨#[]⟩, .int .i64 0] 25 (0, 0)) := (HB1.out.block _ (by omega)).trans HZ.out
      rw [Below.heap_alloc _ _ _ (Array.getElem?_eq_some_iff.1 q).1]; exact q
    have hF : (w1.alloc (.cells #[.int .i64 c, .string ⟨#[]⟩, .int .i64 o] 25)).heap[w1.heap.size]? = some (.cells #[.int .i64 c, .string ⟨#[]⟩, .int .i64 o] 25 (0, 0)) := heap_alloc_new w1 _
    have hlt : w.heap.size < w1.heap.size := by have := HB1.out.size; rw [hsz] at this; omega
    have HBW : Hid (Below w.heap.size w (w1.alloc (.cells #[.int .i64 c, .string ⟨#[]⟩, .int .i64 o] 25))) := (HBZ.out.trans (HB1.out.mono (by omega))).alloc (by omega) _
    have HEX : Hid (Below w1.heap.size w1 (w1.alloc (.cells #[.int .i64 c, .string ⟨#[]⟩, .int .i64 o] 25))) := (Below.refl _ _).alloc (Nat.le_refl _) _
    generalize w1.alloc (.cells #[.int .i64 c, .string ⟨#[]⟩, .int .i64 o] 25) = W at *
    generalize hFF : w1.heap.size = F at *
    have a0 : W.cell? ⟨w.heap.size, 0, none⟩ = some (.int .i64 0) := by simp [World.cell?, hA]
    have a1 : W.cell? ⟨w.heap.size, 1, none⟩ = some (.string ⟨#[]⟩) := by simp [World.cell?, hA]
    have a2 : W.cell? ⟨w.heap.size, 2, none⟩ = some (.int .i64 0) := by simp [World.cell?, hA]
    have b0 : W.frozen? ⟨w.heap.size, 0, none⟩ = false := by simp [World.frozen?, hA]
    have b1 : W.frozen? ⟨w.heap.size, 1, none⟩ = false := by simp [World.frozen?, hA]
    have b2 : W.frozen? ⟨w.heap.size, 2, none⟩ = false := by simp [World.frozen?, hA]
    have g0 : W.cell? ⟨F, 0, none⟩ = some (.int .i64 c) := by simp [World.cell?, hF]
    have g1 : W.cell? ⟨F, 1, none⟩ = some (.string ⟨#[]⟩) := by simp [World.cell?, hF]
    have g2 : W.cell? ⟨F, 2, none⟩ = some (.int .i64 o) := by simp [World.cell?, hF]
    have n1 : F ≠ w.heap.size := by omega
    have n2 : w.heap.size ≠ F := by omega
    have HA : Hid (W.heap[w.heap.size]? = some (.cells #[.int .i64 0, .string ⟨#[]⟩, .int .i64 0] 25 (0, 0))) := hA
    clear hA hF
    go_region
    all_goals
      go_wp2_with fail
      have hc := put1_cell (c := .int .i64 c) (d := .string ⟨#[]⟩) (e := .int .i64 o) HA.out
      have d0 : (put1 W w.heap.size (.int .i64 c) (.string ⟨#[]⟩) (.int .i64 o)).cell? ⟨w.heap.size, 0, none⟩ = some (.int .i64 c) := by simp [World.cell?, hc]
      have d1 : (put1 W w.heap.size (.int .i64 c) (.string ⟨#[]⟩) (.int .i64 o)).cell? ⟨w.heap.size, 1, none⟩ = some (.string ⟨#[]⟩) := by simp [World.cell?, hc]
      have d2 : (put1 W w.heap.size (.int .i64 c) (.string ⟨#[]⟩) (.int .i64 o)).cell? ⟨w.heap.size, 2, none⟩ = some (.int .i64 o) := by simp [World.cell?, hc]
      refine bodyPost_ret (v := .tuple #[.slice none 0 0, fltV c o]) (w := (put1 W w.heap.size (.int .i64 c) (.string ⟨#[]⟩) (.int .i64 o)).drew) (by simp [results, Tryd.results10, go_sem, d0, d1, d2, fltV]) rfl ⟨(put1_below HBW.out).drew, rfl⟩
  | ok s =>
    go_enter Tryd.func10, Tryd.ntmps10
    go_wp2_with (go_at_call 22; refine (H22.out _ HBZ.out).mono ?_; rintro e w1 ⟨hb1, tv, rv, rfl, ht, _⟩; obtain ⟨ta, tc, rfl⟩ := own_slice ht; have HT : Hid (w1.ownsRow (w.alloc (.cells #[.int .i64 0, .string ⟨#[]⟩, .int .i64 0] 25)).heap.size 38 4 (.slice ta s.toks.length tc) s.toks.length (flT s.toks)) := ht; have HB1 : Hid (Below (w.heap.size + 1) (w.alloc (.cells #[.int .i64 0, .string ⟨#[]⟩, .int .i64 0] 25)) w1) := hb1.mono (by rw [hsz]; exact Nat.le_refl _); clear ht; clear hb1; unfold fltV)
    have hA : (w1.alloc (.cells #[.int .i64 0, .string ⟨#[]⟩, .int .i64 0] 25)).heap[w.heap.size]? = some (.cells #[.int .i64 0, .string ⟨#[]⟩, .int .i64 0] 25 (0, 0)) := by
      have q : w1.heap[w.heap.size]? = some (.cells #[.int .i64 0, .string ⟨#[]⟩, .int .i64 0] 25 (0, 0)) := (HB1.out.block _ (by omega)).trans HZ.out
      rw [Below.heap_alloc _ _ _ (Array.getElem?_eq_some_iff.1 q).1]; exact q
    have hF : (w1.alloc (.cells #[.int .i64 0, .string ⟨#[]⟩, .int .i64 0] 25)).heap[w1.heap.size]? = some (.cells #[.int .i64 0, .string ⟨#[]⟩, .int .i64 0] 25 (0, 0)) := heap_alloc_new w1 _
    have hlt : w.heap.size < w1.heap.size := by have := HB1.out.size; rw [hsz] at this; omega
    have HBW : Hid (Below w.heap.size w (w1.alloc (.cells #[.int .i64 0, .string ⟨#[]⟩, .int .i64 0] 25))) := (HBZ.out.trans (HB1.out.mono (by omega))).alloc (by omega) _
    have HEX : Hid (Below w1.heap.size w1 (w1.alloc (.cells #[.int .i64 0, .string ⟨#[]⟩, .int .i64 0] 25))) := (Below.refl _ _).alloc (Nat.le_refl _) _
    generalize w1.alloc (.cells #[.int .i64 0, .string ⟨#[]⟩, .int .i64 0] 25) = W at *
    generalize hFF : w1.heap.size = F at *
    have a0 : W.cell? ⟨w.heap.size, 0, none⟩ = some (.int .i64 0) := by simp [World.cell?, hA]
    have a1 : W.cell? ⟨w.heap.size, 1, none⟩ = some (.string ⟨#[]⟩) := by simp [World.cell?, hA]
    have a2 : W.cell? ⟨w.heap.size, 2, none⟩ = some (.int .i64 0) := by simp [World.cell?, hA]
    have b0 : W.frozen? ⟨w.heap.size, 0, none⟩ = false := by simp [World.frozen?, hA]
    have b1 : W.frozen? ⟨w.heap.size, 1, none⟩ = false := by simp [World.frozen?, hA]
    have b2 : W.frozen? ⟨w.heap.size, 2, none⟩ = false := by simp [World.frozen?, hA]
    have g0 : W.cell? ⟨F, 0, none⟩ = some (.int .i64 0) := by simp [World.cell?, hF]
    have g1 : W.cell? ⟨F, 1, none⟩ = some (.string ⟨#[]⟩) := by simp [World.cell?, hF]
    have g2 : W.cell? ⟨F, 2, none⟩ = some (.int .i64 0) := by simp [World.cell?, hF]
    have n1 : F ≠ w.heap.size := by omega
    have n2 : w.heap.size ≠ F := by omega
    have HA : Hid (W.heap[w.heap.size]? = some (.cells #[.int .i64 0, .string ⟨#[]⟩, .int .i64 0] 25 (0, 0))) := hA
    clear hA hF
    go_region
    all_goals
      go_wp2_with fail
      have hc := put1_cell (c := .int .i64 0) (d := .string ⟨#[]⟩) (e := .int .i64 0) HA.out
      have d0 : (put1 W w.heap.size (.int .i64 0) (.string ⟨#[]⟩) (.int .i64 0)).cell? ⟨w.heap.size, 0, none⟩ = some (.int .i64 0) := by simp [World.cell?, hc]
      have d1 : (put1 W w.heap.size (.int .i64 0) (.string ⟨#[]⟩) (.int .i64 0)).cell? ⟨w.heap.size, 1, none⟩ = some (.string ⟨#[]⟩) := by simp [World.cell?, hc]
      have d2 : (put1 W w.heap.size (.int .i64 0) (.string ⟨#[]⟩) (.int .i64 0)).cell? ⟨w.heap.size, 2, none⟩ = some (.int .i64 0) := by simp [World.cell?, hc]
      refine bodyPost_ret (v := .tuple #[.slice ta s.toks.length tc, fltV 0 0]) (w := (put1 W w.heap.size (.int .i64 0) (.string ⟨#[]⟩) (.int .i64 0)).drew) (by simp [results, Tryd.results10, go_sem, d0, d1, d2, fltV]) rfl ⟨(put1_below HBW.out).drew, _, rfl, (own_base (own_far HT.out (fun k hk => (put1_far (A := w.heap.size) (by have := (own_blk HT.out hk).1; rw [hsz] at this; omega)).trans (HEX.out.block k (by have := (HT.out.lt k hk).2; omega)))) (by rw [hsz]; omega) : (put1 W w.heap.size (.int .i64 0) (.string ⟨#[]⟩) (.int .i64 0)).ownsRow w.heap.size 38 4 (.slice ta s.toks.length tc) s.toks.length (flT s.toks))⟩
end Go.Proofs.YtmfdfkbcommjfaaDoor
/-
  scan.Comments, walked.
-/
namespace Go.Proofs.YtmfdfkbcommjfaaDoor
open Go.RowKit
attribute [local go_sem ↓] Go.wp_at_zero Go.wp_at_succ
/-- what Comments answers -/
def RemP (w : World) (r : RO) (e : Ending) (w' : World) : Prop :=
  Below w.heap.size w w' ∧ match r with
    | .ok s => ∃ rv, e = .returned rv ∧ w'.ownsRow w.heap.size 33 2 rv s.rems.length (flS s.rems)
    | .bad _ _ => e = .returned (.slice none 0 0)
set_option maxRecDepth 100000 in
set_option maxHeartbeats 1000000 in
theorem comments_any (S : ByteArray) (w : World) (hM : Mem w) : Calls Tryd.prog 17 #[.string S] w (RemP w (readOf S)) := by
  have H22 : Hid (Calls Tryd.prog 22 #[.string S] w (ReadP w (readOf S))) := read_any S w hM.tabs hM.mx
  clear hM
  generalize readOf S = r at *
  cases r with
  | bad c o =>
    go_enter Tryd.func17, Tryd.ntmps17
    go_wp2_with (go_at_call 22; refine H22.out.mono ?_; rintro e w1 ⟨hb1, rfl⟩; unfold fltV)
    go_ret
    exact ⟨hb1.alloc hb1.size _, rfl⟩
  | ok s =>
    go_enter Tryd.func17, Tryd.ntmps17
    go_wp2_with (go_at_call 22; refine H22.out.mono ?_; rintro e w1 ⟨hb1, tv, rv, rfl, _, hr⟩; unfold fltV)
    go_ret
    exact ⟨hb1.alloc hb1.size _, rv, rfl, hr.alloc _⟩
end Go.Proofs.YtmfdfkbcommjfaaDoor
/-
  scan.Ident, walked.
-/
namespace Go.Proofs.YtmfdfkbcommjfaaDoor
open Go.RowKit
attribute [local go_sem ↓] Go.wp_at_zero Go.wp_at_succ
/-- an identifier -/
def idn (S : ByteArray) : Bool := decide (S.size ≤ 60) && !word S.toList && (if h : 0 < S.size then ltr (S[0]'h) else false) && decide (run lod S.data.toList = S.size)
theorem nil_of (S : ByteArray) (h : S.size = 0) : S.toList = [] := by
  rw [Lib.toList_data]; exact List.eq_nil_of_length_eq_zero (by rw [bal]; exact h)
theorem ne_nil_of (S : ByteArray) (h : 0 < S.size) : (S.toList == []) = false := by
  rw [Bool.eq_false_iff]; intro e
  have e := eq_of_beq e
  rw [Lib.toList_data] at e
  have : S.data.toList.length = 0 := by rw [e]; rfl
  rw [bal] at this; omega
set_option maxRecDepth 100000 in
set_option maxHeartbeats 400000 in
theorem ident_empty (S : ByteArray) (w : World) (h0 : S.size = 0) : Calls Tryd.prog 15 #[.string S] w fun e w' => e = .returned (.bool false) ∧ Below w.heap.size w w' := by
  have k0 : (S.toList == []) = true := by rw [nil_of S h0]; rfl
  clear h0
  go_enter Tryd.func15, Tryd.ntmps15
  go_wp2_with fail
  go_ret
  exact ⟨rfl, Below.refl _ _⟩
set_option maxRecDepth 100000 in
set_option maxHeartbeats 400000 in
theorem ident_great (S : ByteArray) (w : World) (h0 : 0 < S.size) (h1 : 60 < S.size) : Calls Tryd.prog 15 #[.string S] w fun e w' => e = .returned (.bool false) ∧ Below w.heap.size w w' := by
  have k0 := ne_nil_of S h0
  have k1 : (60 : Int) < (S.size : Int) := by omega
  clear h0 h1
  go_enter Tryd.func15, Tryd.ntmps15
  go_wp2_with fail
  go_ret
  exact ⟨rfl, Below.refl _ _⟩
set_option maxRecDepth 100000 in
set_option maxHeartbeats 400000 in
theorem ident_word (S : ByteArray) (w : World) (h0 : 0 < S.size) (h1 : S.size ≤ 60) (hw : word S.toList = true) : Calls Tryd.prog 15 #[.string S] w fun e w' => e = .returned (.bool false) ∧ Below w.heap.size w w' := by
  have k0 := ne_nil_of S h0
  have k1 : ¬ (60 : Int) < (S.size : Int) := by omega
  have h13 := word_any S
  rw [hw] at h13
  clear h0 h1 hw
  go_enter Tryd.func15, Tryd.ntmps15
  go_wp2_with (go_at_call 13; refine (h13 _).mono ?_; rintro e w1 ⟨rfl, hw1⟩; obtain rfl := hw1.symm)
  go_ret
  exact ⟨rfl, Below.refl _ _⟩
set_option maxRecDepth 100000 in
set_option maxHeartbeats 400000 in
theorem ident_head (S : ByteArray) (w : World) (h0 : 0 < S.size) (h1 : S.size ≤ 60) (hw : word S.toList = false) (hl : ltr (S[0]'h0) = false) : Calls Tryd.prog 15 #[.string S] w fun e w' => e = .returned (.bool false) ∧ Below w.heap.size w w' := by
  have k0 := ne_nil_of S h0
  have k1 : ¬ (60 : Int) < (S.size : Int) := by omega
  have k2 : (0 : Int) < (S.size : Int) := by omega
  have h13 := word_any S
  rw [hw] at h13
  have h24 := letter_any (wrap32 ((S[0]'h0).toNat : Int))
  rw [show ltrZ (wrap32 ((S[0]'h0).toNat : Int)) = ltr (S[0]'h0) by rw [w32, ltrZ_nat], hl] at h24
  clear h1 hw hl
  go_enter Tryd.func15, Tryd.ntmps15
  go_wp2_with (first | (go_at_call 13; refine (h13 _).mono ?_; rintro e w1 ⟨rfl, hw1⟩; obtain rfl := hw1.symm) | (go_at_call 24; refine (h24 _).mono ?_; rintro e w1 ⟨rfl, hw1⟩; obtain rfl := hw1.symm))
  go_ret
  exact ⟨rfl, Below.refl _ _⟩
set_option maxRecDepth 100000 in
set_option maxHeartbeats 400000 in
theorem ident_rest (S : ByteArray) (w : World) (h0 : 0 < S.size) (h1 : S.size ≤ 60) (hw : word S.toList = false) (hl : ltr (S[0]'h0) = true) : Calls Tryd.prog 15 #[.string S] w fun e w' => e = .returned (.bool (decide (run lod S.data.toList = S.size))) ∧ Below w.heap.size w w' := by
  have k0 := ne_nil_of S h0
  have k1 : ¬ (60 : Int) < (S.size : Int) := by omega
  have k2 : (0 : Int) < (S.size : Int) := by omega
  have h13 := word_any S
  rw [hw] at h13
  have h24 := letter_any (wrap32 ((S[0]'h0).toNat : Int))
  rw [show ltrZ (wrap32 ((S[0]'h0).toNat : Int)) = ltr (S[0]'h0) by rw [w32, ltrZ_nat], hl] at h24
  have h25 := fun w => runLod_any S w (by omega)
  generalize run lod S.data.toList = n at *
  have HE : Hid ((((n : Nat) : Int) == ((S.size : Nat) : Int)) = decide (n = S.size)) := by
    show _ = _
    by_cases q : n = S.size
    · rw [decide_eq_true q]; exact nat_beq q
    · rw [decide_eq_false q]; exact nat_bne q
  clear h1 hw hl
  go_enter Tryd.func15, Tryd.ntmps15
  go_wp2_with (first | (go_at_call 13; refine (h13 _).mono ?_; rintro e w1 ⟨rfl, hw1⟩; obtain rfl := hw1.symm) | (go_at_call 24; refine (h24 _).mono ?_; rintro e w1 ⟨rfl, hw1⟩; obtain rfl := hw1.symm) | (go_at_call 25; refine (h25 _).mono ?_; rintro e w2 ⟨rfl, hb2⟩))
  all_goals
    go_ret
    exact ⟨ret_bool (by first | exact HE.out | (rw [← HE.out]; simp_all)), hb2⟩
theorem ident_any (S : ByteArray) (w : World) : Calls Tryd.prog 15 #[.string S] w fun e w' => e = .returned (.bool (idn S)) ∧ Below w.heap.size w w' := by
  unfold idn
  by_cases h0 : 0 < S.size
  · rw [dif_pos h0]
    by_cases h1 : S.size ≤ 60
    · rw [decide_eq_true h1, Bool.true_and]
      cases hw : word S.toList with
      | true => exact ident_word S w h0 h1 hw
      | false =>
        cases hl : ltr (S[0]'h0) with
        | false => exact ident_head S w h0 h1 hw hl
        | true => exact ident_rest S w h0 h1 hw hl
    · rw [decide_eq_false h1]; exact ident_great S w h0 (by omega)
  · rw [dif_neg h0, Bool.and_false, Bool.false_and]; exact ident_empty S w (by omega)
end Go.Proofs.YtmfdfkbcommjfaaDoor
