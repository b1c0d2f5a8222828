/-
  types.Make and types.Name, walked.
-/
import Derived.Test.YtcmnhkopmkaiaaaFrh
import Derived.Test.YtcmnhkopmkaiaaaMkk
namespace Go.Proofs.Ytcmnhkopmkaiaaa
open Go.RowKit
attribute [local go_sem ↓] Go.wp_at_zero Go.wp_at_succ
theorem heap_new2 (w : World) (o o' : Obj) : ((w.alloc o).alloc o').heap[w.heap.size + 1]? = some o' := by
  have := heap_new (w.alloc o) o'
  rwa [World.size_alloc] at this
theorem bx7_set2 {w : World} {X : Nat} {a b c d e f g v : Value} {T : TypeId} (h : w.heap[X]? = some (.cells #[a, b, c, d, e, f, g] T (0, 0))) : (w.setCell ⟨X, 2, none⟩ v).heap[X]? = some (.cells #[a, b, v, d, e, f, g] T (0, 0)) := by
  obtain ⟨hlt, hk⟩ := Array.getElem?_eq_some_iff.1 h
  show (w.heap.modify X _)[X]? = _
  rw [Array.getElem?_eq_getElem (by rw [Array.size_modify]; exact hlt), Array.getElem_modify_self, hk]
  rfl
theorem fit_mk {k : Int} {ks : List Ty} (h : ∀ x ∈ ks, Fit x) : Fit (mkT k ks) := .mk _ (by simp [mkT, Ty.names]) (by simp [mkT, Ty.marks]) (by simpa [mkT, Ty.kids] using h)
theorem cnt_mk (k : Int) (ks : List Ty) : (mkT k ks).cnt = cntL ks + 1 := by simp [mkT, Ty.cnt]
set_option maxRecDepth 100000 in
set_option maxHeartbeats 4000000 in
theorem make13 {B : BQ} {w : World} {a : Option Addr} {n c : Nat} {ks : List Ty} (h : SlT B w (.slice a n c) ks) (hf : ∀ x ∈ ks, Fit x) (hc : cntL ks + 1 ≤ 1000000) : Calls Try.prog 12 #[.int .i64 13, .slice a n c] w (TyO w (mkT 13 ks)) := by
  obtain ⟨a0, c0, e0, _⟩ := h.open
  have hnk : n = ks.length := by simp at e0; exact e0.2.1
  clear e0
  have hmk : mkT 13 ks = .mk 13 ⟨#[]⟩ (n : Int) false [] [] ks := by rw [hnk]; rfl
  rw [hmk]
  have hkx : Kx (· = w.heap.size + 1) w ((w.alloc (.cells #[.int .i64 0, .string ⟨#[]⟩, .int .i64 0, .bool false, .slice none 0 0, .slice none 0 0, .slice none 0 0] 26)).alloc (.cells #[.int .i64 13, .string ⟨#[]⟩, .int .i64 (n : Int), .bool false, .slice none 0 0, .slice none 0 0, .slice a n c] 26)) := Kx.of_whole (bthen (below_alloc _ _) (below_alloc _ _))
  have hb2 : Below w.heap.size w ((w.alloc (.cells #[.int .i64 0, .string ⟨#[]⟩, .int .i64 0, .bool false, .slice none 0 0, .slice none 0 0, .slice none 0 0] 26)).alloc (.cells #[.int .i64 13, .string ⟨#[]⟩, .int .i64 (n : Int), .bool false, .slice none 0 0, .slice none 0 0, .slice a n c] 26)) := hkx.below (Nat.le_refl _) (fun b hb e => by omega)
  have hR : ((w.alloc (.cells #[.int .i64 0, .string ⟨#[]⟩, .int .i64 0, .bool false, .slice none 0 0, .slice none 0 0, .slice none 0 0] 26)).alloc (.cells #[.int .i64 13, .string ⟨#[]⟩, .int .i64 (n : Int), .bool false, .slice none 0 0, .slice none 0 0, .slice a n c] 26)).heap[w.heap.size]? = some (.cells #[.int .i64 0, .string ⟨#[]⟩, .int .i64 0, .bool false, .slice none 0 0, .slice none 0 0, .slice none 0 0] 26 (0, 0)) := blk_kept (below_alloc _ _) (heap_new _ _)
  have hT : ((w.alloc (.cells #[.int .i64 0, .string ⟨#[]⟩, .int .i64 0, .bool false, .slice none 0 0, .slice none 0 0, .slice none 0 0] 26)).alloc (.cells #[.int .i64 13, .string ⟨#[]⟩, .int .i64 (n : Int), .bool false, .slice none 0 0, .slice none 0 0, .slice a n c] 26)).heap[w.heap.size + 1]? = some (.cells #[.int .i64 13, .string ⟨#[]⟩, .int .i64 (n : Int), .bool false, .slice none 0 0, .slice none 0 0, .slice a n c] 26 (0, 0)) := heap_new2 _ _ _
  have hz : ((w.alloc (.cells #[.int .i64 0, .string ⟨#[]⟩, .int .i64 0, .bool false, .slice none 0 0, .slice none 0 0, .slice none 0 0] 26)).alloc (.cells #[.int .i64 13, .string ⟨#[]⟩, .int .i64 (n : Int), .bool false, .slice none 0 0, .slice none 0 0, .slice a n c] 26)).heap.size = w.heap.size + 2 := by simp
  have hpr : Prt B ((w.alloc (.cells #[.int .i64 0, .string ⟨#[]⟩, .int .i64 0, .bool false, .slice none 0 0, .slice none 0 0, .slice none 0 0] 26)).alloc (.cells #[.int .i64 13, .string ⟨#[]⟩, .int .i64 (n : Int), .bool false, .slice none 0 0, .slice none 0 0, .slice a n c] 26)) (.mk 13 ⟨#[]⟩ (n : Int) false [] [] ks) (.slice none 0 0) (.slice none 0 0) (.slice a n c) := ⟨.inl ⟨none, 0, rfl, rfl⟩, .inl ⟨none, 0, rfl, rfl⟩, h.kept hb2⟩
  have hfr := fresh_own hpr (by rw [← hmk]; exact fit_mk hf) (by rw [← hmk, cnt_mk]; exact hc)
  have HB2 : Hid (Below w.heap.size w ((w.alloc (.cells #[.int .i64 0, .string ⟨#[]⟩, .int .i64 0, .bool false, .slice none 0 0, .slice none 0 0, .slice none 0 0] 26)).alloc (.cells #[.int .i64 13, .string ⟨#[]⟩, .int .i64 (n : Int), .bool false, .slice none 0 0, .slice none 0 0, .slice a n c] 26))) := hb2
  have HR : Hid (((w.alloc (.cells #[.int .i64 0, .string ⟨#[]⟩, .int .i64 0, .bool false, .slice none 0 0, .slice none 0 0, .slice none 0 0] 26)).alloc (.cells #[.int .i64 13, .string ⟨#[]⟩, .int .i64 (n : Int), .bool false, .slice none 0 0, .slice none 0 0, .slice a n c] 26)).heap[w.heap.size]? = some (.cells #[.int .i64 0, .string ⟨#[]⟩, .int .i64 0, .bool false, .slice none 0 0, .slice none 0 0, .slice none 0 0] 26 (0, 0))) := hR
  have HZ : Hid (((w.alloc (.cells #[.int .i64 0, .string ⟨#[]⟩, .int .i64 0, .bool false, .slice none 0 0, .slice none 0 0, .slice none 0 0] 26)).alloc (.cells #[.int .i64 13, .string ⟨#[]⟩, .int .i64 (n : Int), .bool false, .slice none 0 0, .slice none 0 0, .slice a n c] 26)).heap.size = w.heap.size + 2) := hz
  unfold agT at hfr
  simp only [Ty.kind, Ty.name, Ty.n, Ty.flag] at hfr
  have kk : ((13 : Int) == 13) = true := by simp
  clear h hkx hb2 hR hT hz hpr hmk hnk
  go_enter Try.func12, Try.ntmps12
  go_wp2_with (go_at_call 21; refine hfr.mono ?_; intro e w4 hq; obtain ⟨un, um, uk, rfl, hpr, hko, hkk⟩ := hq.ex; obtain ⟨bn, en, bm, em, bk, ek, rfl, rfl, rfl⟩ := hpr.form; have hR4 := blk_kept hq.bl HR.out; obtain ⟨z0, z1, z2, z3, z4, z5, z6⟩ := bx7 hR4; obtain ⟨f0, f1, f2, f3, f4, f5, f6⟩ := bx7f hR4; have HKO : Hid _ := hko; have HKK : Hid (KidsO ((w.alloc (.cells #[.int .i64 0, .string ⟨#[]⟩, .int .i64 0, .bool false, .slice none 0 0, .slice none 0 0, .slice none 0 0] 26)).alloc (.cells #[.int .i64 13, .string ⟨#[]⟩, .int .i64 (n : Int), .bool false, .slice none 0 0, .slice none 0 0, .slice a n c] 26)).heap.size ks _ w4) := hkk; have HPR : Hid _ := hpr; have HR4 : Hid _ := hR4; have HQB : Hid _ := hq.bl; unfold agT; simp only [Ty.kind, Ty.name, Ty.n, Ty.flag, Ty.names, Ty.marks, Ty.kids]; clear hq hpr hko hkk hR4 hfr)
  have hk7 := kx_set7 (w := w4) (g := w.heap.size) (a := .int .i64 13) (b := .string ⟨#[]⟩) (c := .int .i64 (n : Int)) (d := .bool false) (x := .slice bn 0 en) (y := .slice bm 0 em) (z := .slice bk ks.length ek)
  have hb4 : Below w.heap.size w w4 := bthen HB2.out HQB.out
  have hzz := HZ.out
  refine bodyPost_ret (v := .agg #[.int .i64 13, .string ⟨#[]⟩, .int .i64 (n : Int), .bool false, .slice bn 0 en, .slice bm 0 em, .slice bk ks.length ek]) (results_cell rfl rfl (resT (bx7_set HR4.out))) rfl ?_
  exact ⟨below_kx1 hb4 hk7 (Nat.le_refl _), _, _, _, rfl, HPR.out.to hk7 (fun b _ hb => by show w.heap.size ≤ b; omega) (fun b _ hb e => by omega), HKO.out.set7, HKK.out.kx HPR.out.ks hk7 (by omega) (by omega)⟩
set_option maxRecDepth 100000 in
set_option maxHeartbeats 4000000 in
theorem makeX {B : BQ} {w : World} (k : Int) {a : Option Addr} {n c : Nat} {ks : List Ty} (h : SlT B w (.slice a n c) ks) (hf : ∀ x ∈ ks, Fit x) (hc : cntL ks + 1 ≤ 1000000) (hk : k ≠ 13) : Calls Try.prog 12 #[.int .i64 k, .slice a n c] w (TyO w (mkT k ks)) := by
  obtain ⟨a0, c0, e0, _⟩ := h.open
  have hnk : n = ks.length := by simp at e0; exact e0.2.1
  clear e0
  have hmk : mkT k ks = .mk k ⟨#[]⟩ 0 false [] [] ks := by simp [mkT, hk]
  rw [hmk]
  have hkx : Kx (· = w.heap.size + 1) w ((w.alloc (.cells #[.int .i64 0, .string ⟨#[]⟩, .int .i64 0, .bool false, .slice none 0 0, .slice none 0 0, .slice none 0 0] 26)).alloc (.cells #[.int .i64 k, .string ⟨#[]⟩, .int .i64 0, .bool false, .slice none 0 0, .slice none 0 0, .slice a n c] 26)) := Kx.of_whole (bthen (below_alloc _ _) (below_alloc _ _))
  have hb2 : Below w.heap.size w ((w.alloc (.cells #[.int .i64 0, .string ⟨#[]⟩, .int .i64 0, .bool false, .slice none 0 0, .slice none 0 0, .slice none 0 0] 26)).alloc (.cells #[.int .i64 k, .string ⟨#[]⟩, .int .i64 0, .bool false, .slice none 0 0, .slice none 0 0, .slice a n c] 26)) := hkx.below (Nat.le_refl _) (fun b hb e => by omega)
  have hR : ((w.alloc (.cells #[.int .i64 0, .string ⟨#[]⟩, .int .i64 0, .bool false, .slice none 0 0, .slice none 0 0, .slice none 0 0] 26)).alloc (.cells #[.int .i64 k, .string ⟨#[]⟩, .int .i64 0, .bool false, .slice none 0 0, .slice none 0 0, .slice a n c] 26)).heap[w.heap.size]? = some (.cells #[.int .i64 0, .string ⟨#[]⟩, .int .i64 0, .bool false, .slice none 0 0, .slice none 0 0, .slice none 0 0] 26 (0, 0)) := blk_kept (below_alloc _ _) (heap_new _ _)
  have hT : ((w.alloc (.cells #[.int .i64 0, .string ⟨#[]⟩, .int .i64 0, .bool false, .slice none 0 0, .slice none 0 0, .slice none 0 0] 26)).alloc (.cells #[.int .i64 k, .string ⟨#[]⟩, .int .i64 0, .bool false, .slice none 0 0, .slice none 0 0, .slice a n c] 26)).heap[w.heap.size + 1]? = some (.cells #[.int .i64 k, .string ⟨#[]⟩, .int .i64 0, .bool false, .slice none 0 0, .slice none 0 0, .slice a n c] 26 (0, 0)) := heap_new2 _ _ _
  have hz : ((w.alloc (.cells #[.int .i64 0, .string ⟨#[]⟩, .int .i64 0, .bool false, .slice none 0 0, .slice none 0 0, .slice none 0 0] 26)).alloc (.cells #[.int .i64 k, .string ⟨#[]⟩, .int .i64 0, .bool false, .slice none 0 0, .slice none 0 0, .slice a n c] 26)).heap.size = w.heap.size + 2 := by simp
  have hpr : Prt B ((w.alloc (.cells #[.int .i64 0, .string ⟨#[]⟩, .int .i64 0, .bool false, .slice none 0 0, .slice none 0 0, .slice none 0 0] 26)).alloc (.cells #[.int .i64 k, .string ⟨#[]⟩, .int .i64 0, .bool false, .slice none 0 0, .slice none 0 0, .slice a n c] 26)) (.mk k ⟨#[]⟩ 0 false [] [] ks) (.slice none 0 0) (.slice none 0 0) (.slice a n c) := ⟨.inl ⟨none, 0, rfl, rfl⟩, .inl ⟨none, 0, rfl, rfl⟩, h.kept hb2⟩
  have hfr := fresh_own hpr (by rw [← hmk]; exact fit_mk hf) (by rw [← hmk, cnt_mk]; exact hc)
  have HB2 : Hid (Below w.heap.size w ((w.alloc (.cells #[.int .i64 0, .string ⟨#[]⟩, .int .i64 0, .bool false, .slice none 0 0, .slice none 0 0, .slice none 0 0] 26)).alloc (.cells #[.int .i64 k, .string ⟨#[]⟩, .int .i64 0, .bool false, .slice none 0 0, .slice none 0 0, .slice a n c] 26))) := hb2
  have HR : Hid (((w.alloc (.cells #[.int .i64 0, .string ⟨#[]⟩, .int .i64 0, .bool false, .slice none 0 0, .slice none 0 0, .slice none 0 0] 26)).alloc (.cells #[.int .i64 k, .string ⟨#[]⟩, .int .i64 0, .bool false, .slice none 0 0, .slice none 0 0, .slice a n c] 26)).heap[w.heap.size]? = some (.cells #[.int .i64 0, .string ⟨#[]⟩, .int .i64 0, .bool false, .slice none 0 0, .slice none 0 0, .slice none 0 0] 26 (0, 0))) := hR
  have HZ : Hid (((w.alloc (.cells #[.int .i64 0, .string ⟨#[]⟩, .int .i64 0, .bool false, .slice none 0 0, .slice none 0 0, .slice none 0 0] 26)).alloc (.cells #[.int .i64 k, .string ⟨#[]⟩, .int .i64 0, .bool false, .slice none 0 0, .slice none 0 0, .slice a n c] 26)).heap.size = w.heap.size + 2) := hz
  unfold agT at hfr
  simp only [Ty.kind, Ty.name, Ty.n, Ty.flag] at hfr
  have kk := int_bne hk
  clear h hkx hb2 hR hT hz hpr hmk hnk
  go_enter Try.func12, Try.ntmps12
  go_wp2_with (go_at_call 21; refine hfr.mono ?_; intro e w4 hq; obtain ⟨un, um, uk, rfl, hpr, hko, hkk⟩ := hq.ex; obtain ⟨bn, en, bm, em, bk, ek, rfl, rfl, rfl⟩ := hpr.form; have hR4 := blk_kept hq.bl HR.out; obtain ⟨z0, z1, z2, z3, z4, z5, z6⟩ := bx7 hR4; obtain ⟨f0, f1, f2, f3, f4, f5, f6⟩ := bx7f hR4; have HKO : Hid _ := hko; have HKK : Hid (KidsO ((w.alloc (.cells #[.int .i64 0, .string ⟨#[]⟩, .int .i64 0, .bool false, .slice none 0 0, .slice none 0 0, .slice none 0 0] 26)).alloc (.cells #[.int .i64 k, .string ⟨#[]⟩, .int .i64 0, .bool false, .slice none 0 0, .slice none 0 0, .slice a n c] 26)).heap.size ks _ w4) := hkk; have HPR : Hid _ := hpr; have HR4 : Hid _ := hR4; have HQB : Hid _ := hq.bl; unfold agT; simp only [Ty.kind, Ty.name, Ty.n, Ty.flag, Ty.names, Ty.marks, Ty.kids]; clear hq hpr hko hkk hR4 hfr)
  have hk7 := kx_set7 (w := w4) (g := w.heap.size) (a := .int .i64 k) (b := .string ⟨#[]⟩) (c := .int .i64 0) (d := .bool false) (x := .slice bn 0 en) (y := .slice bm 0 em) (z := .slice bk ks.length ek)
  have hb4 : Below w.heap.size w w4 := bthen HB2.out HQB.out
  have hzz := HZ.out
  refine bodyPost_ret (v := .agg #[.int .i64 k, .string ⟨#[]⟩, .int .i64 0, .bool false, .slice bn 0 en, .slice bm 0 em, .slice bk ks.length ek]) (results_cell rfl rfl (resT (bx7_set HR4.out))) rfl ?_
  exact ⟨below_kx1 hb4 hk7 (Nat.le_refl _), _, _, _, rfl, HPR.out.to hk7 (fun b _ hb => by show w.heap.size ≤ b; omega) (fun b _ hb e => by omega), HKO.out.set7, HKK.out.kx HPR.out.ks hk7 (by omega) (by omega)⟩
theorem make_own {B : BQ} {w : World} (k : Int) {a : Option Addr} {n c : Nat} {ks : List Ty} (h : SlT B w (.slice a n c) ks) (hf : ∀ x ∈ ks, Fit x) (hc : cntL ks + 1 ≤ 1000000) : Calls Try.prog 12 #[.int .i64 k, .slice a n c] w (TyO w (mkT k ks)) := by
  by_cases hk : k = 13
  · subst hk; exact make13 h hf hc
  · exact makeX k h hf hc hk
theorem make_any {B : BQ} {w : World} (k : Int) {a : Option Addr} {n c : Nat} {ks : List Ty} (h : SlT B w (.slice a n c) ks) (hf : ∀ x ∈ ks, Fit x) (hc : cntL ks + 1 ≤ 1000000) : Calls Try.prog 12 #[.int .i64 k, .slice a n c] w (TyQ w (fun b => w.heap.size ≤ b) (mkT k ks)) := (make_own k h hf hc).mono fun _ _ h => h.q
end Go.Proofs.Ytcmnhkopmkaiaaa

