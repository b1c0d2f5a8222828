/-
  The document's one, walked.
-/
import Derived.Test.YtleiohccaagalaaGreatRfx
namespace Go.Proofs.YtleiohccaagalaaGreat
open Go.RowKit
attribute [local go_sem ↓] Go.wp_at_zero Go.wp_at_succ
theorem run_take_mem (p : UInt8 → Bool) (s : Bs) : ∀ x ∈ s.take (run p s), p x = true := by
  induction s with
  | nil => simp [run]
  | cons c r ih =>
    simp only [run]
    split
    · rename_i hc
      intro x hx
      rw [List.take_succ_cons] at hx
      rcases List.mem_cons.1 hx with rfl | hx
      · exact hc
      · exact ih x hx
    · intro x hx; simp at hx
theorem low_ltr {c : UInt8} (h : low c = true) : ltr c = true := by
  simp only [low, ltr, Bool.and_eq_true, decide_eq_true_eq, UInt8.le_iff_toNat_le, Bool.or_eq_true, beq_iff_eq] at *
  exact .inl (.inl h)
theorem inT_lod {c : UInt8} (h : inT c = true) : lod c = true := by
  rw [low_dgt] at h
  simp only [Bool.or_eq_true] at h
  rcases h with h | h
  · simp [lod, low_ltr h]
  · simp [lod, h]
/-- a piece is a tag by both, or by none -/
theorem pc_good {c : UInt8} {r : Bs} (h0 : sgR (c :: r) ≠ 0) : plB ((c :: r).take (sgR (c :: r))) = idB ((c :: r).take (sgR (c :: r))) := by
  simp only [sgR] at *
  split
  · rename_i h
    rcases h with rfl | rfl | rfl <;> rfl
  · split
    · rename_i h
      obtain ⟨h1, h2⟩ := h
      cases r with
      | nil => simp at h2
      | cons d r' =>
        simp at h2
        subst h2
        rcases h1 with rfl | rfl <;> rfl
    · split
      · rename_i hl
        have hm := run_take_mem inT (c :: r)
        have he : run inT (c :: r) = run inT r + 1 := by simp [run, low_inT hl]
        have ht : (c :: r).take (run inT (c :: r)) = c :: r.take (run inT r) := by rw [he, List.take_succ_cons]
        rw [ht] at hm ⊢
        have e1 : run inT (c :: r.take (run inT r)) = (c :: r.take (run inT r)).length := (run_each _ _).2 fun i hi => hm _ (List.getElem_mem _)
        have e2 : run lod (c :: r.take (run inT r)) = (c :: r.take (run inT r)).length := (run_each _ _).2 fun i hi => inT_lod (hm _ (List.getElem_mem _))
        unfold plB idB
        rw [e1, e2]
        simp [hl, low_ltr hl]
      · rename_i h1 h2 h3
        rw [if_neg h1, if_neg h2, if_neg h3] at h0
        exact absurd rfl h0
theorem pcsR_good : ∀ (n : Nat) (s : Bs) (l : List Bs), s.length ≤ n → pcsR s = some l → ∀ t ∈ l, plB t = idB t
  | _, [], l, _, h => by rw [pcsR_nil] at h; cases h; simp
  | 0, _ :: _, _, h, _ => by simp at h
  | n + 1, c :: r, l, hn, h => by
    simp at hn
    by_cases hb : c = 32
    · subst hb
      rw [pcsR_blank] at h
      exact pcsR_good n r l hn h
    · by_cases h0 : sgR (c :: r) = 0
      · rw [pcsR_none hb h0] at h; cases h
      · rw [pcsR_some hb h0] at h
        cases hp : pcsR ((c :: r).drop (sgR (c :: r))) with
        | none => rw [hp] at h; cases h
        | some m =>
          rw [hp] at h
          simp only [Option.map_some, Option.some.injEq] at h
          subst h
          intro t ht
          rcases List.mem_cons.1 ht with rfl | ht
          · exact pc_good h0
          · exact pcsR_good n _ m (by simp; omega) hp t ht
/-- where one stands: the reader's box, its own result -/
structure OSt (B : Nat) (a : Option Addr) (n c : Nat) (w : World) (i : Nat) (bad : Bool) (W : World) : Prop where
  kp : Kx (· = B) w W
  rz : Rz B a n c W i bad
  r0 : W.heap[w.heap.size]? = some (.cells #[.int .i64 0, .string ⟨#[]⟩, .slice none 0 0] 31 (0, 0))
theorem OSt.init {B n c i : Nat} {a : Option Addr} {bad : Bool} {w : World} (h : Rz B a n c w i bad) : OSt B a n c w i bad (w.alloc (.cells #[.int .i64 0, .string ⟨#[]⟩, .slice none 0 0] 31)) :=
  ⟨Kx.of_whole ((Below.refl _ w).alloc (Nat.le_refl _) _), blk_kept ((Below.refl _ w).alloc (Nat.le_refl _) _) h, heap_new _ _⟩
theorem OSt.whole {B n c i : Nat} {a : Option Addr} {bad : Bool} {w W W' : World} (h : OSt B a n c w i bad W) (hb : Below W.heap.size W W') : OSt B a n c w i bad W' :=
  ⟨h.kp.trans (Kx.of_whole hb), blk_kept hb h.rz, blk_kept hb h.r0⟩
theorem OSt.on {B n c i i' : Nat} {a : Option Addr} {bad bad' : Bool} {w W W' : World} (h : OSt B a n c w i bad W) (hB : B < w.heap.size) (hk : Kx (· = B) W W') (hz : Rz B a n c W' i' bad') : OSt B a n c w i' bad' W' :=
  ⟨h.kp.trans hk, hz, hk.keep _ _ h.r0 (by omega)⟩
theorem OSt.setI {B n c i i' : Nat} {a : Option Addr} {bad : Bool} {w W : World} (h : OSt B a n c w i bad W) (hB : B < w.heap.size) {z : Int} (hz : z = (i' : Int)) : OSt B a n c w i' bad (W.setCell ⟨B, 1, none⟩ (.int .i64 z)) := by
  subst hz
  exact h.on hB kx_set (bx3_set1 h.rz)
theorem OSt.setB {B n c i : Nat} {a : Option Addr} {bad : Bool} {w W : World} (h : OSt B a n c w i bad W) (hB : B < w.heap.size) : OSt B a n c w i true (W.setCell ⟨B, 2, none⟩ (.bool true)) :=
  h.on hB kx_set (bx3_set2 h.rz)
theorem OSt.rq {B n c i : Nat} {a : Option Addr} {bad : Bool} {w W : World} {ts : List Bs} (h : OSt B a n c w i bad W) (hr : RestV B w a n c ts) : Rq B W ts i bad := ⟨a, n, c, h.rz, hr.kept h.kp⟩
theorem OSt.lt {B n c i : Nat} {a : Option Addr} {bad : Bool} {w W : World} (h : OSt B a n c w i bad W) : w.heap.size < W.heap.size := (Array.getElem?_eq_some_iff.1 h.r0).1
/-- a box of one's own, and a rule stored into it -/
theorem OSt.box {B n c i : Nat} {a : Option Addr} {bad : Bool} {w W : World} (h : OSt B a n c w i bad W) (x y z : Value) : OSt B a n c w i bad ((((W.alloc (.cells #[.int .i64 0, .string ⟨#[]⟩, .slice none 0 0] 31)).setCell ⟨W.heap.size, 0, none⟩ x).setCell ⟨W.heap.size, 1, none⟩ y).setCell ⟨W.heap.size, 2, none⟩ z) := by
  have hb : Below W.heap.size W (W.alloc (.cells #[.int .i64 0, .string ⟨#[]⟩, .slice none 0 0] 31)) := (Below.refl _ W).alloc (Nat.le_refl _) _
  have hB : B < W.heap.size := (Array.getElem?_eq_some_iff.1 h.rz).1
  have h2 := h.whole hb
  have hl := h.lt
  exact ⟨h.kp.andThen ((Kx.of_whole (X := (· = W.heap.size)) hb).trans kx_set3) (fun _ _ e => e) (fun b hb e => by have := h.kp.size; omega), kx_set3.keep _ _ h2.rz (by omega), kx_set3.keep _ _ h2.r0 (by omega)⟩
theorem box_cells {W : World} (x y z : Value) : ((((W.alloc (.cells #[.int .i64 0, .string ⟨#[]⟩, .slice none 0 0] 31)).setCell ⟨W.heap.size, 0, none⟩ x).setCell ⟨W.heap.size, 1, none⟩ y).setCell ⟨W.heap.size, 2, none⟩ z).heap[W.heap.size]? = some (.cells #[x, y, z] 31 (0, 0)) := bx3_set3 (heap_new W _)
theorem box_size {W : World} {o : Obj} (x y z : Value) : ((((W.alloc o).setCell ⟨W.heap.size, 0, none⟩ x).setCell ⟨W.heap.size, 1, none⟩ y).setCell ⟨W.heap.size, 2, none⟩ z).heap.size = W.heap.size + 1 := by simp [World.setCell]
/-- what stands in older blocks stands on -/
theorem SlV.boxed {base : Nat} {W : World} {v : Value} {l : List Rl} (h : SlV (Bf base) W v l) {o : Obj} (x y z : Value) : SlV (Bf base) ((((W.alloc o).setCell ⟨W.heap.size, 0, none⟩ x).setCell ⟨W.heap.size, 1, none⟩ y).setCell ⟨W.heap.size, 2, none⟩ z) v l := by
  have hb : Below W.heap.size W (W.alloc o) := (Below.refl _ W).alloc (Nat.le_refl _) _
  exact h.to' ((Kx.of_whole (X := (· = W.heap.size)) hb).trans kx_set3) (fun _ _ _ _ h => h) (fun b o ob hb _ e => by have := (Array.getElem?_eq_some_iff.1 hb).1; omega)
/-- what the end of one answers -/
theorem one_end {B n c i0 : Nat} {a : Option Addr} {w : World} {ts : List Bs} {RES : Option (Pt × List Bs)} {top j : Nat} {bad : Bool} {v : Value} {we : World} {x : Rl} (h : OSt B a n c w j bad we) (hB : B < w.heap.size) (hv : SlV (Bf (w.heap.size + 1)) we v x.kids) (hj : j ≤ top) (h0 : i0 ≤ j) (h2 : x.kind = 3 ∨ x.kind = 4 → 2 ≤ x.kids.length) (h3 : x.kids.length + i0 ≤ j + 1)
    (hy : bad = false → ∃ p r, RES = some (p, r) ∧ x = nf p ∧ ts.drop j = r ∧ j ≤ ts.length) (hn : bad = true → RES = none) (s1 s2 s3 : Value) :
    RdR B a n c i0 w ts RES top (.returned (.agg #[.int .i64 x.kind, .string (bs x.tag), v])) (((we.setCell ⟨w.heap.size, 0, none⟩ s1).setCell ⟨w.heap.size, 1, none⟩ s2).setCell ⟨w.heap.size, 2, none⟩ s3) := by
  have hs : Kx (· = w.heap.size) we (((we.setCell ⟨w.heap.size, 0, none⟩ s1).setCell ⟨w.heap.size, 1, none⟩ s2).setCell ⟨w.heap.size, 2, none⟩ s3) := kx_set3
  have hr0 := h.lt
  refine ⟨h.kp.andThen hs (fun _ _ h => h) (fun b hb e => by omega), x, v, j, bad, rfl, ?_, hs.keep _ _ h.rz (by omega), hj, h0, h2, h3, hy, hn⟩
  exact hv.to' hs (fun b o ob _ hb => Bf.mono (by omega) b o ob hb) (fun b o ob _ hb e => by have := hb.1; omega)
theorem slv_nil {B : BP} {W : World} : SlV B W (.slice none 0 0) [] := .inl ⟨_, _, rfl, rfl⟩
end Go.Proofs.YtleiohccaagalaaGreat
