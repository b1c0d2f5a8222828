/-
  types.World without declared types: under, Under and Nilable, walked.
-/
import Derived.Test.YtifcikhgbafegaaNnB
import Derived.Deep.RegionLaw
namespace Go.Proofs.Ytifcikhgbafegaa
open Go.RowKit
attribute [local go_sem ↓] Go.wp_at_zero Go.wp_at_succ
set_option maxRecDepth 100000 in
set_option maxHeartbeats 4000000 in
theorem under_none {w : World} (t : Ty) (an am ak : Option Addr) (ln cn lm cm lk ck : Nat) : Calls Try.prog 70 #[.map none, agT t (.slice an ln cn) (.slice am lm cm) (.slice ak lk ck)] w (TyE w t (.slice an ln cn) (.slice am lm cm) (.slice ak lk ck)) := by
  obtain ⟨k, nm, n, f, ns, ms, ks⟩ := t
  unfold agT
  simp only [Ty.kind, Ty.name, Ty.n, Ty.flag]
  have hb9 : Below w.heap.size w ((w.alloc (.cells #[.int .i64 k, .string nm, .int .i64 n, .bool f, .slice an ln cn, .slice am lm cm, .slice ak lk ck] 26)).alloc (.cells #[.int .i64 0, .string ⟨#[]⟩, .int .i64 0, .bool false, .slice none 0 0, .slice none 0 0, .slice none 0 0] 26)) := bthen (below_alloc _ _) (below_alloc _ _)
  have hn8 : ((w.alloc (.cells #[.int .i64 k, .string nm, .int .i64 n, .bool f, .slice an ln cn, .slice am lm cm, .slice ak lk ck] 26)).alloc (.cells #[.int .i64 0, .string ⟨#[]⟩, .int .i64 0, .bool false, .slice none 0 0, .slice none 0 0, .slice none 0 0] 26)).heap[w.heap.size]? = some (.cells #[.int .i64 k, .string nm, .int .i64 n, .bool f, .slice an ln cn, .slice am lm cm, .slice ak lk ck] 26 (0, 0)) := blk_kept (below_alloc _ _) (heap_new w _)
  have hn9 : ((w.alloc (.cells #[.int .i64 k, .string nm, .int .i64 n, .bool f, .slice an ln cn, .slice am lm cm, .slice ak lk ck] 26)).alloc (.cells #[.int .i64 0, .string ⟨#[]⟩, .int .i64 0, .bool false, .slice none 0 0, .slice none 0 0, .slice none 0 0] 26)).heap[w.heap.size + 1]? = some (.cells #[.int .i64 0, .string ⟨#[]⟩, .int .i64 0, .bool false, .slice none 0 0, .slice none 0 0, .slice none 0 0] 26 (0, 0)) := heap_new2 w _ _
  have hcl := find_none nm
  by_cases h8 : k = 8
  · subst h8
    have HB9 : Hid (Below w.heap.size w ((w.alloc (.cells #[.int .i64 8, .string nm, .int .i64 n, .bool f, .slice an ln cn, .slice am lm cm, .slice ak lk ck] 26)).alloc (.cells #[.int .i64 0, .string ⟨#[]⟩, .int .i64 0, .bool false, .slice none 0 0, .slice none 0 0, .slice none 0 0] 26))) := hb9
    have HN8 : Hid (((w.alloc (.cells #[.int .i64 8, .string nm, .int .i64 n, .bool f, .slice an ln cn, .slice am lm cm, .slice ak lk ck] 26)).alloc (.cells #[.int .i64 0, .string ⟨#[]⟩, .int .i64 0, .bool false, .slice none 0 0, .slice none 0 0, .slice none 0 0] 26)).heap[w.heap.size]? = some (.cells #[.int .i64 8, .string nm, .int .i64 n, .bool f, .slice an ln cn, .slice am lm cm, .slice ak lk ck] 26 (0, 0))) := hn8
    have HN9 : Hid (((w.alloc (.cells #[.int .i64 8, .string nm, .int .i64 n, .bool f, .slice an ln cn, .slice am lm cm, .slice ak lk ck] 26)).alloc (.cells #[.int .i64 0, .string ⟨#[]⟩, .int .i64 0, .bool false, .slice none 0 0, .slice none 0 0, .slice none 0 0] 26)).heap[w.heap.size + 1]? = some (.cells #[.int .i64 0, .string ⟨#[]⟩, .int .i64 0, .bool false, .slice none 0 0, .slice none 0 0, .slice none 0 0] 26 (0, 0))) := hn9
    clear hb9 hn8 hn9
    go_enter Try.func70, Try.ntmps70
    go_wp2_with fail
    go_loopg [] 0 (fun g wr => wr = ((w.alloc (.cells #[.int .i64 8, .string nm, .int .i64 n, .bool f, .slice an ln cn, .slice am lm cm, .slice ak lk ck] 26)).alloc (.cells #[.int .i64 0, .string ⟨#[]⟩, .int .i64 0, .bool false, .slice none 0 0, .slice none 0 0, .slice none 0 0] 26)))
    case atStart => rfl
    case round =>
      obtain rfl := hrel
      go_wp2_with (go_at_call 67; refine (hcl _).mono ?_; rintro e x1 ⟨rfl, hb1⟩; have HBA : Hid (Below ((w.alloc (.cells #[.int .i64 8, .string nm, .int .i64 n, .bool f, .slice an ln cn, .slice am lm cm, .slice ak lk ck] 26)).alloc (.cells #[.int .i64 0, .string ⟨#[]⟩, .int .i64 0, .bool false, .slice none 0 0, .slice none 0 0, .slice none 0 0] 26)).heap.size ((w.alloc (.cells #[.int .i64 8, .string nm, .int .i64 n, .bool f, .slice an ln cn, .slice am lm cm, .slice ak lk ck] 26)).alloc (.cells #[.int .i64 0, .string ⟨#[]⟩, .int .i64 0, .bool false, .slice none 0 0, .slice none 0 0, .slice none 0 0] 26)) (x1.alloc (.cells #[.string ⟨#[]⟩, .int .i64 0, .string ⟨#[]⟩, .int .i64 0, .bool false, .slice none 0 0, .slice none 0 0, .slice none 0 0, .slice none 0 0] 48))) := bthen hb1 (below_alloc _ _); have k8 := bx7 (blk_kept HBA.out HN8.out); have k9 := bx7f (blk_kept HBA.out HN9.out); have k9c := bx7 (blk_kept HBA.out HN9.out); have HN9b : Hid ((x1.alloc (.cells #[.string ⟨#[]⟩, .int .i64 0, .string ⟨#[]⟩, .int .i64 0, .bool false, .slice none 0 0, .slice none 0 0, .slice none 0 0, .slice none 0 0] 48)).heap[w.heap.size + 1]? = some (.cells #[.int .i64 0, .string ⟨#[]⟩, .int .i64 0, .bool false, .slice none 0 0, .slice none 0 0, .slice none 0 0] 26 (0, 0))) := blk_kept HBA.out HN9.out; clear hb1 hcl)
      have HBB : Hid (Below w.heap.size w (x1.alloc (.cells #[.string ⟨#[]⟩, .int .i64 0, .string ⟨#[]⟩, .int .i64 0, .bool false, .slice none 0 0, .slice none 0 0, .slice none 0 0, .slice none 0 0] 48))) := bthen HB9.out HBA.out
      clear k8 k9 k9c HBA HB9 HN8 HN9
      generalize x1.alloc (.cells #[.string ⟨#[]⟩, .int .i64 0, .string ⟨#[]⟩, .int .i64 0, .bool false, .slice none 0 0, .slice none 0 0, .slice none 0 0, .slice none 0 0] 48) = X1 at *
      have hx := bx7_set (a' := .int .i64 8) (b' := .string nm) (c' := .int .i64 n) (d' := .bool f) (x' := .slice an ln cn) (y' := .slice am lm cm) (z' := .slice ak lk ck) HN9b.out
      have hB := below_kx1 HBB.out (kx_set7 (w := X1) (g := w.heap.size + 1) (a := .int .i64 8) (b := .string nm) (c := .int .i64 n) (d := .bool f) (x := .slice an ln cn) (y := .slice am lm cm) (z := .slice ak lk ck)) (Nat.le_succ _)
      exact bodyPost_ret (v := .agg #[.int .i64 8, .string nm, .int .i64 n, .bool f, .slice an ln cn, .slice am lm cm, .slice ak lk ck]) (results_cell rfl rfl (resT hx)) rfl ⟨hB, rfl⟩
  · have HB9 : Hid (Below w.heap.size w ((w.alloc (.cells #[.int .i64 k, .string nm, .int .i64 n, .bool f, .slice an ln cn, .slice am lm cm, .slice ak lk ck] 26)).alloc (.cells #[.int .i64 0, .string ⟨#[]⟩, .int .i64 0, .bool false, .slice none 0 0, .slice none 0 0, .slice none 0 0] 26))) := hb9
    have HN9 : Hid (((w.alloc (.cells #[.int .i64 k, .string nm, .int .i64 n, .bool f, .slice an ln cn, .slice am lm cm, .slice ak lk ck] 26)).alloc (.cells #[.int .i64 0, .string ⟨#[]⟩, .int .i64 0, .bool false, .slice none 0 0, .slice none 0 0, .slice none 0 0] 26)).heap[w.heap.size + 1]? = some (.cells #[.int .i64 0, .string ⟨#[]⟩, .int .i64 0, .bool false, .slice none 0 0, .slice none 0 0, .slice none 0 0] 26 (0, 0))) := hn9
    have hb10 : Below w.heap.size w ((w.alloc (.cells #[.int .i64 k, .string nm, .int .i64 n, .bool f, .slice an ln cn, .slice am lm cm, .slice ak lk ck] 26)).alloc (.cells #[.int .i64 k, .string nm, .int .i64 n, .bool f, .slice an ln cn, .slice am lm cm, .slice ak lk ck] 26)) := bthen (below_alloc _ _) (below_alloc _ _)
    have HB10 : Hid (Below w.heap.size w ((w.alloc (.cells #[.int .i64 k, .string nm, .int .i64 n, .bool f, .slice an ln cn, .slice am lm cm, .slice ak lk ck] 26)).alloc (.cells #[.int .i64 k, .string nm, .int .i64 n, .bool f, .slice an ln cn, .slice am lm cm, .slice ak lk ck] 26))) := hb10
    have HN10 : Hid (((w.alloc (.cells #[.int .i64 k, .string nm, .int .i64 n, .bool f, .slice an ln cn, .slice am lm cm, .slice ak lk ck] 26)).alloc (.cells #[.int .i64 k, .string nm, .int .i64 n, .bool f, .slice an ln cn, .slice am lm cm, .slice ak lk ck] 26)).heap[w.heap.size + 1]? = some (.cells #[.int .i64 k, .string nm, .int .i64 n, .bool f, .slice an ln cn, .slice am lm cm, .slice ak lk ck] 26 (0, 0))) := heap_new2 w _ _
    clear hb10 hb9 hn8 hn9 hcl
    go_enter Try.func70, Try.ntmps70
    go_wp2_with fail
    go_loopg [] 0 (fun g wr => wr = ((w.alloc (.cells #[.int .i64 k, .string nm, .int .i64 n, .bool f, .slice an ln cn, .slice am lm cm, .slice ak lk ck] 26)).alloc (.cells #[.int .i64 0, .string ⟨#[]⟩, .int .i64 0, .bool false, .slice none 0 0, .slice none 0 0, .slice none 0 0] 26)))
    case atStart => rfl
    case round =>
      obtain rfl := hrel
      go_wp2_with fail
      refine bodyPost_ret (v := .agg #[.int .i64 k, .string nm, .int .i64 n, .bool f, .slice an ln cn, .slice am lm cm, .slice ak lk ck]) (results_cell rfl rfl (resT HN10.out)) rfl ?_
      exact ⟨HB10.out, rfl⟩
end Go.Proofs.Ytifcikhgbafegaa
/-
  types.World without declared types: Nilable, walked.
-/
namespace Go.Proofs.Ytifcikhgbafegaa
open Go.RowKit
attribute [local go_sem ↓] Go.wp_at_zero Go.wp_at_succ
attribute [local go_sem ↓] fldT_0
set_option maxRecDepth 100000 in
set_option maxHeartbeats 4000000 in
theorem nilable_none {w : World} (t : Ty) (an am ak : Option Addr) (ln cn lm cm lk ck : Nat) : Calls Try.prog 35 #[.pointer none, agT t (.slice an ln cn) (.slice am lm cm) (.slice ak lk ck)] w fun e w' => e = .returned (.bool (nilK t.kind)) ∧ Below w.heap.size w w' := by
  have hun : ∀ W : World, Calls Try.prog 70 #[.map none, agT t (.slice an ln cn) (.slice am lm cm) (.slice ak lk ck)] W (fun e w' => e = .returned (agT t (.slice an ln cn) (.slice am lm cm) (.slice ak lk ck)) ∧ Below W.heap.size W w') := fun W => (under_none t an am ak ln cn lm cm lk ck).mono fun _ _ h => ⟨h.eq, h.bl⟩
  obtain ⟨R, hR⟩ : ∃ R, R = nilK t.kind := ⟨_, rfl⟩
  rw [← hR]
  have HR : Hid (∀ k, t.kind = k → R = nilK k) := fun k e => by rw [hR, e]
  clear hR
  obtain ⟨k, nm, n, f, ns, ms, ks⟩ := t
  unfold agT at hun ⊢
  simp only [Ty.kind, Ty.name, Ty.n, Ty.flag] at hun HR ⊢
  go_enter Try.func35, Try.ntmps35
  go_wp2_with fail
  go_region_law
    (go_simp; go_wp2_with (first | (go_at_call 66; refine (ornone_any _).mono ?_; rintro e x1 ⟨rfl, rfl⟩) | (go_at_call 70; refine (hun _).mono ?_; rintro e x2 ⟨rfl, hq⟩; have HB : Hid (Below w.heap.size w x2) := bthen (bthen (below_alloc _ _) (bthen (below_drew1 _) (below_alloc _ _))) hq; clear hq)))
  all_goals clear hun
  all_goals
    by_cases c10 : k = 10
    · subst c10
      have HN : Hid (R = true) := HR.out _ rfl
      clear HR
      go_wp2_with fail
      go_ret
      exact ⟨by rw [HN.out]; rfl, HB.out⟩
    by_cases c11 : k = 11
    · subst c11
      have HN : Hid (R = true) := HR.out _ rfl
      clear HR
      go_wp2_with fail
      go_ret
      exact ⟨by rw [HN.out]; rfl, HB.out⟩
    by_cases c12 : k = 12
    · subst c12
      have HN : Hid (R = true) := HR.out _ rfl
      clear HR
      go_wp2_with fail
      go_ret
      exact ⟨by rw [HN.out]; rfl, HB.out⟩
    by_cases c13 : k = 13
    · subst c13
      have HN : Hid (R = true) := HR.out _ rfl
      clear HR
      go_wp2_with fail
      go_ret
      exact ⟨by rw [HN.out]; rfl, HB.out⟩
    by_cases c15 : k = 15
    · subst c15
      have HN : Hid (R = true) := HR.out _ rfl
      clear HR
      go_wp2_with fail
      go_ret
      exact ⟨by rw [HN.out]; rfl, HB.out⟩
    have HN : Hid (R = false) := by
      show _ = _
      rw [HR.out k rfl]; unfold nilK; simp [c10, c11, c12, c13, c15]
    clear HR
    go_wp2_with fail
    go_ret
    exact ⟨by rw [HN.out]; rfl, HB.out⟩
end Go.Proofs.Ytifcikhgbafegaa
/-
  types.World without declared types: Under, walked.
-/
namespace Go.Proofs.Ytifcikhgbafegaa
open Go.RowKit
attribute [local go_sem ↓] Go.wp_at_zero Go.wp_at_succ
set_option maxRecDepth 100000 in
set_option maxHeartbeats 4000000 in
theorem wunder_none {B : BQ} {w : World} {t : Ty} {vn vm vk : Value} (hp : Prt B w t vn vm vk) (hf : Fit t) (hc : t.cnt ≤ 1000000) : Calls Try.prog 29 #[.pointer none, agT t vn vm vk] w (TyQ w (fun b => w.heap.size ≤ b) t) := by
  obtain ⟨an, cn, am, cm, ak, ck, rfl, rfl, rfl⟩ := hp.form
  obtain ⟨ln, hln⟩ : ∃ l, t.names.length = l := ⟨_, rfl⟩
  obtain ⟨lm, hlm⟩ : ∃ l, t.marks.length = l := ⟨_, rfl⟩
  obtain ⟨lk, hlk⟩ : ∃ l, t.kids.length = l := ⟨_, rfl⟩
  rw [hln, hlm, hlk] at hp ⊢
  have hun : ∀ W : World, Calls Try.prog 70 #[.map none, agT t (.slice an ln cn) (.slice am lm cm) (.slice ak lk ck)] W (fun e w' => e = .returned (agT t (.slice an ln cn) (.slice am lm cm) (.slice ak lk ck)) ∧ Below W.heap.size W w') := fun W => (under_none t an am ak ln cn lm cm lk ck).mono fun _ _ h => ⟨h.eq, h.bl⟩
  have hfr : Hid (∀ W : World, Below w.heap.size w W → Calls Try.prog 54 #[agT t (.slice an ln cn) (.slice am lm cm) (.slice ak lk ck)] W (fun e w' => (∃ bn bm bk en em ek, e = .returned (agT t (.slice bn ln en) (.slice bm lm em) (.slice bk lk ek)) ∧ Prt (fun b => W.heap.size ≤ b) w' t (.slice bn ln en) (.slice bm lm em) (.slice bk lk ek)) ∧ Below W.heap.size W w')) := fun W hb => (fresh_any (hp.kept hb) hf hc).mono fun e w' h => by
    obtain ⟨vn, vm, vk, rfl, h2⟩ := h.ex
    obtain ⟨bn, en, bm, em, bk, ek, rfl, rfl, rfl⟩ := h2.form
    rw [hln, hlm, hlk] at h2 ⊢
    exact ⟨⟨_, _, _, _, _, _, rfl, h2⟩, h.bl⟩
  obtain ⟨k, nm, n, f, ns, ms, ks⟩ := t
  unfold agT at hun hfr ⊢
  simp only [Ty.kind, Ty.name, Ty.n, Ty.flag] at hun hfr ⊢
  have hb9 : Below w.heap.size w ((w.alloc (.cells #[.int .i64 k, .string nm, .int .i64 n, .bool f, .slice an ln cn, .slice am lm cm, .slice ak lk ck] 26)).alloc (.cells #[.int .i64 0, .string ⟨#[]⟩, .int .i64 0, .bool false, .slice none 0 0, .slice none 0 0, .slice none 0 0] 26)) := bthen (below_alloc _ _) (below_alloc _ _)
  have HB9 : Hid (Below w.heap.size w ((w.alloc (.cells #[.int .i64 k, .string nm, .int .i64 n, .bool f, .slice an ln cn, .slice am lm cm, .slice ak lk ck] 26)).alloc (.cells #[.int .i64 0, .string ⟨#[]⟩, .int .i64 0, .bool false, .slice none 0 0, .slice none 0 0, .slice none 0 0] 26))) := hb9
  have HN9 : Hid (((w.alloc (.cells #[.int .i64 k, .string nm, .int .i64 n, .bool f, .slice an ln cn, .slice am lm cm, .slice ak lk ck] 26)).alloc (.cells #[.int .i64 0, .string ⟨#[]⟩, .int .i64 0, .bool false, .slice none 0 0, .slice none 0 0, .slice none 0 0] 26)).heap[w.heap.size + 1]? = some (.cells #[.int .i64 0, .string ⟨#[]⟩, .int .i64 0, .bool false, .slice none 0 0, .slice none 0 0, .slice none 0 0] 26 (0, 0))) := heap_new2 w _ _
  clear hp hf hc hln hlm hlk hb9
  go_enter Try.func29, Try.ntmps29
  go_wp2_with fail
  go_region_law
    (go_simp; go_wp2_with (first | (go_at_call 66; refine (ornone_any _).mono ?_; rintro e x1 ⟨rfl, rfl⟩) | (go_at_call 70; refine (hun _).mono ?_; rintro e x2 ⟨rfl, hq⟩; have HB2 : Hid (Below ((w.alloc (.cells #[.int .i64 k, .string nm, .int .i64 n, .bool f, .slice an ln cn, .slice am lm cm, .slice ak lk ck] 26)).alloc (.cells #[.int .i64 0, .string ⟨#[]⟩, .int .i64 0, .bool false, .slice none 0 0, .slice none 0 0, .slice none 0 0] 26)).heap.size ((w.alloc (.cells #[.int .i64 k, .string nm, .int .i64 n, .bool f, .slice an ln cn, .slice am lm cm, .slice ak lk ck] 26)).alloc (.cells #[.int .i64 0, .string ⟨#[]⟩, .int .i64 0, .bool false, .slice none 0 0, .slice none 0 0, .slice none 0 0] 26)) x2) := bthen (bthen (below_drew1 _) (below_alloc _ _)) hq; clear hq) | (go_at_call 54; refine (hfr.out _ (bthen HB9.out HB2.out)).mono ?_; rintro e x3 ⟨⟨bn, bm, bk, en, em, ek, rfl, hpr⟩, hq⟩; have HB3 : Hid (Below ((w.alloc (.cells #[.int .i64 k, .string nm, .int .i64 n, .bool f, .slice an ln cn, .slice am lm cm, .slice ak lk ck] 26)).alloc (.cells #[.int .i64 0, .string ⟨#[]⟩, .int .i64 0, .bool false, .slice none 0 0, .slice none 0 0, .slice none 0 0] 26)).heap.size ((w.alloc (.cells #[.int .i64 k, .string nm, .int .i64 n, .bool f, .slice an ln cn, .slice am lm cm, .slice ak lk ck] 26)).alloc (.cells #[.int .i64 0, .string ⟨#[]⟩, .int .i64 0, .bool false, .slice none 0 0, .slice none 0 0, .slice none 0 0] 26)) x3) := bthen HB2.out hq; have HP3 : Hid (Prt (fun b => x2.heap.size ≤ b) x3 (.mk k nm n f ns ms ks) (.slice bn ln en) (.slice bm lm em) (.slice bk lk ek)) := hpr; have k9 := bx7f (blk_kept HB3.out HN9.out); have k9c := bx7 (blk_kept HB3.out HN9.out); clear hq hpr)))
  all_goals
    clear k9 k9c hun hfr
    go_wp2_with fail
    have hN := blk_kept HB3.out HN9.out
    have hz2 : w.heap.size + 2 ≤ x2.heap.size := by
      have := HB2.out.size
      simp at this
      omega
    have hx := bx7_set (a' := .int .i64 k) (b' := .string nm) (c' := .int .i64 n) (d' := .bool f) (x' := .slice bn ln en) (y' := .slice bm lm em) (z' := .slice bk lk ek) hN
    have hk7 := kx_set7 (w := x3) (g := w.heap.size + 1) (a := .int .i64 k) (b := .string nm) (c := .int .i64 n) (d := .bool f) (x := .slice bn ln en) (y := .slice bm lm em) (z := .slice bk lk ek)
    have hB := below_kx1 (bthen HB9.out HB3.out) hk7 (Nat.le_succ _)
    have hP := HP3.out.to (B' := fun b => w.heap.size ≤ b) hk7 (fun b _ hb => by show w.heap.size ≤ b; omega) (fun b _ hb e => by omega)
    clear hk7 hN
    exact bodyPost_ret (v := .agg #[.int .i64 k, .string nm, .int .i64 n, .bool f, .slice bn ln en, .slice bm lm em, .slice bk lk ek]) (results_cell rfl rfl (resT hx)) rfl ⟨hB, _, _, _, rfl, hP⟩
end Go.Proofs.Ytifcikhgbafegaa
