/-
  types.Subst with arguments, walked.
-/
import Derived.Test.YtcmnhkopmkaiaaaSbw
namespace Go.Proofs.Ytcmnhkopmkaiaaa
open Go.RowKit
attribute [local go_sem ↓] Go.wp_at_zero Go.wp_at_succ
set_option maxRecDepth 100000 in
set_option maxHeartbeats 4000000 in
theorem subst_any {B : BQ} {w : World} {t : Ty} {vn vm vk : Value} {aa : Option Addr} {la ca : Nat} {args : List Ty} (hp : Prt B w t vn vm vk) (hf : Fit t) (hc : t.cnt ≤ 1000000) (hs : SlT B w (.slice aa la ca) args) (hF : ∀ x ∈ args, Fit x ∧ x.cnt ≤ 1000000) : Calls Try.prog 14 #[agT t vn vm vk, .slice aa la ca] w (TyQ w (fun b => w.heap.size ≤ b) (t.sbc args)) := by
  have HS : Hid (SlT (fun b => b < w.heap.size) w (.slice aa la ca) args) := hs.with (fun b h _ => h)
  have HF : Hid (∀ x ∈ args, Fit x ∧ x.cnt ≤ 1000000) := hF
  obtain ⟨an, cn, am, cm, ak, ck, rfl, rfl, rfl⟩ := hp.form
  obtain ⟨ln, hln⟩ : ∃ l, t.names.length = l := ⟨_, rfl⟩
  obtain ⟨lm, hlm⟩ : ∃ l, t.marks.length = l := ⟨_, rfl⟩
  obtain ⟨lk, hlk⟩ : ∃ l, t.kids.length = l := ⟨_, rfl⟩
  rw [hln, hlm, hlk] at hp ⊢
  have HC : Hid (t.cnt ≤ 1000000) := hc
  have hfr : ∀ W : World, Below w.heap.size w W → Calls Try.prog 21 #[agT t (.slice an ln cn) (.slice am lm cm) (.slice ak lk ck)] W (fun e w' => (∃ bn bm bk en em ek, e = .returned (agT t (.slice bn ln en) (.slice bm lm em) (.slice bk lk ek)) ∧ PrT w' t (.slice bn ln en) (.slice bm lm em) (.slice bk lk ek) (W.heap.size + 3) w'.heap.size) ∧ Below W.heap.size W w') := fun W hb => (fresh_tree (hp.kept hb) hf hc).mono fun e w' h => by
    obtain ⟨vn, vm, vk, rfl, h2, _, _, h3⟩ := h.ex
    obtain ⟨bn, en, bm, em, bk, ek, rfl, rfl, rfl⟩ := h2.form
    rw [hln, hlm, hlk] at h3 ⊢
    exact ⟨⟨_, _, _, _, _, _, rfl, h3⟩, h.bl⟩
  obtain ⟨r, hr⟩ : ∃ r, t.sbc args = r := ⟨_, rfl⟩
  have HRR : Hid (t.sbc args = r) := hr
  rw [hr]
  obtain ⟨k, nm, n, f, ns, ms, ks⟩ := t
  unfold agT at hfr ⊢
  simp only [Ty.kind, Ty.name, Ty.n, Ty.flag] at hfr ⊢
  have hb3 : Below w.heap.size w (((w.alloc (.cells #[.int .i64 k, .string nm, .int .i64 n, .bool f, .slice an ln cn, .slice am lm cm, .slice ak lk ck] 26)).alloc (.cells #[.slice aa la ca] 24)).alloc (.cells #[.int .i64 0, .string ⟨#[]⟩, .int .i64 0, .bool false, .slice none 0 0, .slice none 0 0, .slice none 0 0] 26)) := bthen (bthen (below_alloc _ _) (below_alloc _ _)) (below_alloc _ _)
  have hfr3 := hfr _ hb3
  have HB3 : Hid (Below w.heap.size w (((w.alloc (.cells #[.int .i64 k, .string nm, .int .i64 n, .bool f, .slice an ln cn, .slice am lm cm, .slice ak lk ck] 26)).alloc (.cells #[.slice aa la ca] 24)).alloc (.cells #[.int .i64 0, .string ⟨#[]⟩, .int .i64 0, .bool false, .slice none 0 0, .slice none 0 0, .slice none 0 0] 26))) := hb3
  have HA : Hid ((((w.alloc (.cells #[.int .i64 k, .string nm, .int .i64 n, .bool f, .slice an ln cn, .slice am lm cm, .slice ak lk ck] 26)).alloc (.cells #[.slice aa la ca] 24)).alloc (.cells #[.int .i64 0, .string ⟨#[]⟩, .int .i64 0, .bool false, .slice none 0 0, .slice none 0 0, .slice none 0 0] 26)).heap[w.heap.size + 1]? = some (.cells #[.slice aa la ca] 24 (0, 0))) := by
    have := blk_kept (below_alloc _ (.cells #[.int .i64 0, .string ⟨#[]⟩, .int .i64 0, .bool false, .slice none 0 0, .slice none 0 0, .slice none 0 0] 26)) (heap_new (w.alloc (.cells #[.int .i64 k, .string nm, .int .i64 n, .bool f, .slice an ln cn, .slice am lm cm, .slice ak lk ck] 26)) (.cells #[.slice aa la ca] 24))
    rw [World.size_alloc] at this
    exact this
  have HR : Hid ((((w.alloc (.cells #[.int .i64 k, .string nm, .int .i64 n, .bool f, .slice an ln cn, .slice am lm cm, .slice ak lk ck] 26)).alloc (.cells #[.slice aa la ca] 24)).alloc (.cells #[.int .i64 0, .string ⟨#[]⟩, .int .i64 0, .bool false, .slice none 0 0, .slice none 0 0, .slice none 0 0] 26)).heap[w.heap.size + 1 + 1]? = some (.cells #[.int .i64 0, .string ⟨#[]⟩, .int .i64 0, .bool false, .slice none 0 0, .slice none 0 0, .slice none 0 0] 26 (0, 0))) := by
    have := heap_new ((w.alloc (.cells #[.int .i64 k, .string nm, .int .i64 n, .bool f, .slice an ln cn, .slice am lm cm, .slice ak lk ck] 26)).alloc (.cells #[.slice aa la ca] 24)) (.cells #[.int .i64 0, .string ⟨#[]⟩, .int .i64 0, .bool false, .slice none 0 0, .slice none 0 0, .slice none 0 0] 26)
    rw [World.size_alloc, World.size_alloc] at this
    exact this
  have HZ3 : Hid ((((w.alloc (.cells #[.int .i64 k, .string nm, .int .i64 n, .bool f, .slice an ln cn, .slice am lm cm, .slice ak lk ck] 26)).alloc (.cells #[.slice aa la ca] 24)).alloc (.cells #[.int .i64 0, .string ⟨#[]⟩, .int .i64 0, .bool false, .slice none 0 0, .slice none 0 0, .slice none 0 0] 26)).heap.size = w.heap.size + 3) := by show _ = _; simp
  clear hp hf hc hfr hb3 hln hlm hlk hs hF hr
  go_enter Try.func14, Try.ntmps14
  go_wp2_with fail
  refine hfr3.mono ?_
  rintro e x1 ⟨⟨bn, bm, bk, en, em, ek, rfl, hpr⟩, hb1⟩
  have HB1 : Hid (Below w.heap.size w x1) := bthen HB3.out hb1
  have HA1 : Hid (x1.heap[w.heap.size + 1]? = some (.cells #[.slice aa la ca] 24 (0, 0))) := blk_kept hb1 HA.out
  have HR1 : Hid (x1.heap[w.heap.size + 1 + 1]? = some (.cells #[.int .i64 0, .string ⟨#[]⟩, .int .i64 0, .bool false, .slice none 0 0, .slice none 0 0, .slice none 0 0] 26 (0, 0))) := blk_kept hb1 HR.out
  have HZ1 : Hid (w.heap.size + 3 ≤ x1.heap.size) := by have := hb1.size; have := HZ3.out; show _ ≤ _; omega
  have HP1 : Hid (PrT x1 (.mk k nm n f ns ms ks) (.slice bn ln en) (.slice bm lm em) (.slice bk lk ek) (w.heap.size + 3 + 3) x1.heap.size) := by have h3 := HZ3.out; rw [h3] at hpr; exact hpr
  clear hpr hb1 hfr3 HB3 HA HR HZ3
  have hb5 : Below x1.heap.size x1 ((x1.alloc (.cells #[.int .i64 k, .string nm, .int .i64 n, .bool f, .slice bn ln en, .slice bm lm em, .slice bk lk ek] 26)).alloc (.cells #[pv ⟨x1.heap.size, 0, none⟩] 40)) := bthen (below_alloc _ _) (below_alloc _ _)
  have hT5 : ((x1.alloc (.cells #[.int .i64 k, .string nm, .int .i64 n, .bool f, .slice bn ln en, .slice bm lm em, .slice bk lk ek] 26)).alloc (.cells #[pv ⟨x1.heap.size, 0, none⟩] 40)).heap[x1.heap.size]? = some (.cells #[.int .i64 k, .string nm, .int .i64 n, .bool f, .slice bn ln en, .slice bm lm em, .slice bk lk ek] 26 (0, 0)) := blk_kept (below_alloc _ _) (heap_new x1 _)
  have hF5 : ((x1.alloc (.cells #[.int .i64 k, .string nm, .int .i64 n, .bool f, .slice bn ln en, .slice bm lm em, .slice bk lk ek] 26)).alloc (.cells #[pv ⟨x1.heap.size, 0, none⟩] 40)).heap[x1.heap.size + 1]? = some (.cells #[pv ⟨x1.heap.size, 0, none⟩] 40 (0, 0)) := by
    have := heap_new (x1.alloc (.cells #[.int .i64 k, .string nm, .int .i64 n, .bool f, .slice bn ln en, .slice bm lm em, .slice bk lk ek] 26)) (.cells #[pv ⟨x1.heap.size, 0, none⟩] 40)
    rw [World.size_alloc] at this
    exact this
  have hl5 : Ty.tr ((x1.alloc (.cells #[.int .i64 k, .string nm, .int .i64 n, .bool f, .slice bn ln en, .slice bm lm em, .slice bk lk ek] 26)).alloc (.cells #[pv ⟨x1.heap.size, 0, none⟩] 40)) (.mk k nm n f ns ms ks) x1.heap.size 0 (w.heap.size + 3 + 3) x1.heap.size := by
    obtain ⟨c0, c1, c2, c3, c4, c5, c6⟩ := bx7 hT5
    exact tr_iff.2 ⟨⟨c0, c1, c2, c3⟩, _, _, _, ⟨c4, c5, c6⟩, HP1.out.kx (X := fun _ => False) (Kx.of_whole hb5) (fun _ _ _ h => h)⟩
  have hz1 := HZ1.out
  have hz5 := hb5.size
  have hwk := svW (N1 := w.heap.size + 3) (AB := w.heap.size + 1) (T0 := x1.heap.size) (fb := x1.heap.size + 1) (fc := 1) (by omega) (cell_of (blk_kept hb5 HA1.out) 0) ((HS.out.kept (bthen HB1.out hb5)).with (fun b _ h => by show b < w.heap.size + 3; omega)) HF.out hl5 (by omega) ⟨_, _, hT5⟩ (by omega) (by omega) (by omega) HC.out (cell_of hF5 0)
  rw [HRR.out] at hwk
  have HB5 : Hid (Below x1.heap.size x1 ((x1.alloc (.cells #[.int .i64 k, .string nm, .int .i64 n, .bool f, .slice bn ln en, .slice bm lm em, .slice bk lk ek] 26)).alloc (.cells #[pv ⟨x1.heap.size, 0, none⟩] 40))) := hb5
  clear hT5 hF5 hl5 hb5 hz1 hz5
  go_wp2_with (go_at_call 25; refine hwk.mono ?_; rintro e x2 ⟨rfl, hk2, hl2⟩; obtain ⟨d0, d1, d2, d3, un, um, uk, d4, d5, d6, hpr⟩ := lies_iff.1 hl2; obtain ⟨dn, fn, dm, fm, dk, fk, rfl, rfl, rfl⟩ := hpr.form; simp only [Nat.zero_add] at d1 d2 d3 d4 d5 d6; have HPR : Hid (Prt (fun b => w.heap.size + 3 ≤ b) x2 r (.slice dn r.names.length fn) (.slice dm r.marks.length fm) (.slice dk r.kids.length fk)) := hpr; have HB2 : Hid (Below w.heap.size w x2) := (HB1.out.trans ((HB5.out.mono HB1.out.size).trans (hk2.below (by have := HB5.out.size; have := HB1.out.size; omega) (fun b hb hx => by omega)))); have HR2 : Hid (x2.heap[w.heap.size + 1 + 1]? = some (.cells #[.int .i64 0, .string ⟨#[]⟩, .int .i64 0, .bool false, .slice none 0 0, .slice none 0 0, .slice none 0 0] 26 (0, 0))) := hk2.keep _ _ (blk_kept HB5.out HR1.out) (fun hx => by omega); have kR := bx7 HR2.out; have kRf := bx7f HR2.out; clear hwk hk2 hl2 hpr)
  have hx := bx7_set (a' := .int .i64 r.kind) (b' := .string r.name) (c' := .int .i64 r.n) (d' := .bool r.flag) (x' := .slice dn r.names.length fn) (y' := .slice dm r.marks.length fm) (z' := .slice dk r.kids.length fk) HR2.out
  have hk7 := kx_set7 (w := x2) (g := w.heap.size + 1 + 1) (a := .int .i64 r.kind) (b := .string r.name) (c := .int .i64 r.n) (d := .bool r.flag) (x := .slice dn r.names.length fn) (y := .slice dm r.marks.length fm) (z := .slice dk r.kids.length fk)
  have hB := below_kx1 HB2.out hk7 (by omega)
  have hP := HPR.out.to (B' := fun b => w.heap.size ≤ b) hk7 (fun b _ hb => by show w.heap.size ≤ b; omega) (fun b _ hb e => by omega)
  exact bodyPost_ret (v := .agg #[.int .i64 r.kind, .string r.name, .int .i64 r.n, .bool r.flag, .slice dn r.names.length fn, .slice dm r.marks.length fm, .slice dk r.kids.length fk]) (results_cell rfl rfl (resT hx)) rfl ⟨hB, _, _, _, rfl, hP⟩
end Go.Proofs.Ytcmnhkopmkaiaaa

