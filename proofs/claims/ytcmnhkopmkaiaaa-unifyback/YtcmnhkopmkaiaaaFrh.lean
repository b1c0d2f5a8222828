/-
  types.fresh, walked: a type in new memory.
-/
import Derived.Test.YtcmnhkopmkaiaaaFri
namespace Go.Proofs.Ytcmnhkopmkaiaaa
open Go.RowKit
attribute [local go_sem ↓] Go.wp_at_zero Go.wp_at_succ
theorem enter1 : ∀ args w, (callFunc 32 args).run Try.prog w = .ok (.enter 32 args) w := enters_of Try.func32 (by kernel_rfl) rfl
/-- the walk of fresh -/
theorem freshW {w0 : World} {N0 T0 fb fc : Nat} {t : Ty} (hf : w0.cell? ⟨fb, 0, none⟩ = some (pv ⟨T0, 0, none⟩)) (h0 : FrI w0 N0 t T0 t.cnt (fun b => b < w0.heap.size) [⟨T0, 0, none⟩] w0) :
    Calls Try.prog 25 #[.func (.func 32) #[] #[], .slice (some ⟨fb, 0, none⟩) 1 fc] w0 fun e w' => e = .returned (.bool true) ∧ Kx (· = T0) w0 w' ∧ t.lies (fun b => w0.heap.size ≤ b) w' T0 0 ∧ ∃ v, w'.cell? ⟨T0, 6, none⟩ = some v ∧ OwnK w' t.kids.length v ∧ KidsO w0.heap.size t.kids v w' ∧ t.tr w' T0 0 w0.heap.size w'.heap.size := by
  refine (walkP (I := FrI w0 N0 t T0) (Bad := fun _ _ => False) 32 #[] enter1 (fun _ _ _ _ _ h hk => h.stable hk) (fun _ _ _ h _ => h) (fun _ _ _ _ h => h.lt) (fun _ _ _ _ h => h.len) (fun g X x r W h => by simpa using h.call) t.cnt ⟨T0, 0, none⟩ fb 0 fc w0 hf h0).mono ?_
  rintro e w' (⟨rfl, g, X, h⟩ | ⟨_, X, h⟩)
  · obtain ⟨v, h1, h2, h3⟩ := h.own
    exact ⟨rfl, h.old, h.done, v, h1, h2, h3, h.tree⟩
  · exact h.elim
/-- a type is answered, whose kids are all its own -/
structure TyO (w : World) (t : Ty) (e : Ending) (w' : World) : Prop where
  bl : Below w.heap.size w w'
  ex : ∃ vn vm vk, e = .returned (agT t vn vm vk) ∧ Prt (fun b => w.heap.size ≤ b) w' t vn vm vk ∧ OwnK w' t.kids.length vk ∧ KidsO w.heap.size t.kids vk w'
/-- a type is answered, that is a tree of its own -/
structure TyT (w : World) (t : Ty) (e : Ending) (w' : World) : Prop where
  bl : Below w.heap.size w w'
  ex : ∃ vn vm vk, e = .returned (agT t vn vm vk) ∧ Prt (fun b => w.heap.size ≤ b) w' t vn vm vk ∧ OwnK w' t.kids.length vk ∧ KidsO w.heap.size t.kids vk w' ∧ PrT w' t vn vm vk (w.heap.size + 3) w'.heap.size
theorem TyT.o {w w' : World} {t : Ty} {e : Ending} (h : TyT w t e w') : TyO w t e w' := by
  obtain ⟨vn, vm, vk, h1, h2, h3, h4, _⟩ := h.ex
  exact ⟨h.bl, vn, vm, vk, h1, h2, h3, h4⟩
theorem TyO.q {w w' : World} {t : Ty} {e : Ending} (h : TyO w t e w') : TyQ w (fun b => w.heap.size ≤ b) t e w' := by
  obtain ⟨vn, vm, vk, h1, h2, _, _⟩ := h.ex
  exact ⟨h.bl, vn, vm, vk, h1, h2⟩
theorem OwnK.set7 {W : World} {n g : Nat} {v a b c d x y z : Value} (h : OwnK W n v) : OwnK (((((((W.setCell ⟨g, 0, none⟩ a).setCell ⟨g, 1, none⟩ b).setCell ⟨g, 2, none⟩ c).setCell ⟨g, 3, none⟩ d).setCell ⟨g, 4, none⟩ x).setCell ⟨g, 5, none⟩ y).setCell ⟨g, 6, none⟩ z) n v :=
  ((((((h.set _ _).set _ _).set _ _).set _ _).set _ _).set _ _).set _ _
theorem KidsO.kx {N N' R : Nat} {ks : List Ty} {v : Value} {W W' : World} (h : KidsO N ks v W) (hp : SlT (fun b => N ≤ b) W v ks) (hk : Kx (· = R) W W') (hR : R < N) (hN : N' ≤ N) : KidsO N' ks v W' := by
  intro g hg i hi
  have hgN : N ≤ g := by
    rcases hp with ⟨a, c, rfl, rfl⟩ | ⟨b, o, c, rfl, _, _, hb, _⟩
    · cases hi
    · obtain rfl : b = g := by simpa [Value.ownBlock] using hg
      exact hb
  exact lies_to hk (fun b _ hb => ⟨by omega, hb.2⟩) (fun b _ hb e => by omega) _ _ _ (by omega) (h g hg i hi)
set_option maxRecDepth 100000 in
set_option maxHeartbeats 4000000 in
theorem fresh_tree {B : BQ} {w : World} {t : Ty} {vn vm vk : Value} (h : Prt B w t vn vm vk) (hf : Fit t) (hc : t.cnt ≤ 1000000) : Calls Try.prog 21 #[agT t vn vm vk] w (TyT w t) := by
  have hp : Prt (fun b => b < w.heap.size) w t vn vm vk := h.with (fun b hb _ => hb)
  obtain ⟨an, cn, am, cm, ak, ck, rfl, rfl, rfl⟩ := h.form
  have hb3 : Below w.heap.size w (((w.alloc (.cells #[.int .i64 t.kind, .string t.name, .int .i64 t.n, .bool t.flag, .slice an t.names.length cn, .slice am t.marks.length cm, .slice ak t.kids.length ck] 26)).alloc (.cells #[.int .i64 0, .string ⟨#[]⟩, .int .i64 0, .bool false, .slice none 0 0, .slice none 0 0, .slice none 0 0] 26)).alloc (.cells #[pv ⟨w.heap.size, 0, none⟩] 40)) := bthen (bthen (below_alloc _ _) (below_alloc _ _)) (below_alloc _ _)
  have hT : (((w.alloc (.cells #[.int .i64 t.kind, .string t.name, .int .i64 t.n, .bool t.flag, .slice an t.names.length cn, .slice am t.marks.length cm, .slice ak t.kids.length ck] 26)).alloc (.cells #[.int .i64 0, .string ⟨#[]⟩, .int .i64 0, .bool false, .slice none 0 0, .slice none 0 0, .slice none 0 0] 26)).alloc (.cells #[pv ⟨w.heap.size, 0, none⟩] 40)).heap[w.heap.size]? = some (.cells #[.int .i64 t.kind, .string t.name, .int .i64 t.n, .bool t.flag, .slice an t.names.length cn, .slice am t.marks.length cm, .slice ak t.kids.length ck] 26 (0, 0)) := blk_kept (bthen (below_alloc _ _) (below_alloc _ _)) (heap_new w _)
  have hR : (((w.alloc (.cells #[.int .i64 t.kind, .string t.name, .int .i64 t.n, .bool t.flag, .slice an t.names.length cn, .slice am t.marks.length cm, .slice ak t.kids.length ck] 26)).alloc (.cells #[.int .i64 0, .string ⟨#[]⟩, .int .i64 0, .bool false, .slice none 0 0, .slice none 0 0, .slice none 0 0] 26)).alloc (.cells #[pv ⟨w.heap.size, 0, none⟩] 40)).heap[w.heap.size + 1]? = some (.cells #[.int .i64 0, .string ⟨#[]⟩, .int .i64 0, .bool false, .slice none 0 0, .slice none 0 0, .slice none 0 0] 26 (0, 0)) := by
    have := blk_kept (below_alloc _ (.cells #[pv ⟨w.heap.size, 0, none⟩] 40)) (heap_new (w.alloc (.cells #[.int .i64 t.kind, .string t.name, .int .i64 t.n, .bool t.flag, .slice an t.names.length cn, .slice am t.marks.length cm, .slice ak t.kids.length ck] 26)) (.cells #[.int .i64 0, .string ⟨#[]⟩, .int .i64 0, .bool false, .slice none 0 0, .slice none 0 0, .slice none 0 0] 26))
    rwa [World.size_alloc] at this
  have hP : (((w.alloc (.cells #[.int .i64 t.kind, .string t.name, .int .i64 t.n, .bool t.flag, .slice an t.names.length cn, .slice am t.marks.length cm, .slice ak t.kids.length ck] 26)).alloc (.cells #[.int .i64 0, .string ⟨#[]⟩, .int .i64 0, .bool false, .slice none 0 0, .slice none 0 0, .slice none 0 0] 26)).alloc (.cells #[pv ⟨w.heap.size, 0, none⟩] 40)).heap[w.heap.size + 2]? = some (.cells #[pv ⟨w.heap.size, 0, none⟩] 40 (0, 0)) := by
    have := heap_new ((w.alloc (.cells #[.int .i64 t.kind, .string t.name, .int .i64 t.n, .bool t.flag, .slice an t.names.length cn, .slice am t.marks.length cm, .slice ak t.kids.length ck] 26)).alloc (.cells #[.int .i64 0, .string ⟨#[]⟩, .int .i64 0, .bool false, .slice none 0 0, .slice none 0 0, .slice none 0 0] 26)) (.cells #[pv ⟨w.heap.size, 0, none⟩] 40)
    rwa [World.size_alloc, World.size_alloc] at this
  have hz : (((w.alloc (.cells #[.int .i64 t.kind, .string t.name, .int .i64 t.n, .bool t.flag, .slice an t.names.length cn, .slice am t.marks.length cm, .slice ak t.kids.length ck] 26)).alloc (.cells #[.int .i64 0, .string ⟨#[]⟩, .int .i64 0, .bool false, .slice none 0 0, .slice none 0 0, .slice none 0 0] 26)).alloc (.cells #[pv ⟨w.heap.size, 0, none⟩] 40)).heap.size = w.heap.size + 3 := by simp
  obtain ⟨c0, c1, c2, c3, c4, c5, c6⟩ := bx7 hT
  have h0 : FrI (((w.alloc (.cells #[.int .i64 t.kind, .string t.name, .int .i64 t.n, .bool t.flag, .slice an t.names.length cn, .slice am t.marks.length cm, .slice ak t.kids.length ck] 26)).alloc (.cells #[.int .i64 0, .string ⟨#[]⟩, .int .i64 0, .bool false, .slice none 0 0, .slice none 0 0, .slice none 0 0] 26)).alloc (.cells #[pv ⟨w.heap.size, 0, none⟩] 40)) w.heap.size t w.heap.size t.cnt (fun b => b < (((w.alloc (.cells #[.int .i64 t.kind, .string t.name, .int .i64 t.n, .bool t.flag, .slice an t.names.length cn, .slice am t.marks.length cm, .slice ak t.kids.length ck] 26)).alloc (.cells #[.int .i64 0, .string ⟨#[]⟩, .int .i64 0, .bool false, .slice none 0 0, .slice none 0 0, .slice none 0 0] 26)).alloc (.cells #[pv ⟨w.heap.size, 0, none⟩] 40)).heap.size) [⟨w.heap.size, 0, none⟩] (((w.alloc (.cells #[.int .i64 t.kind, .string t.name, .int .i64 t.n, .bool t.flag, .slice an t.names.length cn, .slice am t.marks.length cm, .slice ak t.kids.length ck] 26)).alloc (.cells #[.int .i64 0, .string ⟨#[]⟩, .int .i64 0, .bool false, .slice none 0 0, .slice none 0 0, .slice none 0 0] 26)).alloc (.cells #[pv ⟨w.heap.size, 0, none⟩] 40)) := by
    refine ⟨Kx.refl _ _, by omega, fun _ h => h, fun _ h => h, by omega, hc, by show w.heap.size < _; omega, [⟨w.heap.size, 0, t⟩], rfl, by simp [cntL], fun p hp' => ?_, List.pairwise_singleton _ _, fun W' hag hs hl => hl ⟨w.heap.size, 0, t⟩ (by simp), .inl rfl, fun W' lo hi hag hnb hs hlo ht => ?_⟩
    rotate_left
    · obtain ⟨m, h1, h2⟩ := ht
      exact tr_wide h1 hlo h2
    obtain rfl := List.mem_singleton.1 hp'
    refine ⟨⟨Nat.le_refl _, ⟨_, _, hT⟩, _, _, _, ⟨c0, by simpa using c1, by simpa using c2, by simpa using c3⟩, ⟨by simpa using c4, by simpa using c5, by simpa using c6⟩, hp.kept hb3⟩, by show w.heap.size < _; omega, hf, .inl ⟨rfl, rfl⟩⟩
  have hwk := freshW (fc := 1) (by simpa using cell_of hP 0) h0
  have HB3 : Hid (Below w.heap.size w (((w.alloc (.cells #[.int .i64 t.kind, .string t.name, .int .i64 t.n, .bool t.flag, .slice an t.names.length cn, .slice am t.marks.length cm, .slice ak t.kids.length ck] 26)).alloc (.cells #[.int .i64 0, .string ⟨#[]⟩, .int .i64 0, .bool false, .slice none 0 0, .slice none 0 0, .slice none 0 0] 26)).alloc (.cells #[pv ⟨w.heap.size, 0, none⟩] 40))) := hb3
  have HR : Hid ((((w.alloc (.cells #[.int .i64 t.kind, .string t.name, .int .i64 t.n, .bool t.flag, .slice an t.names.length cn, .slice am t.marks.length cm, .slice ak t.kids.length ck] 26)).alloc (.cells #[.int .i64 0, .string ⟨#[]⟩, .int .i64 0, .bool false, .slice none 0 0, .slice none 0 0, .slice none 0 0] 26)).alloc (.cells #[pv ⟨w.heap.size, 0, none⟩] 40)).heap[w.heap.size + 1]? = some (.cells #[.int .i64 0, .string ⟨#[]⟩, .int .i64 0, .bool false, .slice none 0 0, .slice none 0 0, .slice none 0 0] 26 (0, 0))) := hR
  have HZ : Hid ((((w.alloc (.cells #[.int .i64 t.kind, .string t.name, .int .i64 t.n, .bool t.flag, .slice an t.names.length cn, .slice am t.marks.length cm, .slice ak t.kids.length ck] 26)).alloc (.cells #[.int .i64 0, .string ⟨#[]⟩, .int .i64 0, .bool false, .slice none 0 0, .slice none 0 0, .slice none 0 0] 26)).alloc (.cells #[pv ⟨w.heap.size, 0, none⟩] 40)).heap.size = w.heap.size + 3) := hz
  unfold agT
  clear hb3 hT hR hP h0 c0 c1 c2 c3 c4 c5 c6 hp h hz
  go_enter Try.func21, Try.ntmps21
  go_wp2_with (go_at_call 25; refine hwk.mono ?_; rintro e w4 ⟨rfl, hk, hl, vo, hvo, hko, hkk, htr⟩; have HK : Hid (Kx (· = w.heap.size) (((w.alloc (.cells #[.int .i64 t.kind, .string t.name, .int .i64 t.n, .bool t.flag, .slice an t.names.length cn, .slice am t.marks.length cm, .slice ak t.kids.length ck] 26)).alloc (.cells #[.int .i64 0, .string ⟨#[]⟩, .int .i64 0, .bool false, .slice none 0 0, .slice none 0 0, .slice none 0 0] 26)).alloc (.cells #[pv ⟨w.heap.size, 0, none⟩] 40)) w4) := hk; obtain ⟨d0, d1, d2, d3, un, um, uk, d4, d5, d6, hpr⟩ := lies_iff.1 hl; obtain ⟨bn, en, bm, em, bk, ek, rfl, rfl, rfl⟩ := hpr.form; simp only [Nat.zero_add] at d1 d2 d3 d4 d5 d6; obtain rfl : vo = .slice bk t.kids.length ek := Option.some.inj (hvo.symm.trans d6); have HKO : Hid (OwnK w4 t.kids.length (.slice bk t.kids.length ek)) := hko; have HKK : Hid (KidsO (((w.alloc (.cells #[.int .i64 t.kind, .string t.name, .int .i64 t.n, .bool t.flag, .slice an t.names.length cn, .slice am t.marks.length cm, .slice ak t.kids.length ck] 26)).alloc (.cells #[.int .i64 0, .string ⟨#[]⟩, .int .i64 0, .bool false, .slice none 0 0, .slice none 0 0, .slice none 0 0] 26)).alloc (.cells #[pv ⟨w.heap.size, 0, none⟩] 40)).heap.size t.kids (.slice bk t.kids.length ek) w4) := hkk; have HTR : Hid (PrT w4 t (.slice bn t.names.length en) (.slice bm t.marks.length em) (.slice bk t.kids.length ek) (w.heap.size + 3) w4.heap.size) := by { obtain ⟨_, v4, v5, v6, ⟨k4, k5, k6⟩, hh⟩ := tr_iff.1 htr; simp only [Nat.zero_add] at k4 k5 k6; obtain rfl := Option.some.inj (d4.symm.trans k4); obtain rfl := Option.some.inj (d5.symm.trans k5); obtain rfl := Option.some.inj (d6.symm.trans k6); rw [HZ.out] at hh; exact hh }; clear hvo hko hkk htr; have hR4 := hk.keep _ _ HR.out (by omega); obtain ⟨z0, z1, z2, z3, z4, z5, z6⟩ := bx7 hR4; obtain ⟨f0, f1, f2, f3, f4, f5, f6⟩ := bx7f hR4; have HPR : Hid (Prt (fun b => (((w.alloc (.cells #[.int .i64 t.kind, .string t.name, .int .i64 t.n, .bool t.flag, .slice an t.names.length cn, .slice am t.marks.length cm, .slice ak t.kids.length ck] 26)).alloc (.cells #[.int .i64 0, .string ⟨#[]⟩, .int .i64 0, .bool false, .slice none 0 0, .slice none 0 0, .slice none 0 0] 26)).alloc (.cells #[pv ⟨w.heap.size, 0, none⟩] 40)).heap.size ≤ b) w4 t (.slice bn t.names.length en) (.slice bm t.marks.length em) (.slice bk t.kids.length ek)) := hpr; have HR4 : Hid _ := hR4; clear hk hl hwk hpr hR4)
  have hm := bx7_set (a' := .int .i64 t.kind) (b' := .string t.name) (c' := .int .i64 t.n) (d' := .bool t.flag) (x' := .slice bn t.names.length en) (y' := .slice bm t.marks.length em) (z' := .slice bk t.kids.length ek) HR4.out
  have hk7 := kx_set7 (w := w4) (g := w.heap.size + 1) (a := .int .i64 t.kind) (b := .string t.name) (c := .int .i64 t.n) (d := .bool t.flag) (x := .slice bn t.names.length en) (y := .slice bm t.marks.length em) (z := .slice bk t.kids.length ek)
  refine bodyPost_ret (v := .agg #[.int .i64 t.kind, .string t.name, .int .i64 t.n, .bool t.flag, .slice bn t.names.length en, .slice bm t.marks.length em, .slice bk t.kids.length ek]) (results_cell rfl rfl (resT hm)) rfl ?_
  have hzz := HZ.out
  have hb4 : Below w.heap.size w w4 := HB3.out.trans (HK.out.below HB3.out.size (fun b hb e => by omega))
  refine ⟨below_kx1 hb4 hk7 (by omega), _, _, _, rfl, HPR.out.to hk7 (fun b _ hb => by show w.heap.size ≤ b; omega) (fun b _ hb e => by omega), HKO.out.set7, HKK.out.kx HPR.out.ks hk7 (by omega) (by omega), (HTR.out.kx hk7 (fun b hb _ e => by omega)).wide (Nat.le_refl _) hk7.size⟩
theorem fresh_own {B : BQ} {w : World} {t : Ty} {vn vm vk : Value} (h : Prt B w t vn vm vk) (hf : Fit t) (hc : t.cnt ≤ 1000000) : Calls Try.prog 21 #[agT t vn vm vk] w (TyO w t) := (fresh_tree h hf hc).mono fun _ _ h => h.o
theorem fresh_any {B : BQ} {w : World} {t : Ty} {vn vm vk : Value} (h : Prt B w t vn vm vk) (hf : Fit t) (hc : t.cnt ≤ 1000000) : Calls Try.prog 21 #[agT t vn vm vk] w (TyQ w (fun b => w.heap.size ≤ b) t) := (fresh_own h hf hc).mono fun _ _ h => h.q
end Go.Proofs.Ytcmnhkopmkaiaaa

