/-
  types.Subst without arguments, walked.
-/
import Derived.Test.YtifcikhgbafegabFrh
import Derived.Test.YtifcikhgbafegabKdp
import Derived.Test.YtifcikhgbafegabWkp
namespace Go.Proofs.Ytifcikhgbafegab
open Go.RowKit
attribute [local go_sem ↓] Go.wp_at_zero Go.wp_at_succ
theorem results_duo {P : Program} {f : Func} {tmps : Array Value} {W : World} {a b : Nat} {u v : Value} (hf : f.results = #[.tmp a, .tmp b]) (ha : tmps.getD a undef = u) (hb : tmps.getD b undef = v) : (results f tmps).run P W = .ok (.tuple #[u, v]) W := by
  unfold results
  rw [hf]
  have ha2 : tmps[a]?.getD undef = u := by rw [← ha]; simp
  have hb2 : tmps[b]?.getD undef = v := by rw [← hb]; simp
  simp [ha2, hb2]
/-- what a step of Subst answers -/
structure SuQ (w : World) (l : List Addr) (e : Ending) (w' : World) : Prop where
  ex : ∃ a c, e = .returned (.tuple #[.slice a l.length c, .bool true]) ∧ w'.ownsRow w.heap.size 37 1 (.slice a l.length c) l.length (l.map pv)
  bl : Below w.heap.size w w'
set_option maxRecDepth 100000 in
set_option maxHeartbeats 4000000 in
theorem sb_step {w : World} {b o kb ko n c AB : Nat} {k N : Int} {a : Option Addr} (h0 : w.cell? ⟨b, o, none⟩ = some (.int .i64 k)) (h2 : w.cell? ⟨b, o + 2, none⟩ = some (.int .i64 N)) (h6 : w.cell? ⟨b, o + 6, none⟩ = some (.slice a n c)) (ha : 0 < n → a = some ⟨kb, ko, none⟩) (hn : n ≤ 1000000) (hA : w.cell? ⟨AB, 0, none⟩ = some (.slice none 0 0)) :
    Calls Try.prog 25 #[pv ⟨b, o, none⟩, .pointer (some ⟨AB, 0, none⟩)] w (SuQ w (kidA kb ko n)) := by
  have HKD : Hid (∀ nq, Calls Try.prog 26 #[pv ⟨b, o, none⟩] (w.drewN nq) (KdQ (w.drewN nq) (kidA kb ko n))) := fun nq => kids_any (kept_cell (below_dn w nq) h6) ha hn
  clear h6 hn
  by_cases h9 : k = 9
  · subst h9
    by_cases hN : 0 ≤ N
    · have z1 : decide ((0 : Int) ≤ N) = true := decide_eq_true hN
      have z2 : decide (N < (0 : Int)) = false := decide_eq_false (by omega)
      have z3 : ¬ N < 0 := by omega
      clear ha
      go_enter Try.func25, Try.ntmps25
      go_wp2_with fail
      first | go_quiet (fail) | go_big_quiet (fail)
      go_wp2_with fail
      refine (HKD.out _).mono ?_
      intro e x1 hq
      obtain ⟨a1, c1, rfl, ho⟩ := hq.ex
      have HB : Hid (Below w.heap.size w x1) := bthen (below_dn _ _) hq.bl
      have HO : Hid (x1.ownsRow w.heap.size 37 1 (.slice a1 (kidA kb ko n).length c1) (kidA kb ko n).length ((kidA kb ko n).map pv)) := ho
      clear hq ho
      go_wp2_with fail
      exact bodyPost_ret (results_duo rfl rfl rfl) rfl ⟨⟨_, _, rfl, HO.out⟩, HB.out⟩
    · have z1 : decide ((0 : Int) ≤ N) = false := decide_eq_false hN
      clear ha
      go_enter Try.func25, Try.ntmps25
      go_wp2_with fail
      first | go_quiet (fail) | go_big_quiet (fail)
      go_wp2_with fail
      refine (HKD.out _).mono ?_
      intro e x1 hq
      obtain ⟨a1, c1, rfl, ho⟩ := hq.ex
      have HB : Hid (Below w.heap.size w x1) := bthen (below_dn _ _) hq.bl
      have HO : Hid (x1.ownsRow w.heap.size 37 1 (.slice a1 (kidA kb ko n).length c1) (kidA kb ko n).length ((kidA kb ko n).map pv)) := ho
      clear hq ho
      go_wp2_with fail
      exact bodyPost_ret (results_duo rfl rfl rfl) rfl ⟨⟨_, _, rfl, HO.out⟩, HB.out⟩
  · have z9 : (k == 9) = false := int_bne h9
    clear ha
    go_enter Try.func25, Try.ntmps25
    go_wp2_with fail
    first | go_quiet (fail) | go_big_quiet (fail)
    go_wp2_with fail
    refine (HKD.out _).mono ?_
    intro e x1 hq
    obtain ⟨a1, c1, rfl, ho⟩ := hq.ex
    have HB : Hid (Below w.heap.size w x1) := bthen (below_dn _ _) hq.bl
    have HO : Hid (x1.ownsRow w.heap.size 37 1 (.slice a1 (kidA kb ko n).length c1) (kidA kb ko n).length ((kidA kb ko n).map pv)) := ho
    clear hq ho
    go_wp2_with fail
    exact bodyPost_ret (results_duo rfl rfl rfl) rfl ⟨⟨_, _, rfl, HO.out⟩, HB.out⟩
/-- between two steps -/
structure SuI (w0 : World) (AB : Nat) (g : Nat) (X : Nat → Prop) (l : List Addr) (W : World) : Prop where
  bl : Below w0.heap.size w0 W
  all : ∀ b, b < w0.heap.size → X b
  lt : ∀ b, X b → b < W.heap.size
  gb : g ≤ 1000000
  hA : w0.cell? ⟨AB, 0, none⟩ = some (.slice none 0 0)
  ex : ∃ ps : List Pnd, ps.map Pnd.a = l ∧ cntL (ps.map Pnd.t) ≤ g ∧ ∀ p ∈ ps, p.t.lies (fun b => b < w0.heap.size) w0 p.b p.o
section
variable {w0 : World} {AB g : Nat} {X : Nat → Prop} {l : List Addr} {W W' : World}
theorem SuI.stable (h : SuI w0 AB g X l W) (hk : Kx (fun b => ¬ X b) W W') : SuI w0 AB g X l W' :=
  ⟨h.bl.trans (hk.below h.bl.size (fun b hb hx => hx (h.all b hb))), h.all, fun b hb => Nat.lt_of_lt_of_le (h.lt b hb) hk.size, h.gb, h.hA, h.ex⟩
theorem SuI.len (h : SuI w0 AB g X l W) : l.length ≤ 1000000 := by
  obtain ⟨ps, e1, e2, _⟩ := h.ex
  have := h.gb
  have h1 := cntL_len (ps.map Pnd.t)
  rw [List.length_map] at h1
  rw [← e1, List.length_map]; omega
theorem SuI.call {x : Addr} {r : List Addr} (h : SuI w0 AB g X (x :: r) W) : Calls Try.prog 25 #[pv x, .pointer (some ⟨AB, 0, none⟩)] W (StQ (SuI w0 AB) (fun _ _ => False) g X r W) := by
  obtain ⟨ps, e1, e2, hp⟩ := h.ex
  cases ps with
  | nil => simp at e1
  | cons p qs =>
    obtain ⟨rfl, rfl⟩ : p.a = x ∧ qs.map Pnd.a = r := by simpa using e1
    have hpl := hp p (by simp)
    obtain ⟨h0, h1, h2, h3, vn, vm, vk, h4, h5, h6, hpr⟩ := lies_iff.1 hpl
    rw [List.map_cons, cntL_cons] at e2
    have hcp := p.t.cnt_eq
    have hgb := h.gb
    have hkl := cntL_len p.t.kids
    obtain ⟨a, c, kb, ko, rfl, hka, hkl2⟩ : ∃ a c kb ko, vk = .slice a p.t.kids.length c ∧ (0 < p.t.kids.length → a = some ⟨kb, ko, none⟩) ∧ ∀ i (hi : i < p.t.kids.length), (p.t.kids[i]).lies (fun b => b < w0.heap.size) w0 kb (ko + i * 7) := by
      rcases hpr.ks with ⟨a, c, rfl, hk⟩ | ⟨b, o, c, rfl, hl, hb1, hb, hL⟩
      · refine ⟨a, c, 0, 0, by rw [hk]; rfl, fun h => ?_, fun i hi => ?_⟩
        · rw [hk] at h; simp at h
        · rw [hk] at hi; simp at hi
      · exact ⟨_, c, b, o, rfl, fun _ => rfl, fun i hi => liesT_get hL i hi⟩
    refine (sb_step (kb := kb) (ko := ko) (kept_cell h.bl h0) (kept_cell h.bl h2) (kept_cell h.bl h6) hka (by omega) (kept_cell h.bl h.hA)).mono ?_
    intro e W5 hq
    obtain ⟨a5, c5, rfl, ho⟩ := hq.ex
    refine .inl ⟨a5, (kidA kb ko p.t.kids.length).length, c5, kidA kb ko p.t.kids.length, g - 1, fun b => X b ∨ (W.heap.size ≤ b ∧ b < W5.heap.size), rfl, ?_, by omega, ?_, Kx.of_whole hq.bl, fun b hb hx => hx.resolve_right (by omega)⟩
    · exact rowV_own (w := W5) ho rfl (by rw [kidA_len]; omega) (fun k hk => by have := ho.lt k hk; exact .inr ⟨by omega, this.2⟩) (Nat.le_refl _) (fun _ _ _ _ h => h)
    · refine ⟨bthen h.bl hq.bl, fun b hb => .inl (h.all b hb), ?_, by omega, h.hA, kidP kb p.t.kids ko ++ qs, by rw [List.map_append, kidP_a], by rw [List.map_append, kidP_t, cntL_append]; omega, ?_⟩
      · rintro b (hx | hx)
        · have := h.lt b hx; have := hq.bl.size; omega
        · exact hx.2
      · intro q hq'
        rcases List.mem_append.1 hq' with hq' | hq'
        · obtain ⟨i, hi, rfl⟩ := kidP_mem _ _ hq'
          exact hkl2 i hi
        · exact hp q (by simp [hq'])
end
theorem enterS : ∀ args w, (callFunc 25 args).run Try.prog w = .ok (.enter 25 args) w := enters_of Try.func25 (by kernel_rfl) rfl
theorem sbW {W : World} {AB T0 fb fc : Nat} {t : Ty} (hA : W.cell? ⟨AB, 0, none⟩ = some (.slice none 0 0)) (hl : t.lies (fun b => b < W.heap.size) W T0 0) (hc : t.cnt ≤ 1000000) (hf : W.cell? ⟨fb, 0, none⟩ = some (pv ⟨T0, 0, none⟩)) :
    Calls Try.prog 24 #[.func (.func 25) #[] #[.pointer (some ⟨AB, 0, none⟩)], .slice (some ⟨fb, 0, none⟩) 1 fc] W fun e w' => e = .returned (.bool true) ∧ Below W.heap.size W w' := by
  have h0 : SuI W AB t.cnt (fun b => b < W.heap.size) [⟨T0, 0, none⟩] W := by
    refine ⟨Below.refl _ _, fun _ h => h, fun _ h => h, hc, hA, [⟨T0, 0, t⟩], rfl, by simp [cntL], fun p hp => ?_⟩
    obtain rfl := List.mem_singleton.1 hp
    exact hl
  refine (walkP (I := SuI W AB) (Bad := fun _ _ => False) 25 #[.pointer (some ⟨AB, 0, none⟩)] enterS (fun _ _ _ _ _ h hk => h.stable hk) (fun _ _ _ h _ => h) (fun _ _ _ _ h => h.lt) (fun _ _ _ _ h => h.len) (fun g X x r W h => by simpa using h.call) t.cnt ⟨T0, 0, none⟩ fb 0 fc W hf h0).mono ?_
  rintro e w' (⟨rfl, g, X, h⟩ | ⟨_, X, h⟩)
  · exact ⟨rfl, h.bl⟩
  · exact h.elim
end Go.Proofs.Ytifcikhgbafegab

/-
  types.Subst without arguments: a type in new memory.
-/
namespace Go.Proofs.Ytifcikhgbafegab
open Go.RowKit
attribute [local go_sem ↓] Go.wp_at_zero Go.wp_at_succ
set_option maxRecDepth 100000 in
set_option maxHeartbeats 4000000 in
theorem subst_nil {B : BQ} {w : World} {t : Ty} {vn vm vk : Value} (hp : Prt B w t vn vm vk) (hf : Fit t) (hc : t.cnt ≤ 1000000) : Calls Try.prog 9 #[agT t vn vm vk, .slice none 0 0] w (TyQ w (fun b => w.heap.size ≤ b) t) := by
  obtain ⟨an, cn, am, cm, ak, ck, rfl, rfl, rfl⟩ := hp.form
  obtain ⟨ln, hln⟩ : ∃ l, t.names.length = l := ⟨_, rfl⟩
  obtain ⟨lm, hlm⟩ : ∃ l, t.marks.length = l := ⟨_, rfl⟩
  obtain ⟨lk, hlk⟩ : ∃ l, t.kids.length = l := ⟨_, rfl⟩
  rw [hln, hlm, hlk] at hp ⊢
  have HC : Hid (t.cnt ≤ 1000000) := hc
  have hfr : ∀ W : World, Below w.heap.size w W → Calls Try.prog 23 #[agT t (.slice an ln cn) (.slice am lm cm) (.slice ak lk ck)] W (fun e w' => (∃ bn bm bk en em ek, e = .returned (agT t (.slice bn ln en) (.slice bm lm em) (.slice bk lk ek)) ∧ Prt (fun b => W.heap.size ≤ b) w' t (.slice bn ln en) (.slice bm lm em) (.slice bk lk ek)) ∧ Below W.heap.size W w') := fun W hb => (fresh_any (hp.kept hb) hf hc).mono fun e w' h => by
    obtain ⟨vn, vm, vk, rfl, h2⟩ := h.ex
    obtain ⟨bn, en, bm, em, bk, ek, rfl, rfl, rfl⟩ := h2.form
    rw [hln, hlm, hlk] at h2 ⊢
    exact ⟨⟨_, _, _, _, _, _, rfl, h2⟩, h.bl⟩
  have HLN : Hid (t.names.length = ln ∧ t.marks.length = lm ∧ t.kids.length = lk) := ⟨hln, hlm, hlk⟩
  obtain ⟨k, nm, n, f, ns, ms, ks⟩ := t
  unfold agT at hfr ⊢
  simp only [Ty.kind, Ty.name, Ty.n, Ty.flag] at hfr ⊢
  have hb3 : Below w.heap.size w (((w.alloc (.cells #[.int .i64 k, .string nm, .int .i64 n, .bool f, .slice an ln cn, .slice am lm cm, .slice ak lk ck] 26)).alloc (.cells #[.slice none 0 0] 24)).alloc (.cells #[.int .i64 0, .string ⟨#[]⟩, .int .i64 0, .bool false, .slice none 0 0, .slice none 0 0, .slice none 0 0] 26)) := bthen (bthen (below_alloc _ _) (below_alloc _ _)) (below_alloc _ _)
  have hfr3 := hfr _ hb3
  have HB3 : Hid (Below w.heap.size w (((w.alloc (.cells #[.int .i64 k, .string nm, .int .i64 n, .bool f, .slice an ln cn, .slice am lm cm, .slice ak lk ck] 26)).alloc (.cells #[.slice none 0 0] 24)).alloc (.cells #[.int .i64 0, .string ⟨#[]⟩, .int .i64 0, .bool false, .slice none 0 0, .slice none 0 0, .slice none 0 0] 26))) := hb3
  have HA : Hid ((((w.alloc (.cells #[.int .i64 k, .string nm, .int .i64 n, .bool f, .slice an ln cn, .slice am lm cm, .slice ak lk ck] 26)).alloc (.cells #[.slice none 0 0] 24)).alloc (.cells #[.int .i64 0, .string ⟨#[]⟩, .int .i64 0, .bool false, .slice none 0 0, .slice none 0 0, .slice none 0 0] 26)).heap[w.heap.size + 1]? = some (.cells #[.slice none 0 0] 24 (0, 0))) := by
    have := blk_kept (below_alloc _ (.cells #[.int .i64 0, .string ⟨#[]⟩, .int .i64 0, .bool false, .slice none 0 0, .slice none 0 0, .slice none 0 0] 26)) (heap_new (w.alloc (.cells #[.int .i64 k, .string nm, .int .i64 n, .bool f, .slice an ln cn, .slice am lm cm, .slice ak lk ck] 26)) (.cells #[.slice none 0 0] 24))
    rw [World.size_alloc] at this
    exact this
  have HR : Hid ((((w.alloc (.cells #[.int .i64 k, .string nm, .int .i64 n, .bool f, .slice an ln cn, .slice am lm cm, .slice ak lk ck] 26)).alloc (.cells #[.slice none 0 0] 24)).alloc (.cells #[.int .i64 0, .string ⟨#[]⟩, .int .i64 0, .bool false, .slice none 0 0, .slice none 0 0, .slice none 0 0] 26)).heap[w.heap.size + 1 + 1]? = some (.cells #[.int .i64 0, .string ⟨#[]⟩, .int .i64 0, .bool false, .slice none 0 0, .slice none 0 0, .slice none 0 0] 26 (0, 0))) := by
    have := heap_new ((w.alloc (.cells #[.int .i64 k, .string nm, .int .i64 n, .bool f, .slice an ln cn, .slice am lm cm, .slice ak lk ck] 26)).alloc (.cells #[.slice none 0 0] 24)) (.cells #[.int .i64 0, .string ⟨#[]⟩, .int .i64 0, .bool false, .slice none 0 0, .slice none 0 0, .slice none 0 0] 26)
    rw [World.size_alloc, World.size_alloc] at this
    exact this
  have HZ3 : Hid ((((w.alloc (.cells #[.int .i64 k, .string nm, .int .i64 n, .bool f, .slice an ln cn, .slice am lm cm, .slice ak lk ck] 26)).alloc (.cells #[.slice none 0 0] 24)).alloc (.cells #[.int .i64 0, .string ⟨#[]⟩, .int .i64 0, .bool false, .slice none 0 0, .slice none 0 0, .slice none 0 0] 26)).heap.size = w.heap.size + 3) := by show _ = _; simp
  clear hp hf hc hfr hb3 hln hlm hlk
  go_enter Try.func9, Try.ntmps9
  go_wp2_with fail
  refine hfr3.mono ?_
  rintro e x1 ⟨⟨bn, bm, bk, en, em, ek, rfl, hpr⟩, hb1⟩
  have HB1 : Hid (Below w.heap.size w x1) := bthen HB3.out hb1
  have HA1 : Hid (x1.heap[w.heap.size + 1]? = some (.cells #[.slice none 0 0] 24 (0, 0))) := blk_kept hb1 HA.out
  have HR1 : Hid (x1.heap[w.heap.size + 1 + 1]? = some (.cells #[.int .i64 0, .string ⟨#[]⟩, .int .i64 0, .bool false, .slice none 0 0, .slice none 0 0, .slice none 0 0] 26 (0, 0))) := blk_kept hb1 HR.out
  have HZ1 : Hid (w.heap.size + 3 ≤ x1.heap.size) := by have := hb1.size; have := HZ3.out; show _ ≤ _; omega
  have HP1 : Hid (Prt (fun b => w.heap.size + 3 ≤ b) x1 (.mk k nm n f ns ms ks) (.slice bn ln en) (.slice bm lm em) (.slice bk lk ek)) := by have h3 := HZ3.out; rw [h3] at hpr; exact hpr
  clear hpr hb1 hfr3 HB3 HA HR HZ3
  have hb5 : Below x1.heap.size x1 ((x1.alloc (.cells #[.int .i64 k, .string nm, .int .i64 n, .bool f, .slice bn ln en, .slice bm lm em, .slice bk lk ek] 26)).alloc (.cells #[pv ⟨x1.heap.size, 0, none⟩] 37)) := bthen (below_alloc _ _) (below_alloc _ _)
  have hT5 : ((x1.alloc (.cells #[.int .i64 k, .string nm, .int .i64 n, .bool f, .slice bn ln en, .slice bm lm em, .slice bk lk ek] 26)).alloc (.cells #[pv ⟨x1.heap.size, 0, none⟩] 37)).heap[x1.heap.size]? = some (.cells #[.int .i64 k, .string nm, .int .i64 n, .bool f, .slice bn ln en, .slice bm lm em, .slice bk lk ek] 26 (0, 0)) := blk_kept (below_alloc _ _) (heap_new x1 _)
  have hF5 : ((x1.alloc (.cells #[.int .i64 k, .string nm, .int .i64 n, .bool f, .slice bn ln en, .slice bm lm em, .slice bk lk ek] 26)).alloc (.cells #[pv ⟨x1.heap.size, 0, none⟩] 37)).heap[x1.heap.size + 1]? = some (.cells #[pv ⟨x1.heap.size, 0, none⟩] 37 (0, 0)) := by
    have := heap_new (x1.alloc (.cells #[.int .i64 k, .string nm, .int .i64 n, .bool f, .slice bn ln en, .slice bm lm em, .slice bk lk ek] 26)) (.cells #[pv ⟨x1.heap.size, 0, none⟩] 37)
    rw [World.size_alloc] at this
    exact this
  have hl5 : Ty.lies (fun b => b < ((x1.alloc (.cells #[.int .i64 k, .string nm, .int .i64 n, .bool f, .slice bn ln en, .slice bm lm em, .slice bk lk ek] 26)).alloc (.cells #[pv ⟨x1.heap.size, 0, none⟩] 37)).heap.size) ((x1.alloc (.cells #[.int .i64 k, .string nm, .int .i64 n, .bool f, .slice bn ln en, .slice bm lm em, .slice bk lk ek] 26)).alloc (.cells #[pv ⟨x1.heap.size, 0, none⟩] 37)) (.mk k nm n f ns ms ks) x1.heap.size 0 := by
    obtain ⟨c0, c1, c2, c3, c4, c5, c6⟩ := bx7 hT5
    exact lies_iff.2 ⟨c0, c1, c2, c3, _, _, _, c4, c5, c6, (HP1.out.kept hb5).with (fun b h _ => h)⟩
  have hwk := sbW (AB := w.heap.size + 1) (T0 := x1.heap.size) (fb := x1.heap.size + 1) (fc := 1) (cell_of (blk_kept hb5 HA1.out) 0) hl5 HC.out (cell_of hF5 0)
  have HT5 : Hid (((x1.alloc (.cells #[.int .i64 k, .string nm, .int .i64 n, .bool f, .slice bn ln en, .slice bm lm em, .slice bk lk ek] 26)).alloc (.cells #[pv ⟨x1.heap.size, 0, none⟩] 37)).heap[x1.heap.size]? = some (.cells #[.int .i64 k, .string nm, .int .i64 n, .bool f, .slice bn ln en, .slice bm lm em, .slice bk lk ek] 26 (0, 0))) := hT5
  have HB5 : Hid (Below x1.heap.size x1 ((x1.alloc (.cells #[.int .i64 k, .string nm, .int .i64 n, .bool f, .slice bn ln en, .slice bm lm em, .slice bk lk ek] 26)).alloc (.cells #[pv ⟨x1.heap.size, 0, none⟩] 37))) := hb5
  clear hT5 hF5 hl5 hb5
  go_wp2_with (go_at_call 24; refine hwk.mono ?_; rintro e x2 ⟨rfl, hb2⟩; have HB2 : Hid (Below x1.heap.size x1 x2) := bthen HB5.out hb2; have kT := bx7 (blk_kept hb2 HT5.out); have kTf := bx7f (blk_kept hb2 HT5.out); have HR2 : Hid (x2.heap[w.heap.size + 1 + 1]? = some (.cells #[.int .i64 0, .string ⟨#[]⟩, .int .i64 0, .bool false, .slice none 0 0, .slice none 0 0, .slice none 0 0] 26 (0, 0))) := blk_kept (bthen HB5.out hb2) HR1.out; have kR := bx7 HR2.out; have kRf := bx7f HR2.out; clear hwk hb2)
  have hx := bx7_set (a' := .int .i64 k) (b' := .string nm) (c' := .int .i64 n) (d' := .bool f) (x' := .slice bn ln en) (y' := .slice bm lm em) (z' := .slice bk lk ek) HR2.out
  have hk7 := kx_set7 (w := x2) (g := w.heap.size + 1 + 1) (a := .int .i64 k) (b := .string nm) (c := .int .i64 n) (d := .bool f) (x := .slice bn ln en) (y := .slice bm lm em) (z := .slice bk lk ek)
  have hB := below_kx1 (bthen HB1.out HB2.out) hk7 (by omega)
  have hP := (HP1.out.kept HB2.out).to (B' := fun b => w.heap.size ≤ b) hk7 (fun b _ hb => by show w.heap.size ≤ b; omega) (fun b _ hb e => by omega)
  exact bodyPost_ret (v := .agg #[.int .i64 k, .string nm, .int .i64 n, .bool f, .slice bn ln en, .slice bm lm em, .slice bk lk ek]) (results_cell rfl rfl (resT hx)) rfl ⟨hB, _, _, _, rfl, hP⟩
end Go.Proofs.Ytifcikhgbafegab

