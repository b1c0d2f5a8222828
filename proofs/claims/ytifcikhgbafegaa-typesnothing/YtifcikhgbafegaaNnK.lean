/-
  Comparable of a World without declared types: what stands between two steps.
-/
import Derived.Test.YtifcikhgbafegaaNnj
import Derived.Test.YtifcikhgbafegaaFrh
import Derived.Test.YtifcikhgbafegaaShp
namespace Go.Proofs.Ytifcikhgbafegaa
open Go.RowKit
/-- between two steps of Comparable -/
structure CmI (w0 : World) (MB WB M V : Nat) (R : Bool) (g : Nat) (X : Nat → Prop) (l : List Addr) (W : World) : Prop where
  bl : Below w0.heap.size w0 W
  all : ∀ b, b < w0.heap.size → X b
  lt : ∀ b, X b → b < W.heap.size
  gb : g ≤ 1000000
  hm : W.cell? ⟨MB, 0, none⟩ = some (.map (some M))
  hM : W.heap[M]? = some (.map #[] 0)
  hw : W.cell? ⟨WB, 0, none⟩ = some (.pointer (some ⟨V, 0, none⟩))
  hv : W.cell? ⟨V, 0, none⟩ = some (.map none)
  xs : X MB ∧ X M ∧ X WB ∧ X V
  ge : w0.heap.size ≤ M
  ex : ∃ ps : List Pnd, ps.map Pnd.a = l ∧ cntL (ps.map Pnd.t) ≤ g ∧ cmpL (ps.map Pnd.t) = R ∧ ∀ p ∈ ps, X p.b ∧ p.t.lies X W p.b p.o ∧ Shp p.t
/-- where Comparable ends early -/
structure CmB (w0 : World) (R : Bool) (X : Nat → Prop) (W : World) : Prop where
  bl : Below w0.heap.size w0 W
  all : ∀ b, b < w0.heap.size → X b
  no : R = false
section
variable {w0 : World} {MB WB M V g : Nat} {R : Bool} {X : Nat → Prop} {l : List Addr} {W W' : World}
theorem CmI.stable (h : CmI w0 MB WB M V R g X l W) (hk : Kx (fun b => ¬ X b) W W') : CmI w0 MB WB M V R g X l W' := by
  obtain ⟨ps, e1, e2, e3, hp⟩ := h.ex
  obtain ⟨x1, x2, x3, x4⟩ := h.xs
  refine ⟨h.bl.trans (hk.below h.bl.size (fun b hb hx => hx (h.all b hb))), h.all, fun b hb => Nat.lt_of_lt_of_le (h.lt b hb) hk.size, h.gb, hk.cell h.hm (fun hx => hx x1), hk.keep _ _ h.hM (fun hx => hx x2), hk.cell h.hw (fun hx => hx x3), hk.cell h.hv (fun hx => hx x4), h.xs, h.ge, ps, e1, e2, e3, fun p hp' => ?_⟩
  obtain ⟨h1, h2, h3⟩ := hp p hp'
  exact ⟨h1, lies_to hk (fun _ _ h => h) (fun b _ hb hx => hx hb) _ _ _ (fun hx => hx h1) h2, h3⟩
theorem CmB.stable (h : CmB w0 R X W) (hk : Kx (fun b => ¬ X b) W W') : CmB w0 R X W' :=
  ⟨h.bl.trans (hk.below h.bl.size (fun b hb hx => hx (h.all b hb))), h.all, h.no⟩
theorem CmI.len (h : CmI w0 MB WB M V R g X l W) : l.length ≤ 1000000 := by
  obtain ⟨ps, e1, e2, _⟩ := h.ex
  have := h.gb
  have h1 := cntL_len (ps.map Pnd.t)
  rw [List.length_map] at h1
  rw [← e1, List.length_map]; omega
theorem cm_go {kb ko n c : Nat} {a : Option Addr} {qs : List Pnd} {ks : List Ty} (h : CmI w0 MB WB M V R g X l W) (hq : ∀ q ∈ qs, X q.b ∧ q.t.lies X W q.b q.o ∧ Shp q.t) (hks : ∀ q ∈ kidP kb ks ko, X q.b ∧ q.t.lies X W q.b q.o ∧ Shp q.t) (hc : cntL ks + cntL (qs.map Pnd.t) + 1 ≤ g) (hR : cmpL (ks ++ qs.map Pnd.t) = R) (hb : Below W.heap.size W W')
    (hp : PtV (fun b => X b ∨ (W.heap.size ≤ b ∧ b < W'.heap.size)) W' (.slice a n c) (kidA kb ko ks.length)) : StQ (CmI w0 MB WB M V R) (CmB w0 R) g X (qs.map Pnd.a) W (.returned (.tuple #[.slice a n c, .bool true])) W' := by
  have hgb := h.gb
  refine .inl ⟨a, n, c, kidA kb ko ks.length, g - 1, fun b => X b ∨ (W.heap.size ≤ b ∧ b < W'.heap.size), rfl, hp, by omega, ?_, Kx.of_whole hb, fun b hb hx => hx.resolve_right (by omega)⟩
  obtain ⟨x1, x2, x3, x4⟩ := h.xs
  refine ⟨bthen h.bl hb, fun b hb => .inl (h.all b hb), ?_, by omega, kept_cell hb h.hm, blk_kept hb h.hM, kept_cell hb h.hw, kept_cell hb h.hv, ⟨.inl x1, .inl x2, .inl x3, .inl x4⟩, h.ge, kidP kb ks ko ++ qs, by rw [List.map_append, kidP_a], by rw [List.map_append, kidP_t, cntL_append]; omega, by rw [List.map_append, kidP_t]; exact hR, ?_⟩
  · rintro b (hx | hx)
    · have := h.lt b hx; have := hb.size; omega
    · exact hx.2
  · intro q hq'
    have hq2 : X q.b ∧ q.t.lies X W q.b q.o ∧ Shp q.t := by
      rcases List.mem_append.1 hq' with hq' | hq'
      · exact hks q hq'
      · exact hq q hq'
    exact ⟨.inl hq2.1, lies_to (X := fun _ => False) (Kx.of_whole hb) (fun _ _ h => .inl h) (fun _ _ _ h => h) _ _ _ (fun h => h) hq2.2.1, hq2.2.2⟩
theorem cm_bad {a : Option Addr} {n c : Nat} {r : List Addr} (h : CmI w0 MB WB M V R g X l W) (hR : R = false) (hk : Kx (· = M) W W') : StQ (CmI w0 MB WB M V R) (CmB w0 R) g X r W (.returned (.tuple #[.slice a n c, .bool false])) W' := by
  have hge := h.ge
  refine .inr ⟨a, n, c, X, rfl, ⟨h.bl.trans (hk.below h.bl.size (fun b hb e => by omega)), h.all, hR⟩, hk.andThen (Kx.refl (fun _ => False) _) (fun b _ e => e ▸ h.xs.2.1) (fun _ _ h => h.elim), fun _ _ h => h⟩
theorem kids_pnd {a : Option Addr} {n c : Nat} {ks : List Ty} (h : SlT X W (.slice a n c) ks) (hs : ∀ x ∈ ks, Shp x) : ∃ kb ko, (0 < n → a = some ⟨kb, ko, none⟩) ∧ n = ks.length ∧ ∀ q ∈ kidP kb ks ko, X q.b ∧ q.t.lies X W q.b q.o ∧ Shp q.t := by
  rcases h with ⟨a', c', e, rfl⟩ | ⟨b, o, c', e, hl, hb1, hb, hL⟩
  · obtain ⟨rfl, rfl, rfl⟩ : a = a' ∧ n = 0 ∧ c = c' := by simpa using e
    exact ⟨0, 0, fun h => absurd h (by omega), rfl, fun q hq => by cases hq⟩
  · obtain ⟨rfl, rfl, rfl⟩ : a = some ⟨b, o, none⟩ ∧ n = ks.length ∧ c = c' := by simpa using e
    refine ⟨b, o, fun _ => rfl, rfl, fun q hq => ?_⟩
    obtain ⟨i, hi, rfl⟩ := kidP_mem _ _ hq
    exact ⟨hb, liesT_get hL i hi, hs _ (List.getElem_mem _)⟩
theorem cmpL_append (a b : List Ty) : cmpL (a ++ b) = (cmpL a && cmpL b) := by
  induction a with
  | nil => simp [cmpL]
  | cons x r ih => simp [cmpL, ih, Bool.and_assoc]
theorem cmp_eq (t : Ty) : t.cmp = (basK t.kind || (decide (t.kind = 14) && cmpL t.kids) || (decide (t.kind = 9) && cmpP t.kids)) := by cases t; rw [Ty.cmp]; rfl
theorem cmpU_eq (t : Ty) : t.cmpU = (decide (t.kind = 16) && (decide (t.n = 1) || cmpL t.kids)) := by cases t; rw [Ty.cmpU]; rfl
/-- a row of one's own is read -/
theorem cb_row {l : List Addr} {a : Option Addr} {c : Nat} (ho : W'.ownsRow W.heap.size 67 1 (.slice a l.length c) l.length (l.map pv)) (hl : l.length ≤ 1000000) : PtV (fun b => X b ∨ (W.heap.size ≤ b ∧ b < W'.heap.size)) W' (.slice a l.length c) l :=
  rowV_own (w := W') ho rfl (by omega) (fun k hk => by have := ho.lt k hk; exact .inr ⟨by omega, this.2⟩) (Nat.le_refl _) (fun _ _ _ _ h => h)
/-- one step -/
theorem CmI.call {x : Addr} {r : List Addr} (h : CmI w0 MB WB M V R g X (x :: r) W) : Calls Try.prog 74 #[pv x, .pointer (some ⟨MB, 0, none⟩), .pointer (some ⟨WB, 0, none⟩)] W (StQ (CmI w0 MB WB M V R) (CmB w0 R) g X r W) := by
  obtain ⟨ps, e1, e2, e3, hp⟩ := h.ex
  cases ps with
  | nil => simp at e1
  | cons p qs =>
    obtain ⟨rfl, rfl⟩ : p.a = x ∧ qs.map Pnd.a = r := by simpa using e1
    obtain ⟨hpx, hpl, hps⟩ := hp p (by simp)
    have hq : ∀ q ∈ qs, X q.b ∧ q.t.lies X W q.b q.o ∧ Shp q.t := fun q hq => hp q (by simp [hq])
    obtain ⟨h0, h1, h2, h3, vn, vm, vk, h4, h5, h6, hpr⟩ := lies_iff.1 hpl
    obtain ⟨an, cn, am, cm, ak, ck, rfl, rfl, rfl⟩ := hpr.form
    rw [List.map_cons, cntL_cons] at e2
    rw [List.map_cons, cmpL, cmp_eq] at e3
    have hcp := p.t.cnt_eq
    have hgb := h.gb
    obtain ⟨kb, ko, hka, _, hkq⟩ := kids_pnd hpr.ks hps.kids
    have hkl := cntL_len p.t.kids
    by_cases c8 : p.t.kind = 8
    · rw [c8] at h0
      refine (cl_named h0 h1 h.hm h.hM h.hw h.hv).mono ?_
      rintro e W5 ⟨a, n, c, rfl, hk⟩
      exact cm_bad h (by rw [← e3, c8]; simp [basK]) hk
    have skip : p.t.cmp = true → StQ (CmI w0 MB WB M V R) (CmB w0 R) g X (qs.map Pnd.a) W (.returned (.tuple #[.slice none 0 0, .bool true])) W := fun hc =>
      cm_go (kb := 0) (ko := 0) (ks := []) h hq (fun q hq => by cases hq) (by simp [cntL]; omega) (by rw [← e3, ← cmp_eq, hc]; simp) (Below.refl _ _) (.inl ⟨none, 0, rfl, rfl⟩)
    have bad : p.t.cmp = false → StQ (CmI w0 MB WB M V R) (CmB w0 R) g X (qs.map Pnd.a) W (.returned (.tuple #[.slice none 0 0, .bool false])) W := fun hc =>
      cm_bad h (by rw [← e3, ← cmp_eq, hc]; simp) (Kx.refl _ _)
    cases hb : basK p.t.kind with
    | true =>
      refine (cl_pass (f := true) (R := fun a n c W' => a = none ∧ n = 0 ∧ c = 0 ∧ W' = W) h0 c8 ((cb_bas h0 hb).mono ?_)).mono ?_
      · rintro e W5 ⟨rfl, rfl⟩; exact ⟨none, 0, 0, rfl, rfl, rfl, rfl, rfl⟩
      · rintro e W5 ⟨a, n, c, rfl, rfl, rfl, rfl, rfl⟩; exact skip (by rw [cmp_eq, hb]; simp)
    | false =>
      by_cases c14 : p.t.kind = 14
      · have h0' := h0
        rw [c14] at h0'
        refine (cl_pass (f := true) (R := fun a n c W' => n = (kidA kb ko p.t.kids.length).length ∧ Below W.heap.size W W' ∧ W'.ownsRow W.heap.size 67 1 (.slice a n c) n ((kidA kb ko p.t.kids.length).map pv)) h0 c8 ((cb_14 h0' h6 hka (by omega)).mono ?_)).mono ?_
        · intro e W5 hq; obtain ⟨a, c, rfl, ho⟩ := hq.ex; exact ⟨a, _, c, rfl, rfl, hq.bl, ho⟩
        · rintro e W5 ⟨a, n, c, rfl, rfl, hbl, ho⟩
          exact cm_go h hq hkq (by omega) (by rw [cmpL_append, ← e3, hb, c14]; simp) hbl (cb_row ho (by rw [kidA_len]; omega))
      by_cases c9 : p.t.kind = 9
      · have hone := hps.hd.ptr (.inr (.inr (.inr c9)))
        obtain ⟨u, hu⟩ := List.length_eq_one_iff.1 hone
        have h0' := h0
        rw [c9] at h0'
        rw [hone] at h6 hka
        obtain rfl := hka (by omega)
        rw [hu] at hkq
        obtain ⟨hux, hul, hus⟩ := hkq ⟨kb, ko, u⟩ (by simp [kidP])
        have hul : u.lies X W kb ko := hul
        obtain ⟨u0, u1, u2, u3, wn, wm, wk, u4, u5, u6, upr⟩ := lies_iff.1 hul
        obtain ⟨bn, dn, bm, dm, bk, dk, rfl, rfl, rfl⟩ := upr.form
        have hcu := u.cnt_eq
        have hul2 := cntL_len u.kids
        rw [hu] at hcp
        simp only [cntL] at hcp
        have hcq : p.t.cmp = u.cmpU := by rw [cmp_eq, hb, c9, hu]; simp [cmpP]
        rw [cmpU_eq] at hcq
        by_cases c16 : u.kind = 16
        · rw [c16] at u0
          by_cases n1 : u.n = 1
          · rw [n1] at u2
            refine (cl_pass (f := true) (R := fun a n c W' => a = none ∧ n = 0 ∧ c = 0 ∧ W' = W) h0 c8 ((cb_9_any h0' h6 (by omega) u0 u2).mono ?_)).mono ?_
            · rintro e W5 ⟨rfl, rfl⟩; exact ⟨none, 0, 0, rfl, rfl, rfl, rfl, rfl⟩
            · rintro e W5 ⟨a, n, c, rfl, rfl, rfl, rfl, rfl⟩; exact skip (by rw [hcq, c16, n1]; simp)
          · obtain ⟨b2, o2, hka2, _, hkq2⟩ := kids_pnd upr.ks hus.kids
            refine (cl_pass (f := true) (R := fun a n c W' => n = (kidA b2 o2 u.kids.length).length ∧ Below W.heap.size W W' ∧ W'.ownsRow W.heap.size 67 1 (.slice a n c) n ((kidA b2 o2 u.kids.length).map pv)) h0 c8 ((cb_9_yes h0' h6 (by omega) u0 u2 n1 u6 hka2 (by omega)).mono ?_)).mono ?_
            · intro e W5 hq; obtain ⟨a, c, rfl, ho⟩ := hq.ex; exact ⟨a, _, c, rfl, rfl, hq.bl, ho⟩
            · rintro e W5 ⟨a, n, c, rfl, rfl, hbl, ho⟩
              exact cm_go h hq hkq2 (by omega) (by rw [cmpL_append, ← e3, ← cmp_eq, hcq, c16]; simp [n1]) hbl (cb_row ho (by rw [kidA_len]; omega))
        · refine (cl_pass (f := false) (R := fun a n c W' => a = none ∧ n = 0 ∧ c = 0 ∧ W' = W) h0 c8 ((cb_9_no h0' h6 (by omega) u0 c16).mono ?_)).mono ?_
          · rintro e W5 ⟨rfl, rfl⟩; exact ⟨none, 0, 0, rfl, rfl, rfl, rfl, rfl⟩
          · rintro e W5 ⟨a, n, c, rfl, rfl, rfl, rfl, rfl⟩; exact bad (by rw [hcq]; simp [c16])
      · refine (cl_pass (f := false) (R := fun a n c W' => a = none ∧ n = 0 ∧ c = 0 ∧ W' = W) h0 c8 ((cb_not h0 hb c14 c9).mono ?_)).mono ?_
        · rintro e W5 ⟨rfl, rfl⟩; exact ⟨none, 0, 0, rfl, rfl, rfl, rfl, rfl⟩
        · rintro e W5 ⟨a, n, c, rfl, rfl, rfl, rfl, rfl⟩; exact bad (by rw [cmp_eq, hb]; simp [c14, c9])
end
end Go.Proofs.Ytifcikhgbafegaa
/-
  Comparable of a World without declared types, the code's, walked.
-/
namespace Go.Proofs.Ytifcikhgbafegaa
open Go.RowKit
attribute [local go_sem ↓] Go.wp_at_zero Go.wp_at_succ
theorem run_mk {P : Program} (t : TypeId) (w : World) : (Instr.makeMap t none).run P w = .ok (.map (some w.heap.size)) (w.alloc (.map #[] 0)) := rfl
attribute [local go_sem ↓] run_mk
theorem enterC : ∀ args w, (callFunc 74 args).run Try.prog w = .ok (.enter 74 args) w := enters_of Try.func74 (by kernel_rfl) rfl
theorem cmpW {w0 W : World} {MB WB M V T0 fb fc : Nat} {t : Ty} (hbl : Below w0.heap.size w0 W) (hm : W.cell? ⟨MB, 0, none⟩ = some (.map (some M))) (hM : W.heap[M]? = some (.map #[] 0)) (hw : W.cell? ⟨WB, 0, none⟩ = some (.pointer (some ⟨V, 0, none⟩))) (hv : W.cell? ⟨V, 0, none⟩ = some (.map none)) (hge : w0.heap.size ≤ M) (hl : t.lies (fun b => b < W.heap.size) W T0 0) (hT : T0 < W.heap.size) (hs : Shp t) (hc : t.cnt ≤ 1000000) (hf : W.cell? ⟨fb, 0, none⟩ = some (pv ⟨T0, 0, none⟩)) :
    Calls Try.prog 55 #[.func (.func 74) #[] #[.pointer (some ⟨MB, 0, none⟩), .pointer (some ⟨WB, 0, none⟩)], .slice (some ⟨fb, 0, none⟩) 1 fc] W fun e w' => e = .returned (.bool t.cmp) ∧ Below w0.heap.size w0 w' := by
  have hsz := hbl.size
  have h0 : CmI w0 MB WB M V t.cmp t.cnt (fun b => b < W.heap.size) [⟨T0, 0, none⟩] W := by
    refine ⟨hbl, fun b hb => by show b < _; omega, fun _ h => h, hc, hm, hM, hw, hv, ⟨World.block_lt_of_cell? _ _ hm, (Array.getElem?_eq_some_iff.1 hM).1, World.block_lt_of_cell? _ _ hw, World.block_lt_of_cell? _ _ hv⟩, hge, [⟨T0, 0, t⟩], rfl, by simp [cntL], by simp [cmpL], fun p hp => ?_⟩
    obtain rfl := List.mem_singleton.1 hp
    exact ⟨hT, hl, hs⟩
  refine (walkP (I := CmI w0 MB WB M V t.cmp) (Bad := CmB w0 t.cmp) 74 #[.pointer (some ⟨MB, 0, none⟩), .pointer (some ⟨WB, 0, none⟩)] enterC (fun _ _ _ _ _ h hk => h.stable hk) (fun _ _ _ h hk => h.stable hk) (fun _ _ _ _ h => h.lt) (fun _ _ _ _ h => h.len) (fun g X x r W h => by simpa using h.call) t.cnt ⟨T0, 0, none⟩ fb 0 fc W hf h0).mono ?_
  rintro e w' (⟨rfl, g, X, h⟩ | ⟨rfl, X, h⟩)
  · obtain ⟨ps, e1, _, e3, _⟩ := h.ex
    obtain rfl : ps = [] := by simpa using e1
    exact ⟨by rw [← e3]; rfl, h.bl⟩
  · exact ⟨by rw [h.no], h.bl⟩
theorem six (w : World) (o0 o1 o2 o3 o4 o5 : Obj) : ((((((w.alloc o0).alloc o1).alloc o2).alloc o3).alloc o4).alloc o5).heap[w.heap.size]? = some o0 ∧ ((((((w.alloc o0).alloc o1).alloc o2).alloc o3).alloc o4).alloc o5).heap[w.heap.size + 1]? = some o1 ∧ ((((((w.alloc o0).alloc o1).alloc o2).alloc o3).alloc o4).alloc o5).heap[w.heap.size + 1 + 1]? = some o2 ∧ ((((((w.alloc o0).alloc o1).alloc o2).alloc o3).alloc o4).alloc o5).heap[w.heap.size + 1 + 1 + 1]? = some o3 ∧ ((((((w.alloc o0).alloc o1).alloc o2).alloc o3).alloc o4).alloc o5).heap[w.heap.size + 1 + 1 + 1 + 1]? = some o4 ∧ ((((((w.alloc o0).alloc o1).alloc o2).alloc o3).alloc o4).alloc o5).heap[w.heap.size + 1 + 1 + 1 + 1 + 1]? = some o5 := by
  have a0 : (w.alloc o0).heap[w.heap.size]? = some o0 := by
    have := heap_new w o0
    simpa only [World.size_alloc] using this
  have a1 : ((w.alloc o0).alloc o1).heap[w.heap.size + 1]? = some o1 := by
    have := heap_new (w.alloc o0) o1
    simpa only [World.size_alloc] using this
  have a2 : (((w.alloc o0).alloc o1).alloc o2).heap[w.heap.size + 1 + 1]? = some o2 := by
    have := heap_new ((w.alloc o0).alloc o1) o2
    simpa only [World.size_alloc] using this
  have a3 : ((((w.alloc o0).alloc o1).alloc o2).alloc o3).heap[w.heap.size + 1 + 1 + 1]? = some o3 := by
    have := heap_new (((w.alloc o0).alloc o1).alloc o2) o3
    simpa only [World.size_alloc] using this
  have a4 : (((((w.alloc o0).alloc o1).alloc o2).alloc o3).alloc o4).heap[w.heap.size + 1 + 1 + 1 + 1]? = some o4 := by
    have := heap_new ((((w.alloc o0).alloc o1).alloc o2).alloc o3) o4
    simpa only [World.size_alloc] using this
  have a5 : ((((((w.alloc o0).alloc o1).alloc o2).alloc o3).alloc o4).alloc o5).heap[w.heap.size + 1 + 1 + 1 + 1 + 1]? = some o5 := by
    have := heap_new (((((w.alloc o0).alloc o1).alloc o2).alloc o3).alloc o4) o5
    simpa only [World.size_alloc] using this
  exact ⟨(blk_kept (below_alloc _ o5) (blk_kept (below_alloc _ o4) (blk_kept (below_alloc _ o3) (blk_kept (below_alloc _ o2) (blk_kept (below_alloc _ o1) a0))))), (blk_kept (below_alloc _ o5) (blk_kept (below_alloc _ o4) (blk_kept (below_alloc _ o3) (blk_kept (below_alloc _ o2) a1)))), (blk_kept (below_alloc _ o5) (blk_kept (below_alloc _ o4) (blk_kept (below_alloc _ o3) a2))), (blk_kept (below_alloc _ o5) (blk_kept (below_alloc _ o4) a3)), (blk_kept (below_alloc _ o5) a4), a5⟩
set_option maxRecDepth 100000 in
set_option maxHeartbeats 4000000 in
theorem comp_none {B : BQ} {w : World} {t : Ty} {vn vm vk : Value} (hp : Prt B w t vn vm vk) (hs : Shp t) (hc : t.cnt ≤ 1000000) : Calls Try.prog 33 #[.pointer none, agT t vn vm vk] w fun e w' => e = .returned (.bool t.cmp) ∧ Below w.heap.size w w' := by
  obtain ⟨an, cn, am, cm, ak, ck, rfl, rfl, rfl⟩ := hp.form
  obtain ⟨b0, b1, b2, b3, b4, b5⟩ := six w (.cells #[.pointer (some ⟨w.heap.size + 1 + 1, 0, none⟩)] 39) (.cells #[.int .i64 t.kind, .string t.name, .int .i64 t.n, .bool t.flag, .slice an t.names.length cn, .slice am t.marks.length cm, .slice ak t.kids.length ck] 26) (.cells #[.map none] 101) (.map #[] 0) (.cells #[.map (some (w.heap.size + 1 + 1 + 1))] 112) (.cells #[pv ⟨w.heap.size + 1, 0, none⟩] 67)
  have hb : Below w.heap.size w ((((((w.alloc (.cells #[.pointer (some ⟨w.heap.size + 1 + 1, 0, none⟩)] 39)).alloc (.cells #[.int .i64 t.kind, .string t.name, .int .i64 t.n, .bool t.flag, .slice an t.names.length cn, .slice am t.marks.length cm, .slice ak t.kids.length ck] 26)).alloc (.cells #[.map none] 101)).alloc (.map #[] 0)).alloc (.cells #[.map (some (w.heap.size + 1 + 1 + 1))] 112)).alloc (.cells #[pv ⟨w.heap.size + 1, 0, none⟩] 67)) := bthen (bthen (bthen (bthen (bthen (below_alloc _ _) (below_alloc _ _)) (below_alloc _ _)) (below_alloc _ _)) (below_alloc _ _)) (below_alloc _ _)
  obtain ⟨c0, c1, c2, c3, c4, c5, c6⟩ := bx7 b1
  have hl : t.lies (fun b => b < ((((((w.alloc (.cells #[.pointer (some ⟨w.heap.size + 1 + 1, 0, none⟩)] 39)).alloc (.cells #[.int .i64 t.kind, .string t.name, .int .i64 t.n, .bool t.flag, .slice an t.names.length cn, .slice am t.marks.length cm, .slice ak t.kids.length ck] 26)).alloc (.cells #[.map none] 101)).alloc (.map #[] 0)).alloc (.cells #[.map (some (w.heap.size + 1 + 1 + 1))] 112)).alloc (.cells #[pv ⟨w.heap.size + 1, 0, none⟩] 67)).heap.size) ((((((w.alloc (.cells #[.pointer (some ⟨w.heap.size + 1 + 1, 0, none⟩)] 39)).alloc (.cells #[.int .i64 t.kind, .string t.name, .int .i64 t.n, .bool t.flag, .slice an t.names.length cn, .slice am t.marks.length cm, .slice ak t.kids.length ck] 26)).alloc (.cells #[.map none] 101)).alloc (.map #[] 0)).alloc (.cells #[.map (some (w.heap.size + 1 + 1 + 1))] 112)).alloc (.cells #[pv ⟨w.heap.size + 1, 0, none⟩] 67)) (w.heap.size + 1) 0 := lies_iff.2 ⟨c0, by simpa using c1, by simpa using c2, by simpa using c3, _, _, _, by simpa using c4, by simpa using c5, by simpa using c6, (hp.kept hb).with (fun b hb _ => hb)⟩
  have hwk := cmpW (w0 := w) (MB := w.heap.size + 1 + 1 + 1 + 1) (WB := w.heap.size) (M := w.heap.size + 1 + 1 + 1) (V := w.heap.size + 1 + 1) (T0 := w.heap.size + 1) (fb := w.heap.size + 1 + 1 + 1 + 1 + 1) (fc := 1) (t := t) hb (cell_of b4 0) b3 (cell_of b0 0) (cell_of b2 0) (by omega) hl (Array.getElem?_eq_some_iff.1 b1).1 hs hc (cell_of b5 0)
  clear b0 b1 b2 b3 b4 b5 c0 c1 c2 c3 c4 c5 c6 hl hb hp hs hc
  unfold agT
  go_enter Try.func33, Try.ntmps33
  go_wp2_with (first | (go_at_call 66; refine (ornone_any _).mono ?_; rintro e x1 ⟨rfl, rfl⟩) | (go_at_call 55; refine hwk.mono ?_; rintro e x2 ⟨rfl, hq⟩; have HQ : Hid (Below w.heap.size w x2) := hq; clear hq hwk))
  go_ret
  exact ⟨rfl, HQ.out⟩
end Go.Proofs.Ytifcikhgbafegaa
