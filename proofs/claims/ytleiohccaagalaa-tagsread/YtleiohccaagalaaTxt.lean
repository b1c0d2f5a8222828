/-
  The methods of parts: rank, text.
-/
import Derived.Test.YtleiohccaagalaaPrt
import Derived.Deep.RegionHeld3
namespace Go.Proofs.Ytleiohccaagalaa
open Go.RowKit
attribute [local go_sem ↓] Go.wp_at_zero Go.wp_at_succ
theorem mth_rank (p : Pt) : ∃ t x K x', Mth p "recast/tags.rank" t x K x' ∧ (match p with | .yes => K = 109 ∧ x' = .agg #[] | .tag s => K = 126 ∧ x' = .string (bs s) | .not q => K = 122 ∧ x' = .agg #[enc q] | .both l r => K = 118 ∧ x' = .agg #[enc l, enc r] | .either l r => K = 114 ∧ x' = .agg #[enc l, enc r]) := by
  cases p with
  | yes => exact ⟨_, _, _, _, ⟨rfl, fun _ => by kernel_rfl, fun _ _ => by kernel_rfl⟩, rfl, rfl⟩
  | tag s => exact ⟨_, _, _, _, ⟨rfl, fun _ => by kernel_rfl, fun _ _ => by kernel_rfl⟩, rfl, rfl⟩
  | not q => exact ⟨_, _, _, _, ⟨rfl, fun _ => by kernel_rfl, fun _ _ => by kernel_rfl⟩, rfl, rfl⟩
  | both l r => exact ⟨_, _, _, _, ⟨rfl, fun _ => by kernel_rfl, fun _ _ => by kernel_rfl⟩, rfl, rfl⟩
  | either l r => exact ⟨_, _, _, _, ⟨rfl, fun _ => by kernel_rfl, fun _ _ => by kernel_rfl⟩, rfl, rfl⟩
theorem mth_text (p : Pt) : ∃ t x K x', Mth p "recast/tags.text" t x K x' ∧ (match p with | .yes => K = 110 ∧ x' = .agg #[] | .tag s => K = 127 ∧ x' = .string (bs s) | .not q => K = 123 ∧ x' = .agg #[enc q] | .both l r => K = 119 ∧ x' = .agg #[enc l, enc r] | .either l r => K = 115 ∧ x' = .agg #[enc l, enc r]) := by
  cases p with
  | yes => exact ⟨_, _, _, _, ⟨rfl, fun _ => by kernel_rfl, fun _ _ => by kernel_rfl⟩, rfl, rfl⟩
  | tag s => exact ⟨_, _, _, _, ⟨rfl, fun _ => by kernel_rfl, fun _ _ => by kernel_rfl⟩, rfl, rfl⟩
  | not q => exact ⟨_, _, _, _, ⟨rfl, fun _ => by kernel_rfl, fun _ _ => by kernel_rfl⟩, rfl, rfl⟩
  | both l r => exact ⟨_, _, _, _, ⟨rfl, fun _ => by kernel_rfl, fun _ _ => by kernel_rfl⟩, rfl, rfl⟩
  | either l r => exact ⟨_, _, _, _, ⟨rfl, fun _ => by kernel_rfl, fun _ _ => by kernel_rfl⟩, rfl, rfl⟩
theorem rank_any (p : Pt) : ∃ t x K x', Mth p "recast/tags.rank" t x K x' ∧ ∀ w : World, Calls Try.prog K #[x'] w fun e w' => e = .returned (.int .i64 (p.rank : Nat)) ∧ Below w.heap.size w w' := by
  cases p with
  | yes =>
    obtain ⟨_, _, _, _, hm, rfl, rfl⟩ := mth_rank (.yes)
    refine ⟨_, _, _, _, hm, ?_⟩
    clear hm
    intro w
    go_enter Try.func109, Try.ntmps109
    go_wp2_with fail
    go_ret
    exact ⟨rfl, (Below.refl _ _).alloc (Nat.le_refl _) _⟩
  | tag s =>
    obtain ⟨_, _, _, _, hm, rfl, rfl⟩ := mth_rank (.tag s)
    refine ⟨_, _, _, _, hm, ?_⟩
    clear hm
    intro w
    go_enter Try.func126, Try.ntmps126
    go_wp2_with fail
    go_ret
    exact ⟨rfl, Below.refl _ _⟩
  | not q =>
    obtain ⟨_, _, _, _, hm, rfl, rfl⟩ := mth_rank (.not q)
    refine ⟨_, _, _, _, hm, ?_⟩
    clear hm
    intro w
    obtain ⟨tq, xq, eq⟩ := enc_if q
    rw [eq]
    clear eq
    go_enter Try.func122, Try.ntmps122
    go_wp2_with fail
    go_ret
    exact ⟨rfl, (Below.refl _ _).alloc (Nat.le_refl _) _⟩
  | both l r =>
    obtain ⟨_, _, _, _, hm, rfl, rfl⟩ := mth_rank (.both l r)
    refine ⟨_, _, _, _, hm, ?_⟩
    clear hm
    intro w
    obtain ⟨tl, xl, el⟩ := enc_if l
    rw [el]
    clear el
    obtain ⟨tr, xr, er⟩ := enc_if r
    rw [er]
    clear er
    go_enter Try.func118, Try.ntmps118
    go_wp2_with fail
    go_ret
    exact ⟨rfl, (Below.refl _ _).alloc (Nat.le_refl _) _⟩
  | either l r =>
    obtain ⟨_, _, _, _, hm, rfl, rfl⟩ := mth_rank (.either l r)
    refine ⟨_, _, _, _, hm, ?_⟩
    clear hm
    intro w
    obtain ⟨tl, xl, el⟩ := enc_if l
    rw [el]
    clear el
    obtain ⟨tr, xr, er⟩ := enc_if r
    rw [er]
    clear er
    go_enter Try.func114, Try.ntmps114
    go_wp2_with fail
    go_ret
    exact ⟨rfl, (Below.refl _ _).alloc (Nat.le_refl _) _⟩
/-- the contract of text at a part -/
def TxtC (p : Pt) : Prop := ∃ t x K x', Mth p "recast/tags.text" t x K x' ∧ ∀ w : World, Calls Try.prog K #[x'] w fun e w' => e = .returned (.string (bs p.text)) ∧ Below w.heap.size w w'
set_option maxRecDepth 100000 in
set_option maxHeartbeats 2000000 in
theorem within_of {p : Pt} (h : TxtC p) (hb : p.text.length ≤ 1000000) (k : Nat) (w : World) : Calls Try.prog 116 #[enc p, .int .i64 k] w fun e w' => e = .returned (.string (bs (p.brk k p.text))) ∧ Below w.heap.size w w' := by
  obtain ⟨t, x, K, y, hm, ht⟩ := h
  obtain ⟨t', x', Kr, yr, hmr, hr⟩ := rank_any p
  have he := hmr.e
  rw [hm.e] at he
  simp only [Value.iface.injEq] at he
  obtain ⟨rfl, rfl⟩ := he
  rw [hm.e]
  have mt := hm.m
  have ct := hm.c
  have mr := hmr.m
  have cr := hmr.c
  have HT : Hid _ := ht
  have HR : Hid _ := hr
  clear hm hmr ht hr
  unfold Pt.brk
  by_cases hk : p.rank < k
  · rw [if_pos hk]
    have k1 : ((p.rank : Nat) : Int) < (k : Int) := by omega
    have hz : (bs p.text).size ≤ 1000000 := by rw [bs_size]; exact hb
    have HE : Hid ((⟨#[40]⟩ : ByteArray) ++ bs p.text ++ ⟨#[41]⟩ = bs (40 :: (p.text ++ [41]))) := by
      show _ = _
      rw [show (⟨#[40]⟩ : ByteArray) = bs [40] from rfl, show (⟨#[41]⟩ : ByteArray) = bs [41] from rfl, bs_app, bs_app]; rfl
    rw [← HE.out]
    generalize bs p.text = T at *
    generalize p.rank = R at *
    clear hb hk
    go_enter Try.func116, Try.ntmps116
    go_wp2_with fail
    refine (HR.out _).mono ?_
    rintro e w1 ⟨rfl, hb1⟩
    have HB1 : Hid (Below w.heap.size w w1) := hb1
    have hz1 := hb1.size
    clear hb1
    go_wp2_with fail
    refine (HT.out _).mono ?_
    rintro e w2 ⟨rfl, hb2⟩
    have HB2 : Hid (Below w.heap.size w w2) := HB1.out.trans (hb2.mono hz1)
    clear hb2
    go_wp2_with fail
    go_ret
    exact ⟨rfl, HB2.out⟩
  · rw [if_neg hk]
    have k1 : ¬ ((p.rank : Nat) : Int) < (k : Int) := by omega
    generalize bs p.text = T at *
    generalize p.rank = R at *
    clear hb hk
    go_enter Try.func116, Try.ntmps116
    go_wp2_with fail
    refine (HR.out _).mono ?_
    rintro e w1 ⟨rfl, hb1⟩
    have HB1 : Hid (Below w.heap.size w w1) := hb1
    have hz1 := hb1.size
    clear hb1
    go_wp2_with fail
    refine (HT.out _).mono ?_
    rintro e w2 ⟨rfl, hb2⟩
    have HB2 : Hid (Below w.heap.size w w2) := HB1.out.trans (hb2.mono hz1)
    clear hb2
    go_wp2_with fail
    go_ret
    exact ⟨rfl, HB2.out⟩
theorem brk_le (p : Pt) (k : Nat) (s : Bs) : (p.brk k s).length ≤ s.length + 2 := by unfold Pt.brk; split <;> simp
set_option maxRecDepth 100000 in
set_option maxHeartbeats 2000000 in
theorem around_of {l r : Pt} (hl : TxtC l) (hr : TxtC r) (bl : l.text.length ≤ 1000000) (br : r.text.length ≤ 1000000) (sg : Bs) (hsg : sg.length ≤ 10) (k : Nat) (w : World) :
    Calls Try.prog 111 #[.agg #[enc l, enc r], .string (bs sg), .int .i64 k] w fun e w' => e = .returned (.string (bs (l.brk k l.text ++ 32 :: (sg ++ 32 :: r.brk k r.text)))) ∧ Below w.heap.size w w' := by
  have h1 := fun W => within_of hl bl k W
  have h2 := fun W => within_of hr br k W
  have z1 : (bs (l.brk k l.text)).size ≤ 1000002 := by rw [bs_size]; have := brk_le l k l.text; omega
  have z2 : (bs (r.brk k r.text)).size ≤ 1000002 := by rw [bs_size]; have := brk_le r k r.text; omega
  have z3 : (bs sg).size ≤ 10 := by rw [bs_size]; exact hsg
  have HE : Hid (bs (l.brk k l.text) ++ ⟨#[32]⟩ ++ bs sg ++ ⟨#[32]⟩ ++ bs (r.brk k r.text) = bs (l.brk k l.text ++ 32 :: (sg ++ 32 :: r.brk k r.text))) := by
    show _ = _
    rw [show (⟨#[32]⟩ : ByteArray) = bs [32] from rfl, bs_app, bs_app, bs_app, bs_app]
    simp
  rw [← HE.out]
  obtain ⟨tl, xl, el⟩ := enc_if l
  obtain ⟨tr, xr, er⟩ := enc_if r
  rw [el] at h1 ⊢
  rw [er] at h2 ⊢
  have H1 : Hid _ := h1
  have H2 : Hid _ := h2
  clear el er h1 h2 bl br hsg hl hr HE
  generalize bs (l.brk k l.text) = L at *
  generalize bs (r.brk k r.text) = R at *
  generalize bs sg = S at *
  have q1 : ¬ 9223372036854775807 < L.size + 1 := by omega
  have q2 : ¬ 9223372036854775807 < L.size + 1 + S.size := by omega
  have q3 : ¬ 9223372036854775807 < L.size + 1 + S.size + 1 := by omega
  have q4 : ¬ 9223372036854775807 < L.size + 1 + S.size + 1 + R.size := by omega
  go_enter Try.func111, Try.ntmps111
  go_wp2_with fail
  have c0 := cell_new21 w (.iface tl xl) (.iface tr xr) 80
  have c1 := cell_new2 w (.iface tl xl) (.iface tr xr) 80
  have hb0 : Below w.heap.size w (w.alloc (.cells #[.iface tl xl, .iface tr xr] 80)) := (Below.refl _ _).alloc (Nat.le_refl _) _
  generalize w.alloc (.cells #[.iface tl xl, .iface tr xr] 80) = W0 at *
  have HB0 : Hid (Below w.heap.size w W0) := hb0
  have hz0 := hb0.size
  have kS : W0.cell? ⟨w.heap.size, 0, none⟩ = some (.iface tl xl) ∧ W0.cell? ⟨w.heap.size, 1, none⟩ = some (.iface tr xr) := ⟨c0, c1⟩
  clear hb0
  go_region_held3 (fun w' => w'.cell? ⟨w.heap.size, 0, none⟩ = some (.iface tl xl) ∧ w'.cell? ⟨w.heap.size, 1, none⟩ = some (.iface tr xr))
    (first | exact kS | go_keep)
    (first
      | (go_at_call_of 116 (Value.iface tl xl); refine (H1.out _).mono ?_; rintro e w1 ⟨rfl, hb1⟩; have kS : w1.cell? ⟨w.heap.size, 0, none⟩ = some (.iface tl xl) ∧ w1.cell? ⟨w.heap.size, 1, none⟩ = some (.iface tr xr) := ⟨kept_cell hb1 c0, kept_cell hb1 c1⟩; have c0 := kS.1; have c1 := kS.2; have HB1 : Hid (Below w.heap.size w w1) := HB0.out.drew.trans (hb1.mono hz0); have hz1 := HB1.out.size; clear hb1)
      | (go_at_call_of 116 (Value.iface tr xr); refine (H2.out _).mono ?_; rintro e w2 ⟨rfl, hb2⟩; have kS : w2.cell? ⟨w.heap.size, 0, none⟩ = some (.iface tl xl) ∧ w2.cell? ⟨w.heap.size, 1, none⟩ = some (.iface tr xr) := ⟨kept_cell hb2 c0, kept_cell hb2 c1⟩; have c0 := kS.1; have c1 := kS.2; have HB2 : Hid (Below w.heap.size w w2) := HB1.out.trans (hb2.mono hz1); have hz2 := HB2.out.size; clear hb2))
  all_goals
    go_wp2_with fail
    go_ret
    exact ⟨rfl, HB2.out⟩
theorem rk_not (a b : TypeId) (x y : Value) (w : World) : Calls Try.prog 122 #[.agg #[.iface a x]] w fun e w' => e = .returned (.int .i64 2) ∧ Below w.heap.size w w' := by
  have _u := And.intro (Eq.refl b) (Eq.refl y)
  clear _u
  go_enter Try.func122, Try.ntmps122
  go_wp2_with fail
  go_ret
  exact ⟨rfl, (Below.refl _ _).alloc (Nat.le_refl _) _⟩
theorem rk_both (a b : TypeId) (x y : Value) (w : World) : Calls Try.prog 118 #[.agg #[.iface a x, .iface b y]] w fun e w' => e = .returned (.int .i64 1) ∧ Below w.heap.size w w' := by
  have _u := And.intro (Eq.refl b) (Eq.refl y)
  clear _u
  go_enter Try.func118, Try.ntmps118
  go_wp2_with fail
  go_ret
  exact ⟨rfl, (Below.refl _ _).alloc (Nat.le_refl _) _⟩
theorem rk_either (a b : TypeId) (x y : Value) (w : World) : Calls Try.prog 114 #[.agg #[.iface a x, .iface b y]] w fun e w' => e = .returned (.int .i64 0) ∧ Below w.heap.size w w' := by
  have _u := And.intro (Eq.refl b) (Eq.refl y)
  clear _u
  go_enter Try.func114, Try.ntmps114
  go_wp2_with fail
  go_ret
  exact ⟨rfl, (Below.refl _ _).alloc (Nat.le_refl _) _⟩
theorem text_sub (p : Pt) : p.text.length ≤ (Pt.not p).text.length := by simp only [Pt.text, Pt.brk]; split <;> simp <;> omega
theorem text_l (l r : Pt) : l.text.length ≤ (Pt.both l r).text.length ∧ r.text.length ≤ (Pt.both l r).text.length := by simp only [Pt.text, Pt.brk]; constructor <;> (repeat' split) <;> simp <;> omega
theorem text_e (l r : Pt) : l.text.length ≤ (Pt.either l r).text.length ∧ r.text.length ≤ (Pt.either l r).text.length := by simp only [Pt.text, Pt.brk]; constructor <;> (repeat' split) <;> simp <;> omega
set_option maxRecDepth 100000 in
set_option maxHeartbeats 4000000 in
theorem text_any (p : Pt) (hp : p.text.length ≤ 1000000) : TxtC p := by
  induction p with
  | yes =>
    obtain ⟨_, _, _, _, hm, rfl, rfl⟩ := mth_text .yes
    refine ⟨_, _, _, _, hm, ?_⟩
    clear hm
    intro w
    rw [show bs Pt.yes.text = ⟨#[116, 114, 117, 101]⟩ from rfl]
    go_enter Try.func110, Try.ntmps110
    go_wp2_with fail
    go_ret
    exact ⟨rfl, (Below.refl _ _).alloc (Nat.le_refl _) _⟩
  | tag s =>
    obtain ⟨_, _, _, _, hm, rfl, rfl⟩ := mth_text (.tag s)
    refine ⟨_, _, _, _, hm, ?_⟩
    clear hm
    intro w
    rw [show Pt.text (.tag s) = s from rfl]
    go_enter Try.func127, Try.ntmps127
    go_wp2_with fail
    go_ret
    exact ⟨rfl, Below.refl _ _⟩
  | not q ih =>
    have hq : q.text.length ≤ 1000000 := Nat.le_trans (text_sub q) hp
    have h1 := fun W => within_of (ih hq) hq 2 W
    obtain ⟨_, _, _, _, hm, rfl, rfl⟩ := mth_text (.not q)
    refine ⟨_, _, _, _, hm, ?_⟩
    clear hm
    intro w
    have z1 : (bs (q.brk 2 q.text)).size ≤ 1000002 := by rw [bs_size]; have := brk_le q 2 q.text; omega
    have HE : Hid ((⟨#[33]⟩ : ByteArray) ++ bs (q.brk 2 q.text) = bs (Pt.not q).text) := by
      show _ = _
      rw [show (⟨#[33]⟩ : ByteArray) = bs [33] from rfl, bs_app]; rfl
    rw [← HE.out]
    obtain ⟨tq, xq, eq⟩ := enc_if q
    rw [eq] at h1 ⊢
    have hrk := rk_not tq 0 xq .nilIface
    have H1 : Hid _ := h1
    have HRK : Hid _ := hrk
    clear h1 hrk eq HE ih hq hp
    generalize bs (q.brk 2 q.text) = Q at *
    have q1 : ¬ 9223372036854775807 < 1 + Q.size := by omega
    go_enter Try.func123, Try.ntmps123
    go_wp2_with fail
    have c0 := cell_new w (.iface tq xq) 106
    have hb0 : Below w.heap.size w (w.alloc (.cells #[.iface tq xq] 106)) := (Below.refl _ _).alloc (Nat.le_refl _) _
    generalize w.alloc (.cells #[.iface tq xq] 106) = W0 at *
    have HB0 : Hid (Below w.heap.size w W0) := hb0
    have hz0 := hb0.size
    have kS : W0.cell? ⟨w.heap.size, 0, none⟩ = some (.iface tq xq) := c0
    clear hb0
    go_region_held3 (fun w' => w'.cell? ⟨w.heap.size, 0, none⟩ = some (.iface tq xq))
      (first | exact kS | go_keep)
      (first
        | (go_at_call 122; refine (HRK.out _).mono ?_; rintro e w1 ⟨rfl, hb1⟩; have kS : w1.cell? ⟨w.heap.size, 0, none⟩ = some (.iface tq xq) := kept_cell hb1 c0; have c0 := kS; have HB1 : Hid (Below w.heap.size w w1) := HB0.out.drew.trans (hb1.mono hz0); have hz1 := HB1.out.size; clear hb1)
        | (go_at_call 116; refine (H1.out _).mono ?_; rintro e w2 ⟨rfl, hb2⟩; have kS : w2.cell? ⟨w.heap.size, 0, none⟩ = some (.iface tq xq) := kept_cell hb2 c0; have c0 := kS; have HB2 : Hid (Below w.heap.size w w2) := HB1.out.trans (hb2.mono hz1); have hz2 := HB2.out.size; clear hb2))
    all_goals
      go_wp2_with fail
      go_ret
      exact ⟨rfl, HB2.out⟩
  | both l r ihl ihr =>
    have hl : l.text.length ≤ 1000000 := Nat.le_trans (text_l l r).1 hp
    have hr : r.text.length ≤ 1000000 := Nat.le_trans (text_l l r).2 hp
    have h1 := fun W => around_of (ihl hl) (ihr hr) hl hr sAnd (by decide) 1 W
    rw [show l.brk 1 l.text ++ 32 :: (sAnd ++ 32 :: r.brk 1 r.text) = (Pt.both l r).text from rfl, show bs sAnd = ⟨#[38, 38]⟩ from rfl] at h1
    obtain ⟨_, _, _, _, hm, rfl, rfl⟩ := mth_text (.both l r)
    refine ⟨_, _, _, _, hm, ?_⟩
    clear hm
    intro w
    obtain ⟨tl, xl, el⟩ := enc_if l
    obtain ⟨tr, xr, er⟩ := enc_if r
    rw [el, er] at h1 ⊢
    have hrk := rk_both tl tr xl xr
    have H1 : Hid _ := h1
    have HRK : Hid _ := hrk
    clear h1 hrk el er ihl ihr hl hr hp
    generalize bs (Pt.both l r).text = Q at *
    go_enter Try.func119, Try.ntmps119
    go_wp2_with fail
    have c0 := cell_new21 w (.iface tl xl) (.iface tr xr) 90
    have c1 := cell_new2 w (.iface tl xl) (.iface tr xr) 90
    have hb0 : Below w.heap.size w (w.alloc (.cells #[.iface tl xl, .iface tr xr] 90)) := (Below.refl _ _).alloc (Nat.le_refl _) _
    generalize w.alloc (.cells #[.iface tl xl, .iface tr xr] 90) = W0 at *
    have HB0 : Hid (Below w.heap.size w W0) := hb0
    have hz0 := hb0.size
    have kS : W0.cell? ⟨w.heap.size, 0, none⟩ = some (.iface tl xl) ∧ W0.cell? ⟨w.heap.size, 1, none⟩ = some (.iface tr xr) := ⟨c0, c1⟩
    clear hb0
    go_region_held3 (fun w' => w'.cell? ⟨w.heap.size, 0, none⟩ = some (.iface tl xl) ∧ w'.cell? ⟨w.heap.size, 1, none⟩ = some (.iface tr xr))
      (first | exact kS | go_keep)
      (first
        | (go_at_call 118; refine (HRK.out _).mono ?_; rintro e w1 ⟨rfl, hb1⟩; have kS : w1.cell? ⟨w.heap.size, 0, none⟩ = some (.iface tl xl) ∧ w1.cell? ⟨w.heap.size, 1, none⟩ = some (.iface tr xr) := ⟨kept_cell hb1 c0, kept_cell hb1 c1⟩; have c0 := kS.1; have c1 := kS.2; have HB1 : Hid (Below w.heap.size w w1) := HB0.out.drew.trans (hb1.mono hz0); have hz1 := HB1.out.size; clear hb1)
        | (go_at_call 111; refine (H1.out _).mono ?_; rintro e w2 ⟨rfl, hb2⟩; have kS : w2.cell? ⟨w.heap.size, 0, none⟩ = some (.iface tl xl) ∧ w2.cell? ⟨w.heap.size, 1, none⟩ = some (.iface tr xr) := ⟨kept_cell hb2 c0, kept_cell hb2 c1⟩; have c0 := kS.1; have c1 := kS.2; have HB2 : Hid (Below w.heap.size w w2) := HB1.out.trans (hb2.mono hz1); have hz2 := HB2.out.size; clear hb2))
    all_goals
      go_wp2_with fail
      go_ret
      exact ⟨rfl, HB2.out⟩
  | either l r ihl ihr =>
    have hl : l.text.length ≤ 1000000 := Nat.le_trans (text_e l r).1 hp
    have hr : r.text.length ≤ 1000000 := Nat.le_trans (text_e l r).2 hp
    have h1 := fun W => around_of (ihl hl) (ihr hr) hl hr sOr (by decide) 0 W
    rw [show l.brk 0 l.text ++ 32 :: (sOr ++ 32 :: r.brk 0 r.text) = (Pt.either l r).text from rfl, show bs sOr = ⟨#[124, 124]⟩ from rfl] at h1
    obtain ⟨_, _, _, _, hm, rfl, rfl⟩ := mth_text (.either l r)
    refine ⟨_, _, _, _, hm, ?_⟩
    clear hm
    intro w
    obtain ⟨tl, xl, el⟩ := enc_if l
    obtain ⟨tr, xr, er⟩ := enc_if r
    rw [el, er] at h1 ⊢
    have hrk := rk_either tl tr xl xr
    have H1 : Hid _ := h1
    have HRK : Hid _ := hrk
    clear h1 hrk el er ihl ihr hl hr hp
    generalize bs (Pt.either l r).text = Q at *
    go_enter Try.func115, Try.ntmps115
    go_wp2_with fail
    have c0 := cell_new21 w (.iface tl xl) (.iface tr xr) 82
    have c1 := cell_new2 w (.iface tl xl) (.iface tr xr) 82
    have hb0 : Below w.heap.size w (w.alloc (.cells #[.iface tl xl, .iface tr xr] 82)) := (Below.refl _ _).alloc (Nat.le_refl _) _
    generalize w.alloc (.cells #[.iface tl xl, .iface tr xr] 82) = W0 at *
    have HB0 : Hid (Below w.heap.size w W0) := hb0
    have hz0 := hb0.size
    have kS : W0.cell? ⟨w.heap.size, 0, none⟩ = some (.iface tl xl) ∧ W0.cell? ⟨w.heap.size, 1, none⟩ = some (.iface tr xr) := ⟨c0, c1⟩
    clear hb0
    go_region_held3 (fun w' => w'.cell? ⟨w.heap.size, 0, none⟩ = some (.iface tl xl) ∧ w'.cell? ⟨w.heap.size, 1, none⟩ = some (.iface tr xr))
      (first | exact kS | go_keep)
      (first
        | (go_at_call 114; refine (HRK.out _).mono ?_; rintro e w1 ⟨rfl, hb1⟩; have kS : w1.cell? ⟨w.heap.size, 0, none⟩ = some (.iface tl xl) ∧ w1.cell? ⟨w.heap.size, 1, none⟩ = some (.iface tr xr) := ⟨kept_cell hb1 c0, kept_cell hb1 c1⟩; have c0 := kS.1; have c1 := kS.2; have HB1 : Hid (Below w.heap.size w w1) := HB0.out.drew.trans (hb1.mono hz0); have hz1 := HB1.out.size; clear hb1)
        | (go_at_call 111; refine (H1.out _).mono ?_; rintro e w2 ⟨rfl, hb2⟩; have kS : w2.cell? ⟨w.heap.size, 0, none⟩ = some (.iface tl xl) ∧ w2.cell? ⟨w.heap.size, 1, none⟩ = some (.iface tr xr) := ⟨kept_cell hb2 c0, kept_cell hb2 c1⟩; have c0 := kS.1; have c1 := kS.2; have HB2 : Hid (Below w.heap.size w w2) := HB1.out.trans (hb2.mono hz1); have hz2 := HB2.out.size; clear hb2))
    all_goals
      go_wp2_with fail
      go_ret
      exact ⟨rfl, HB2.out⟩
end Go.Proofs.Ytleiohccaagalaa
