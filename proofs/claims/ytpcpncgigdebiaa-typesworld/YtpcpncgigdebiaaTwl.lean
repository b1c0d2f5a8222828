/-
  The law TypesWorld, walked.
-/
import Derived.Test.YtpcpncgigdebiaaJaN
namespace Go.Proofs.Ytpcpncgigdebiaa
open Go.RowKit
attribute [local go_sem ↓] Go.wp_at_zero Go.wp_at_succ
/-- a row of one declared type -/
theorem one_nmd {W : World} {A : Nat} {u : Nmd} {a1 a2 a3 a4 : Option Addr} {c1 c2 c3 c4 : Nat} (h : W.heap[A]? = some (.cells #[.string u.name, .int .i64 u.under.kind, .string u.under.name, .int .i64 u.under.n, .bool u.under.flag, .slice a1 u.under.names.length c1, .slice a2 u.under.marks.length c2, .slice a3 u.under.kids.length c3, .slice a4 u.mths.length c4] 40 (0, 0))) (hn : NmP (fun _ => True) W u (.slice a1 u.under.names.length c1) (.slice a2 u.under.marks.length c2) (.slice a3 u.under.kids.length c3) (.slice a4 u.mths.length c4)) : SlN (fun _ => True) W (.slice (some ⟨A, 0, none⟩) 1 1) [u] := by
  obtain ⟨g0, g1, g2, g3, g4, g5, g6, g7, g8⟩ := bx9 h
  refine .inr ⟨A, 0, 1, rfl, by simp, (Array.getElem?_eq_some_iff.1 h).1, trivial, fun i hi => ?_⟩
  have hi0 : i = 0 := by simp at hi; omega
  subst hi0
  exact ⟨g0, lies_iff.2 ⟨g1, g2, g3, g4, _, _, _, g5, g6, g7, hn.un⟩, _, g8, hn.ms⟩
set_option maxRecDepth 100000 in
set_option maxHeartbeats 16000000 in
theorem typesWorld_any {W : World} {a : Option Addr} {n c : Nat} {l : List Nmd} {t : Ty} {vn vm vk : Value} (hAW : ∀ w, Calls Try.prog 6 #[] w fun e w' => e = .returned (.bool true) ∧ Below w.heap.size w w') (hs : SlN (fun b => b < W.heap.size) W (.slice a n c) l) (hi : ∀ u ∈ l, InN u) (hf : ∀ u ∈ l, InF u) (hp : Prt (fun b => b < W.heap.size) W t vn vm vk) (hz : t.nsz = true) (hft : Fit t) :
    Calls Try.prog 3 #[.slice a n c, agT t vn vm vk] W fun e w' => e = .returned (.bool true) ∧ Below W.heap.size W w' := by
  obtain ⟨an, cn, am, cm, ak, ck, rfl, rfl, rfl⟩ := hp.form
  obtain ⟨a', c', e, hlen, _⟩ := hs.open
  obtain ⟨rfl, rfl, rfl⟩ : a = a' ∧ n = l.length ∧ c = c' := by simpa using e
  clear e
  obtain ⟨W0, hW0⟩ : ∃ W0, W0 = W.alloc (.cells #[.int .i64 t.kind, .string t.name, .int .i64 t.n, .bool t.flag, .slice an t.names.length cn, .slice am t.marks.length cm, .slice ak t.kids.length ck] 27) := ⟨_, rfl⟩
  have hb0 : Below W.heap.size W W0 := by rw [hW0]; exact below_alloc _ _
  have HB0 : Hid (Below W.heap.size W W0) := hb0
  have HBX : Hid (W0.heap[W.heap.size]? = some (.cells #[.int .i64 t.kind, .string t.name, .int .i64 t.n, .bool t.flag, .slice an t.names.length cn, .slice am t.marks.length cm, .slice ak t.kids.length ck] 27 (0, 0))) := by rw [hW0]; exact heap_new _ _
  have HS : Hid (SlN (fun b => b < W.heap.size) W (.slice a l.length c) l) := hs
  have HP : Hid (Prt (fun b => b < W.heap.size) W t (.slice an t.names.length cn) (.slice am t.marks.length cm) (.slice ak t.kids.length ck)) := hp
  have HIN : Hid ((∀ u ∈ l, InN u) ∧ (∀ u ∈ l, InF u) ∧ t.nsz = true ∧ Fit t) := ⟨hi, hf, hz, hft⟩
  have HAW : Hid (∀ w, Calls Try.prog 6 #[] w fun e w' => e = .returned (.bool true) ∧ Below w.heap.size w w') := hAW
  have hwd := world_any (hs.kept hb0)
  have HIA : Hid (∀ W1, Below W.heap.size W W1 → Calls Try.prog 5 #[.slice (some ⟨W1.heap.size, 0, none⟩) 1 1] (W1.alloc (.cells #[.int .i64 t.kind, .string t.name, .int .i64 t.n, .bool t.flag, .slice an t.names.length cn, .slice am t.marks.length cm, .slice ak t.kids.length ck] 27)) (ShQ (W1.alloc (.cells #[.int .i64 t.kind, .string t.name, .int .i64 t.n, .bool t.flag, .slice an t.names.length cn, .slice am t.marks.length cm, .slice ak t.kids.length ck] 27)) (t.cnt ≤ 120))) := fun W1 hb => by
    have hb2 := bthen hb (below_alloc W1 (.cells #[.int .i64 t.kind, .string t.name, .int .i64 t.n, .bool t.flag, .slice an t.names.length cn, .slice am t.marks.length cm, .slice ak t.kids.length ck] 27))
    have hpr := (hp.with (B' := fun _ => True) (fun _ _ _ => trivial)).kept hb2
    have hnb := heap_new W1 (.cells #[.int .i64 t.kind, .string t.name, .int .i64 t.n, .bool t.flag, .slice an t.names.length cn, .slice am t.marks.length cm, .slice ak t.kids.length ck] 27)
    obtain ⟨y0, y1, y2, y3, y4, y5, y6⟩ := bx7 hnb
    have hsl : SlT (fun _ => True) (W1.alloc (.cells #[.int .i64 t.kind, .string t.name, .int .i64 t.n, .bool t.flag, .slice an t.names.length cn, .slice am t.marks.length cm, .slice ak t.kids.length ck] 27)) (.slice (some ⟨W1.heap.size, 0, none⟩) 1 1) [t] :=
      .inr ⟨W1.heap.size, 0, 1, rfl, by simp, by simp, trivial, liesT_of fun i hi => by
        have hi0 : i = 0 := by simp at hi; omega
        subst hi0
        exact lies_iff.2 ⟨y0, y1, y2, y3, _, _, _, y4, y5, y6, hpr⟩⟩
    exact (in_any hsl).mono fun e w' hq => by
      obtain ⟨q, rfl, h⟩ := hq.ex
      exact ⟨hq.bl, q, rfl, fun h1 => tsz_c (h h1 t (by simp)).1⟩
  clear hAW hs hi hf hp hz hft hb0
  subst hW0
  unfold agT
  go_enter Try.func3, Try.ntmps3
  go_wp2_with fail
  generalize W.alloc (.cells #[.int .i64 t.kind, .string t.name, .int .i64 t.n, .bool t.flag, .slice an t.names.length cn, .slice am t.marks.length cm, .slice ak t.kids.length ck] 27) = W0 at *
  refine hwd.mono ?_
  intro e w1 hq
  obtain ⟨q, rfl, hq1⟩ := hq.ex
  have HB1 : Hid (Below W.heap.size W w1) := bthen HB0.out hq.bl
  have HQ1 : Hid (q = true → l.length ≤ 120 ∧ ∀ u ∈ l, OkN u) := hq1
  have HX1 : Hid (w1.heap[W.heap.size]? = some (.cells #[.int .i64 t.kind, .string t.name, .int .i64 t.n, .bool t.flag, .slice an t.names.length cn, .slice am t.marks.length cm, .slice ak t.kids.length ck] 27 (0, 0))) := blk_kept hq.bl HBX.out
  have haw1 := HAW.out w1
  clear hq hq1 hwd HBX
  cases q with
  | false =>
    go_wp2_with (go_at_call 6; refine haw1.mono ?_; rintro e w2 ⟨rfl, hb2⟩; have HB2 : Hid (Below W.heap.size W w2) := bthen HB1.out hb2; clear hb2 haw1)
    go_ret
    exact ⟨rfl, HB2.out⟩
  | true =>
    obtain ⟨y0, y1, y2, y3, y4, y5, y6⟩ := bx7 HX1.out
    have hia := HIA.out w1 HB1.out
    go_wp2_with (go_at_call 5; refine hia.mono ?_; intro e w2 hq; obtain ⟨q2, rfl, hq2⟩ := hq.ex; have HB12 : Hid (Below w1.heap.size w1 w2) := bthen (below_alloc _ _) hq.bl; have HQ2 : Hid (q2 = true → t.cnt ≤ 120) := hq2; clear hq hq2 hia; cases q2)
    · have haw2 := HAW.out w2
      go_wp2_with (go_at_call 6; refine haw2.mono ?_; rintro e w3 ⟨rfl, hb3⟩; have HB3 : Hid (Below W.heap.size W w3) := bthen HB1.out (bthen HB12.out hb3); clear hb3 haw2)
      go_ret
      exact ⟨rfl, HB3.out⟩
    · have HB2 : Hid (Below W.heap.size W w2) := bthen HB1.out HB12.out
      have HX2 : Hid (w2.heap[W.heap.size]? = some (.cells #[.int .i64 t.kind, .string t.name, .int .i64 t.n, .bool t.flag, .slice an t.names.length cn, .slice am t.marks.length cm, .slice ak t.kids.length ck] 27 (0, 0))) := blk_kept HB12.out HX1.out
      have HL : Hid (LkW l) := LkW.of (HQ1.out (by first | trivial | rfl)) HIN.out.1 HIN.out.2.1
      have HCT : Hid (t.cnt ≤ 120) := HQ2.out (by first | trivial | rfl)
      have hnw := new_any (HS.out.kept HB2.out) HL.out.nm HL.out.ft (by have := HL.out.len; omega) HL.out.uc
      clear HB12 HX1 HIA HB0 HQ1 HQ2 haw1 y0 y1 y2 y3 y4 y5 y6
      go_wp2_with (go_at_call 7; refine hnw.mono ?_; intro e w3 hq; have HB3 : Hid (Below W.heap.size W w3) := bthen HB2.out hq.bl; have HX3 : Hid (w3.heap[W.heap.size]? = _) := blk_kept hq.bl HX2.out; have hrn := rnew_any (HS.out.to (X := fun _ => False) (Kx.of_whole HB3.out) (fun b h _ => Nat.lt_of_lt_of_le h HB3.out.size) (fun _ _ _ h => h)) (by have := HL.out.len; omega); rcases new_both hq with ⟨ec, hec, rfl, hrq⟩ | ⟨hnd, hnc, ⟨V, b0, n0, rfl, hcv, htb⟩, hrq⟩)
      · have hrn2 : Calls Try.prog 8 #[.slice a l.length c] w3 fun e w' => e = .returned (.tuple #[.pointer none, .int .i64 ec]) ∧ Below w3.heap.size w3 w' := hrn.mono fun e w' hq => ⟨hrq _ _ _ hq, hq.bl⟩
        clear hrn hrq hq hnw
        rcases hec with rfl | rfl
        all_goals
          go_wp2_with (first
            | (go_at_call 8; refine hrn2.mono ?_; rintro e w4 ⟨rfl, hb4⟩; have HB4 : Hid (Below W.heap.size W w4) := bthen HB3.out hb4; have haw4 := HAW.out w4; clear hb4 hrn2)
            | (go_at_call 6; refine haw4.mono ?_; rintro e w5 ⟨rfl, hb5⟩; have HB5 : Hid (Below W.heap.size W w5) := bthen HB4.out hb5; clear hb5 haw4))
          go_ret
          exact ⟨rfl, HB5.out⟩
      · have hrn2 : Calls Try.prog 8 #[.slice a l.length c] w3 fun e w' => ∃ V, e = .returned (.tuple #[.pointer (some ⟨V, 0, none⟩), .int .i64 0]) ∧ W8S (fun _ => True) w' V l ∧ Below w3.heap.size w3 w' := hrn.mono fun e w' hq => by
          obtain ⟨V', h1, h2⟩ := hrq _ _ _ hq
          exact ⟨V', h1, h2, hq.bl⟩
        have HND : Hid ((l.map Nmd.name).Nodup ∧ ¬ ∃ a ∈ l.map Nmd.name, Rch (Hf l) a a) := ⟨hnd, hnc⟩
        have HT3 : Hid (w3.cell? ⟨V, 0, none⟩ = some (.map (some b0)) ∧ TbS (fun b => w2.heap.size ≤ b) w3 b0 n0 l) := ⟨hcv, htb⟩
        clear hrn hrq hq hnw hnd hnc hcv htb
        go_wp2_with (go_at_call 8; refine hrn2.mono ?_; rintro e w4 ⟨U, rfl, hw8, hb4⟩; have HB4 : Hid (Below W.heap.size W w4) := bthen HB3.out hb4; have HT4 : Hid (w4.cell? ⟨V, 0, none⟩ = some (.map (some b0)) ∧ TbS (fun b => w2.heap.size ≤ b) w4 b0 n0 l) := ⟨kept_cell hb4 HT3.out.1, HT3.out.2.kept hb4⟩; have HU4 : Hid (W8S (fun _ => True) w4 U l) := hw8; have HX4 : Hid (w4.heap[W.heap.size]? = _) := blk_kept hb4 HX3.out; clear hb4 hw8 hrn2)
        go_loopg [9] l.length (fun g u9 wr => ∃ (i : Nat), i ≤ l.length ∧ l.length - i ≤ g ∧ u9 = .int .i64 i ∧ Hid (Below w4.heap.size w4 wr))
        case atStart => exact ⟨0, Nat.zero_le _, Nat.le_refl _, rfl, Below.refl _ _⟩
        case round =>
          obtain ⟨i, hi, hg, rfl, HX⟩ := hrel
          have HBR : Hid (Below W.heap.size W wr) := bthen HB4.out HX.out
          have HTR : Hid (wr.cell? ⟨V, 0, none⟩ = some (.map (some b0)) ∧ TbS (fun b => w2.heap.size ≤ b) wr b0 n0 l) := ⟨kept_cell HX.out HT4.out.1, HT4.out.2.kept HX.out⟩
          have HUR : Hid (W8S (fun _ => True) wr U l) := HU4.out.kept HX.out
          have HXR : Hid (wr.heap[W.heap.size]? = some (.cells #[.int .i64 t.kind, .string t.name, .int .i64 t.n, .bool t.flag, .slice an t.names.length cn, .slice am t.marks.length cm, .slice ak t.kids.length ck] 27 (0, 0))) := blk_kept HX.out HX4.out
          by_cases hlt : i < l.length
          · have z1 : (i : Int) < (l.length : Int) := by omega
            have z0 : (0 : Int) ≤ (i : Int) := by omega
            obtain ⟨a', c', e, _, hx⟩ := (HS.out.kept HBR.out).open
            obtain ⟨rfl, rfl⟩ : a = a' ∧ c = c' := by simpa using e
            obtain ⟨b, o, rfl, hbl, _, hli⟩ := hx i hlt
            obtain ⟨k0, hun, xs, k8, hms⟩ := hli
            obtain ⟨k1, k2, k3, k4, xn, xm, xk, k5, k6, k7, hpr⟩ := lies_iff.1 hun
            have HNP : Hid (NmP (fun b => b < W.heap.size) wr (l[i]) xn xm xk xs) := ⟨hpr, hms⟩
            obtain ⟨a1, c1, a2, c2, a3, c3, a4, c4, rfl, rfl, rfl, rfl⟩ := HNP.out.form
            have q1 : wr.cell? ⟨b, o + i * 9 + 1, none⟩ = some (.int .i64 (l[i]).under.kind) := k1
            have q2 : wr.cell? ⟨b, o + i * 9 + 2, none⟩ = some (.string (l[i]).under.name) := k2
            have q3 : wr.cell? ⟨b, o + i * 9 + 3, none⟩ = some (.int .i64 (l[i]).under.n) := k3
            have q4 : wr.cell? ⟨b, o + i * 9 + 4, none⟩ = some (.bool (l[i]).under.flag) := k4
            have q5 : wr.cell? ⟨b, o + i * 9 + 5, none⟩ = some (.slice a1 (l[i]).under.names.length c1) := k5
            have q6 : wr.cell? ⟨b, o + i * 9 + 6, none⟩ = some (.slice a2 (l[i]).under.marks.length c2) := k6
            have q7 : wr.cell? ⟨b, o + i * 9 + 7, none⟩ = some (.slice a3 (l[i]).under.kids.length c3) := k7
            have hmi := List.getElem_mem hlt
            have hnm := named_at HL.out HTR.out.1 HTR.out.2 hmi
            clear k1 k2 k3 k4 k5 k6 k7 hun hpr hms hx e
            go_wp2_with (go_at_call 9; refine hnm.mono ?_; intro e w5 hq; obtain ⟨yn, ym, yk, ys, rfl, hnp⟩ := hq.ex; obtain ⟨p1, r1, p2, r2, p3, r3, p4, r4, rfl, rfl, rfl, rfl⟩ := hnp.form; have HB5 : Hid (Below wr.heap.size wr w5) := hq.bl; have HN5 : Hid (NmP (fun b => wr.heap.size ≤ b) w5 (l[i]) (.slice p1 (l[i]).under.names.length r1) (.slice p2 (l[i]).under.marks.length r2) (.slice p3 (l[i]).under.kids.length r3) (.slice p4 (l[i]).mths.length r4)) := hnp; unfold agN; clear hq hnp hnm)
            obtain ⟨w6, hw6⟩ : ∃ w6, w6 = w5.alloc (.cells #[.string (l[i]).name, .int .i64 (l[i]).under.kind, .string (l[i]).under.name, .int .i64 (l[i]).under.n, .bool (l[i]).under.flag, .slice p1 (l[i]).under.names.length r1, .slice p2 (l[i]).under.marks.length r2, .slice p3 (l[i]).under.kids.length r3, .slice p4 (l[i]).mths.length r4] 40) := ⟨_, rfl⟩
            have HB6 : Hid (Below wr.heap.size wr w6) := by rw [hw6]; exact bthen HB5.out (below_alloc _ _)
            have HX6 : Hid (w6.heap[w5.heap.size]? = some (.cells #[.string (l[i]).name, .int .i64 (l[i]).under.kind, .string (l[i]).under.name, .int .i64 (l[i]).under.n, .bool (l[i]).under.flag, .slice p1 (l[i]).under.names.length r1, .slice p2 (l[i]).under.marks.length r2, .slice p3 (l[i]).under.kids.length r3, .slice p4 (l[i]).mths.length r4] 40 (0, 0))) := by rw [hw6]; exact heap_new _ _
            have HN6 : Hid (NmP (fun b => wr.heap.size ≤ b) w6 (l[i]) (.slice p1 (l[i]).under.names.length r1) (.slice p2 (l[i]).under.marks.length r2) (.slice p3 (l[i]).under.kids.length r3) (.slice p4 (l[i]).mths.length r4)) := by rw [hw6]; exact HN5.out.kept (below_alloc _ _)
            rw [← hw6]
            clear hw6 HN5
            have HKP : Hid (∀ W', Below w6.heap.size w6 W' → W'.cell? ⟨w5.heap.size, 0, none⟩ = some (.string (l[i]).name) ∧ W'.cell? ⟨w5.heap.size, 1, none⟩ = some (.int .i64 (l[i]).under.kind) ∧ W'.cell? ⟨w5.heap.size, 2, none⟩ = some (.string (l[i]).under.name) ∧ W'.cell? ⟨w5.heap.size, 3, none⟩ = some (.int .i64 (l[i]).under.n) ∧ W'.cell? ⟨w5.heap.size, 4, none⟩ = some (.bool (l[i]).under.flag) ∧ W'.cell? ⟨w5.heap.size, 5, none⟩ = some (.slice p1 (l[i]).under.names.length r1) ∧ W'.cell? ⟨w5.heap.size, 6, none⟩ = some (.slice p2 (l[i]).under.marks.length r2) ∧ W'.cell? ⟨w5.heap.size, 7, none⟩ = some (.slice p3 (l[i]).under.kids.length r3) ∧ W'.cell? ⟨w5.heap.size, 8, none⟩ = some (.slice p4 (l[i]).mths.length r4) ∧ W'.cell? ⟨b, o + i * 9, none⟩ = some (.string (l[i]).name) ∧ W'.cell? ⟨b, o + i * 9 + 1, none⟩ = some (.int .i64 (l[i]).under.kind) ∧ W'.cell? ⟨b, o + i * 9 + 2, none⟩ = some (.string (l[i]).under.name) ∧ W'.cell? ⟨b, o + i * 9 + 3, none⟩ = some (.int .i64 (l[i]).under.n) ∧ W'.cell? ⟨b, o + i * 9 + 4, none⟩ = some (.bool (l[i]).under.flag) ∧ W'.cell? ⟨b, o + i * 9 + 5, none⟩ = some (.slice a1 (l[i]).under.names.length c1) ∧ W'.cell? ⟨b, o + i * 9 + 6, none⟩ = some (.slice a2 (l[i]).under.marks.length c2) ∧ W'.cell? ⟨b, o + i * 9 + 7, none⟩ = some (.slice a3 (l[i]).under.kids.length c3) ∧ W'.cell? ⟨b, o + i * 9 + 8, none⟩ = some (.slice a4 (l[i]).mths.length c4)) := fun W' hb => by
              obtain ⟨g0, g1, g2, g3, g4, g5, g6, g7, g8⟩ := bx9 (blk_kept hb HX6.out)
              have hb2 := bthen HB6.out hb
              exact ⟨g0, g1, g2, g3, g4, g5, g6, g7, g8, kept_cell hb2 k0, kept_cell hb2 q1, kept_cell hb2 q2, kept_cell hb2 q3, kept_cell hb2 q4, kept_cell hb2 q5, kept_cell hb2 q6, kept_cell hb2 q7, kept_cell hb2 k8⟩
            have HNA : Hid (∀ W' A B, Below w6.heap.size w6 W' → W'.heap[A]? = some (.cells #[.string (l[i]).name, .int .i64 (l[i]).under.kind, .string (l[i]).under.name, .int .i64 (l[i]).under.n, .bool (l[i]).under.flag, .slice p1 (l[i]).under.names.length r1, .slice p2 (l[i]).under.marks.length r2, .slice p3 (l[i]).under.kids.length r3, .slice p4 (l[i]).mths.length r4] 40 (0, 0)) → W'.heap[B]? = some (.cells #[.string (l[i]).name, .int .i64 (l[i]).under.kind, .string (l[i]).under.name, .int .i64 (l[i]).under.n, .bool (l[i]).under.flag, .slice a1 (l[i]).under.names.length c1, .slice a2 (l[i]).under.marks.length c2, .slice a3 (l[i]).under.kids.length c3, .slice a4 (l[i]).mths.length c4] 40 (0, 0)) → Calls Try.prog 10 #[.slice (some ⟨A, 0, none⟩) 1 1, .slice (some ⟨B, 0, none⟩) 1 1] W' fun e w' => e = .returned (.bool true) ∧ Below W'.heap.size W' w') := fun W' A B hb hA hB => named_same (one_nmd hA ((HN6.out.with (B' := fun _ => True) (fun _ _ _ => trivial)).kept hb)) (one_nmd hB ((HNP.out.with (B' := fun _ => True) (fun _ _ _ => trivial)).kept (bthen HB6.out hb)))
            obtain ⟨N0, u0, _, hun0⟩ := und_ex HND.out.2 (nmT (l[i]).name)
            have HUN : Hid (Und l N0 (nmT (l[i]).name) u0) := hun0
            have HNMS : Hid ((l[i]).name.size ≤ maxLen) := (HL.out.nm _ hmi).nm
            have kS := HKP.out w6 (Below.refl _ _)
            clear hun0 hmi k0 q1 q2 q3 q4 q5 q6 q7 k8
            refine wp_region_held_drew (S := fun w' => w'.cell? ⟨w5.heap.size, 0, none⟩ = some (.string (l[i]).name) ∧ w'.cell? ⟨w5.heap.size, 1, none⟩ = some (.int .i64 (l[i]).under.kind) ∧ w'.cell? ⟨w5.heap.size, 2, none⟩ = some (.string (l[i]).under.name) ∧ w'.cell? ⟨w5.heap.size, 3, none⟩ = some (.int .i64 (l[i]).under.n) ∧ w'.cell? ⟨w5.heap.size, 4, none⟩ = some (.bool (l[i]).under.flag) ∧ w'.cell? ⟨w5.heap.size, 5, none⟩ = some (.slice p1 (l[i]).under.names.length r1) ∧ w'.cell? ⟨w5.heap.size, 6, none⟩ = some (.slice p2 (l[i]).under.marks.length r2) ∧ w'.cell? ⟨w5.heap.size, 7, none⟩ = some (.slice p3 (l[i]).under.kids.length r3) ∧ w'.cell? ⟨w5.heap.size, 8, none⟩ = some (.slice p4 (l[i]).mths.length r4) ∧ w'.cell? ⟨b, o + i * 9, none⟩ = some (.string (l[i]).name) ∧ w'.cell? ⟨b, o + i * 9 + 1, none⟩ = some (.int .i64 (l[i]).under.kind) ∧ w'.cell? ⟨b, o + i * 9 + 2, none⟩ = some (.string (l[i]).under.name) ∧ w'.cell? ⟨b, o + i * 9 + 3, none⟩ = some (.int .i64 (l[i]).under.n) ∧ w'.cell? ⟨b, o + i * 9 + 4, none⟩ = some (.bool (l[i]).under.flag) ∧ w'.cell? ⟨b, o + i * 9 + 5, none⟩ = some (.slice a1 (l[i]).under.names.length c1) ∧ w'.cell? ⟨b, o + i * 9 + 6, none⟩ = some (.slice a2 (l[i]).under.marks.length c2) ∧ w'.cell? ⟨b, o + i * 9 + 7, none⟩ = some (.slice a3 (l[i]).under.kids.length c3) ∧ w'.cell? ⟨b, o + i * 9 + 8, none⟩ = some (.slice a4 (l[i]).mths.length c4)) (by kernel_rfl) (by exact kS) (fun hHeld => ?_)
            clear hHeld
            refine wpAnyH_take (i := 0) (oi := { dst := some 61, op := Op.move (Operand.tmp 11), type := 4, pos := "law.go:137", after := #[], guard := none }) (v := ?_) rfl (by kernel_rfl) (by kernel_rfl) (by kernel_rfl) (fun _ _ _ h => h) (Or.inl ⟨by rfl, ?_⟩) (by exact kS) ?_
            rotate_left
            · intro w hSw; (try dsimp only at hSw); (go_simp <;> with_reducible rfl)
            try simp only [Act.put, List.setIfInBounds_toArray, List.set_cons_zero, List.set_cons_succ]
            refine wpAnyH_take (i := 1) (oi := { dst := some 62, op := Op.unOp UnOp.not 4 (Operand.tmp 61), type := 4, pos := "law.go:137", after := #[{ on := 0, ground := Ground.data }], guard := none }) (v := ?_) rfl (by kernel_rfl) (by kernel_rfl) (by kernel_rfl) (fun _ _ _ h => h) (Or.inl ⟨by rfl, ?_⟩) (by exact kS) ?_
            rotate_left
            · intro w hSw; (try dsimp only at hSw); (go_simp <;> with_reducible rfl)
            try simp only [Act.put, List.setIfInBounds_toArray, List.set_cons_zero, List.set_cons_succ]
            refine wpAnyH_take (i := 2) (oi := { dst := some 63, op := Op.move (Operand.tmp 62), type := 4, pos := "law.go:137", after := #[{ on := 1, ground := Ground.data }], guard := none }) (v := ?_) rfl (by kernel_rfl) (by kernel_rfl) (by kernel_rfl) (fun _ _ _ h => h) (Or.inl ⟨by rfl, ?_⟩) (by exact kS) ?_
            rotate_left
            · intro w hSw; (try dsimp only at hSw); (go_simp <;> with_reducible rfl)
            try simp only [Act.put, List.setIfInBounds_toArray, List.set_cons_zero, List.set_cons_succ]
            refine wpAnyH_take (i := 3) (oi := { dst := some 64, op := Op.load 40 (Operand.tmp 10), type := 40, pos := "law.go:137", after := #[{ on := 2, ground := Ground.guard }], guard := some (2, false) }) (v := ?_) rfl (by kernel_rfl) (by kernel_rfl) (by kernel_rfl) (fun _ _ _ h => h) (Or.inl ⟨by rfl, ?_⟩) (by exact kS) ?_
            rotate_left
            · intro w hSw; (try dsimp only at hSw); (go_simp <;> with_reducible rfl)
            try simp only [Act.put, List.setIfInBounds_toArray, List.set_cons_zero, List.set_cons_succ]
            refine wpAnyH_take (i := 5) (oi := { dst := some 66, op := Op.move (Operand.tmp 0), type := 22, pos := "law.go:137", after := #[{ on := 2, ground := Ground.guard }], guard := some (2, false) }) (v := ?_) rfl (by kernel_rfl) (by kernel_rfl) (by kernel_rfl) (fun _ _ _ h => h) (Or.inl ⟨by rfl, ?_⟩) (by exact kS) ?_
            rotate_left
            · intro w hSw; (try dsimp only at hSw); (go_simp <;> with_reducible rfl)
            try simp only [Act.put, List.setIfInBounds_toArray, List.set_cons_zero, List.set_cons_succ]
            refine wpAnyH_take (i := 6) (oi := { dst := some 67, op := Op.move (Operand.tmp 9), type := 3, pos := "law.go:137", after := #[{ on := 2, ground := Ground.guard }], guard := some (2, false) }) (v := ?_) rfl (by kernel_rfl) (by kernel_rfl) (by kernel_rfl) (fun _ _ _ h => h) (Or.inl ⟨by rfl, ?_⟩) (by exact kS) ?_
            rotate_left
            · intro w hSw; (try dsimp only at hSw); (go_simp <;> with_reducible rfl)
            try simp only [Act.put, List.setIfInBounds_toArray, List.set_cons_zero, List.set_cons_succ]
            refine wpAnyH_take (i := 7) (oi := { dst := some 68, op := Op.indexAddr 22 (Operand.tmp 66) (Operand.tmp 67), type := 0, pos := "law.go:137", after := #[{ on := 5, ground := Ground.data }, { on := 6, ground := Ground.data }, { on := 2, ground := Ground.guard }], guard := some (2, false) }) (v := ?_) rfl (by kernel_rfl) (by kernel_rfl) (by kernel_rfl) (fun _ _ _ h => h) (Or.inl ⟨by rfl, ?_⟩) (by exact kS) ?_
            rotate_left
            · intro w hSw; (try dsimp only at hSw); (go_simp <;> with_reducible rfl)
            try simp only [Act.put, List.setIfInBounds_toArray, List.set_cons_zero, List.set_cons_succ]
            refine wpAnyH_take (i := 8) (oi := { dst := some 69, op := Op.load 40 (Operand.tmp 68), type := 40, pos := "law.go:137", after := #[{ on := 7, ground := Ground.data }, { on := 2, ground := Ground.guard }], guard := some (2, false) }) (v := ?_) rfl (by kernel_rfl) (by kernel_rfl) (by kernel_rfl) (fun _ _ _ h => h) (Or.inl ⟨by rfl, ?_⟩) (by exact kS) ?_
            rotate_left
            · intro w hSw; (try dsimp only at hSw); (go_simp <;> with_reducible rfl)
            try simp only [Act.put, List.setIfInBounds_toArray, List.set_cons_zero, List.set_cons_succ]
            refine wpAnyH_ready (rs := [4, 9]) (by kernel_rfl) (by simp) ?_
            refine AllReadyH.cons (o := { dst := some 65, op := Op.buildSlice 22 1 #[(0, Operand.tmp 64)], type := 22, pos := "law.go:137", after := #[{ on := 3, ground := Ground.data }, { on := 2, ground := Ground.guard }], guard := some (2, false) }) rfl (fun K hK => ?_) (AllReadyH.cons (o := { dst := some 70, op := Op.buildSlice 22 1 #[(0, Operand.tmp 69)], type := 22, pos := "law.go:137", after := #[{ on := 8, ground := Ground.data }, { on := 2, ground := Ground.guard }], guard := some (2, false) }) rfl (fun K hK => ?_) AllReadyH.nil)
            · go_simp
              have kS := HKP.out (w6.drew.alloc (.cells #[.string (l[i]).name, .int .i64 (l[i]).under.kind, .string (l[i]).under.name, .int .i64 (l[i]).under.n, .bool (l[i]).under.flag, .slice p1 (l[i]).under.names.length r1, .slice p2 (l[i]).under.marks.length r2, .slice p3 (l[i]).under.kids.length r3, .slice p4 (l[i]).mths.length r4] 40)) (bthen (below_drew1 _) (below_alloc _ _))
              refine hK.out _ _ (by exact kS) (fun hHeld => ?_)
              clear hK K hHeld
              try simp only [Act.put, List.setIfInBounds_toArray, List.set_cons_zero, List.set_cons_succ]
              refine wpAnyH_ready (rs := [9]) (by kernel_rfl) (by simp) ?_
              refine AllReadyH.cons (o := { dst := some 70, op := Op.buildSlice 22 1 #[(0, Operand.tmp 69)], type := 22, pos := "law.go:137", after := #[{ on := 8, ground := Ground.data }, { on := 2, ground := Ground.guard }], guard := some (2, false) }) rfl (fun K hK => ?_) AllReadyH.nil
              go_simp
              have HB7 : Hid (Below w6.heap.size w6 ((w6.drew.alloc (.cells #[.string (l[i]).name, .int .i64 (l[i]).under.kind, .string (l[i]).under.name, .int .i64 (l[i]).under.n, .bool (l[i]).under.flag, .slice p1 (l[i]).under.names.length r1, .slice p2 (l[i]).under.marks.length r2, .slice p3 (l[i]).under.kids.length r3, .slice p4 (l[i]).mths.length r4] 40)).alloc (.cells #[.string (l[i]).name, .int .i64 (l[i]).under.kind, .string (l[i]).under.name, .int .i64 (l[i]).under.n, .bool (l[i]).under.flag, .slice a1 (l[i]).under.names.length c1, .slice a2 (l[i]).under.marks.length c2, .slice a3 (l[i]).under.kids.length c3, .slice a4 (l[i]).mths.length c4] 40))) := bthen (bthen (below_drew1 _) (below_alloc _ _)) (below_alloc _ _); have HA7 : Hid (((w6.drew.alloc (.cells #[.string (l[i]).name, .int .i64 (l[i]).under.kind, .string (l[i]).under.name, .int .i64 (l[i]).under.n, .bool (l[i]).under.flag, .slice p1 (l[i]).under.names.length r1, .slice p2 (l[i]).under.marks.length r2, .slice p3 (l[i]).under.kids.length r3, .slice p4 (l[i]).mths.length r4] 40)).alloc (.cells #[.string (l[i]).name, .int .i64 (l[i]).under.kind, .string (l[i]).under.name, .int .i64 (l[i]).under.n, .bool (l[i]).under.flag, .slice a1 (l[i]).under.names.length c1, .slice a2 (l[i]).under.marks.length c2, .slice a3 (l[i]).under.kids.length c3, .slice a4 (l[i]).mths.length c4] 40)).heap[w6.heap.size]? = some (.cells #[.string (l[i]).name, .int .i64 (l[i]).under.kind, .string (l[i]).under.name, .int .i64 (l[i]).under.n, .bool (l[i]).under.flag, .slice p1 (l[i]).under.names.length r1, .slice p2 (l[i]).under.marks.length r2, .slice p3 (l[i]).under.kids.length r3, .slice p4 (l[i]).mths.length r4] 40 (0, 0))) := blk_kept (below_alloc _ _) (heap_new w6.drew _); have HBB7 : Hid (((w6.drew.alloc (.cells #[.string (l[i]).name, .int .i64 (l[i]).under.kind, .string (l[i]).under.name, .int .i64 (l[i]).under.n, .bool (l[i]).under.flag, .slice p1 (l[i]).under.names.length r1, .slice p2 (l[i]).under.marks.length r2, .slice p3 (l[i]).under.kids.length r3, .slice p4 (l[i]).mths.length r4] 40)).alloc (.cells #[.string (l[i]).name, .int .i64 (l[i]).under.kind, .string (l[i]).under.name, .int .i64 (l[i]).under.n, .bool (l[i]).under.flag, .slice a1 (l[i]).under.names.length c1, .slice a2 (l[i]).under.marks.length c2, .slice a3 (l[i]).under.kids.length c3, .slice a4 (l[i]).mths.length c4] 40)).heap[w6.heap.size + 1]? = some (.cells #[.string (l[i]).name, .int .i64 (l[i]).under.kind, .string (l[i]).under.name, .int .i64 (l[i]).under.n, .bool (l[i]).under.flag, .slice a1 (l[i]).under.names.length c1, .slice a2 (l[i]).under.marks.length c2, .slice a3 (l[i]).under.kids.length c3, .slice a4 (l[i]).mths.length c4] 40 (0, 0))) := (by have := heap_new (w6.drew.alloc (.cells #[.string (l[i]).name, .int .i64 (l[i]).under.kind, .string (l[i]).under.name, .int .i64 (l[i]).under.n, .bool (l[i]).under.flag, .slice p1 (l[i]).under.names.length r1, .slice p2 (l[i]).under.marks.length r2, .slice p3 (l[i]).under.kids.length r3, .slice p4 (l[i]).mths.length r4] 40)) (.cells #[.string (l[i]).name, .int .i64 (l[i]).under.kind, .string (l[i]).under.name, .int .i64 (l[i]).under.n, .bool (l[i]).under.flag, .slice a1 (l[i]).under.names.length c1, .slice a2 (l[i]).under.marks.length c2, .slice a3 (l[i]).under.kids.length c3, .slice a4 (l[i]).mths.length c4] 40); rw [World.size_alloc] at this; exact this); have kS := HKP.out _ HB7.out
              refine hK.out _ _ (by exact kS) (fun hHeld => ?_)
              clear hK K hHeld
              try simp only [Act.put, List.setIfInBounds_toArray, List.set_cons_zero, List.set_cons_succ]
              refine wpAnyH_ready (rs := [10]) (by kernel_rfl) (by simp) ?_
              refine AllReadyH.cons (o := { dst := some 71, op := Op.call { callee := Callee.value (Operand.func 10), args := #[Operand.tmp 65, Operand.tmp 70], argTypes := #[22, 22] }, type := 4, pos := "law.go:137", after := #[{ on := 4, ground := Ground.data }, { on := 9, ground := Ground.data }, { on := 2, ground := Ground.chain }, { on := 2, ground := Ground.guard }], guard := some (2, false) }) rfl (fun K hK => ?_) AllReadyH.nil
              go_simp
              go_at_call 10; refine (HNA.out _ _ _ HB7.out HA7.out HBB7.out).mono ?_; rintro e x0 ⟨rfl, hx0⟩; have HX0 : Hid (Below w6.heap.size w6 x0) := bthen HB7.out hx0; have kS := HKP.out x0 HX0.out; clear hx0
              go_wp2_with fail
              refine hK.out _ _ (by exact kS) (fun hHeld => ?_)
              clear hK K hHeld
              try simp only [Act.put, List.setIfInBounds_toArray, List.set_cons_zero, List.set_cons_succ]
              refine wpAnyH_take (i := 11) (oi := { dst := some 72, op := Op.unOp UnOp.not 4 (Operand.tmp 71), type := 4, pos := "law.go:137", after := #[{ on := 10, ground := Ground.data }, { on := 2, ground := Ground.guard }], guard := some (2, false) }) (v := ?_) rfl (by kernel_rfl) (by kernel_rfl) (by kernel_rfl) (fun _ _ _ h => h) (Or.inl ⟨by rfl, ?_⟩) (by exact kS) ?_
              rotate_left
              · intro w hSw; (try dsimp only at hSw); (go_simp <;> with_reducible rfl)
              try simp only [Act.put, List.setIfInBounds_toArray, List.set_cons_zero, List.set_cons_succ]
              refine wpAnyH_take (i := 12) (oi := { dst := some 73, op := Op.pick (Operand.tmp 63) (Operand.const (Value.bool true)) (Operand.tmp 72), type := 4, pos := "law.go:137", after := #[{ on := 2, ground := Ground.data }, { on := 11, ground := Ground.data }], guard := none }) (v := ?_) rfl (by kernel_rfl) (by kernel_rfl) (by kernel_rfl) (fun _ _ _ h => h) (Or.inl ⟨by rfl, ?_⟩) (by exact kS) ?_
              rotate_left
              · intro w hSw; (try dsimp only at hSw); (go_simp <;> with_reducible rfl)
              try simp only [Act.put, List.setIfInBounds_toArray, List.set_cons_zero, List.set_cons_succ]
              refine wpAnyH_take (i := 13) (oi := { dst := some 74, op := Op.move (Operand.tmp 73), type := 4, pos := "law.go:137", after := #[{ on := 12, ground := Ground.data }, { on := 10, ground := Ground.chain }], guard := none }) (v := ?_) rfl (by kernel_rfl) (by kernel_rfl) (by kernel_rfl) (fun _ _ _ h => h) (Or.inl ⟨by rfl, ?_⟩) (by exact kS) ?_
              rotate_left
              · intro w hSw; (try dsimp only at hSw); (go_simp <;> with_reducible rfl)
              try simp only [Act.put, List.setIfInBounds_toArray, List.set_cons_zero, List.set_cons_succ]
              refine wpAnyH_take (i := 14) (oi := { dst := some 75, op := Op.move (Operand.tmp 5), type := 31, pos := "law.go:137", after := #[{ on := 13, ground := Ground.guard }], guard := some (13, false) }) (v := ?_) rfl (by kernel_rfl) (by kernel_rfl) (by kernel_rfl) (fun _ _ _ h => h) (Or.inl ⟨by rfl, ?_⟩) (by exact kS) ?_
              rotate_left
              · intro w hSw; (try dsimp only at hSw); (go_simp <;> with_reducible rfl)
              try simp only [Act.put, List.setIfInBounds_toArray, List.set_cons_zero, List.set_cons_succ]
              refine wpAnyH_take (i := 15) (oi := { dst := some 76, op := Op.move (Operand.tmp 0), type := 22, pos := "law.go:137", after := #[{ on := 13, ground := Ground.guard }], guard := some (13, false) }) (v := ?_) rfl (by kernel_rfl) (by kernel_rfl) (by kernel_rfl) (fun _ _ _ h => h) (Or.inl ⟨by rfl, ?_⟩) (by exact kS) ?_
              rotate_left
              · intro w hSw; (try dsimp only at hSw); (go_simp <;> with_reducible rfl)
              try simp only [Act.put, List.setIfInBounds_toArray, List.set_cons_zero, List.set_cons_succ]
              refine wpAnyH_take (i := 16) (oi := { dst := some 77, op := Op.move (Operand.tmp 9), type := 3, pos := "law.go:137", after := #[{ on := 13, ground := Ground.guard }], guard := some (13, false) }) (v := ?_) rfl (by kernel_rfl) (by kernel_rfl) (by kernel_rfl) (fun _ _ _ h => h) (Or.inl ⟨by rfl, ?_⟩) (by exact kS) ?_
              rotate_left
              · intro w hSw; (try dsimp only at hSw); (go_simp <;> with_reducible rfl)
              try simp only [Act.put, List.setIfInBounds_toArray, List.set_cons_zero, List.set_cons_succ]
              refine wpAnyH_take (i := 17) (oi := { dst := some 78, op := Op.indexAddr 22 (Operand.tmp 76) (Operand.tmp 77), type := 0, pos := "law.go:137", after := #[{ on := 15, ground := Ground.data }, { on := 16, ground := Ground.data }, { on := 13, ground := Ground.guard }], guard := some (13, false) }) (v := ?_) rfl (by kernel_rfl) (by kernel_rfl) (by kernel_rfl) (fun _ _ _ h => h) (Or.inl ⟨by rfl, ?_⟩) (by exact kS) ?_
              rotate_left
              · intro w hSw; (try dsimp only at hSw); (go_simp <;> with_reducible rfl)
              try simp only [Act.put, List.setIfInBounds_toArray, List.set_cons_zero, List.set_cons_succ]
              refine wpAnyH_take (i := 18) (oi := { dst := some 79, op := Op.fieldAddr 40 (Operand.tmp 78) 0, type := 0, pos := "law.go:137", after := #[{ on := 17, ground := Ground.data }, { on := 13, ground := Ground.guard }], guard := some (13, false) }) (v := ?_) rfl (by kernel_rfl) (by kernel_rfl) (by kernel_rfl) (fun _ _ _ h => h) (Or.inl ⟨by rfl, ?_⟩) (by exact kS) ?_
              rotate_left
              · intro w hSw; (try dsimp only at hSw); (go_simp <;> with_reducible rfl)
              try simp only [Act.put, List.setIfInBounds_toArray, List.set_cons_zero, List.set_cons_succ]
              refine wpAnyH_take (i := 19) (oi := { dst := some 80, op := Op.load 9 (Operand.tmp 79), type := 9, pos := "law.go:137", after := #[{ on := 18, ground := Ground.data }, { on := 13, ground := Ground.guard }], guard := some (13, false) }) (v := ?_) rfl (by kernel_rfl) (by kernel_rfl) (by kernel_rfl) (fun _ _ _ h => h) (Or.inl ⟨by rfl, ?_⟩) (by exact kS) ?_
              rotate_left
              · intro w hSw; (try dsimp only at hSw); (go_simp <;> with_reducible rfl)
              try simp only [Act.put, List.setIfInBounds_toArray, List.set_cons_zero, List.set_cons_succ]
              refine wpAnyH_take (i := 22) (oi := { dst := some 83, op := Op.move (Operand.tmp 7), type := 35, pos := "law.go:137", after := #[{ on := 13, ground := Ground.guard }], guard := some (13, false) }) (v := ?_) rfl (by kernel_rfl) (by kernel_rfl) (by kernel_rfl) (fun _ _ _ h => h) (Or.inl ⟨by rfl, ?_⟩) (by exact kS) ?_
              rotate_left
              · intro w hSw; (try dsimp only at hSw); (go_simp <;> with_reducible rfl)
              try simp only [Act.put, List.setIfInBounds_toArray, List.set_cons_zero, List.set_cons_succ]
              refine wpAnyH_take (i := 23) (oi := { dst := some 84, op := Op.move (Operand.tmp 0), type := 22, pos := "law.go:137", after := #[{ on := 13, ground := Ground.guard }], guard := some (13, false) }) (v := ?_) rfl (by kernel_rfl) (by kernel_rfl) (by kernel_rfl) (fun _ _ _ h => h) (Or.inl ⟨by rfl, ?_⟩) (by exact kS) ?_
              rotate_left
              · intro w hSw; (try dsimp only at hSw); (go_simp <;> with_reducible rfl)
              try simp only [Act.put, List.setIfInBounds_toArray, List.set_cons_zero, List.set_cons_succ]
              refine wpAnyH_take (i := 24) (oi := { dst := some 85, op := Op.move (Operand.tmp 9), type := 3, pos := "law.go:137", after := #[{ on := 13, ground := Ground.guard }], guard := some (13, false) }) (v := ?_) rfl (by kernel_rfl) (by kernel_rfl) (by kernel_rfl) (fun _ _ _ h => h) (Or.inl ⟨by rfl, ?_⟩) (by exact kS) ?_
              rotate_left
              · intro w hSw; (try dsimp only at hSw); (go_simp <;> with_reducible rfl)
              try simp only [Act.put, List.setIfInBounds_toArray, List.set_cons_zero, List.set_cons_succ]
              refine wpAnyH_take (i := 25) (oi := { dst := some 86, op := Op.indexAddr 22 (Operand.tmp 84) (Operand.tmp 85), type := 0, pos := "law.go:137", after := #[{ on := 23, ground := Ground.data }, { on := 24, ground := Ground.data }, { on := 13, ground := Ground.guard }], guard := some (13, false) }) (v := ?_) rfl (by kernel_rfl) (by kernel_rfl) (by kernel_rfl) (fun _ _ _ h => h) (Or.inl ⟨by rfl, ?_⟩) (by exact kS) ?_
              rotate_left
              · intro w hSw; (try dsimp only at hSw); (go_simp <;> with_reducible rfl)
              try simp only [Act.put, List.setIfInBounds_toArray, List.set_cons_zero, List.set_cons_succ]
              refine wpAnyH_take (i := 26) (oi := { dst := some 87, op := Op.fieldAddr 40 (Operand.tmp 86) 0, type := 0, pos := "law.go:137", after := #[{ on := 25, ground := Ground.data }, { on := 13, ground := Ground.guard }], guard := some (13, false) }) (v := ?_) rfl (by kernel_rfl) (by kernel_rfl) (by kernel_rfl) (fun _ _ _ h => h) (Or.inl ⟨by rfl, ?_⟩) (by exact kS) ?_
              rotate_left
              · intro w hSw; (try dsimp only at hSw); (go_simp <;> with_reducible rfl)
              try simp only [Act.put, List.setIfInBounds_toArray, List.set_cons_zero, List.set_cons_succ]
              refine wpAnyH_take (i := 27) (oi := { dst := some 88, op := Op.load 9 (Operand.tmp 87), type := 9, pos := "law.go:137", after := #[{ on := 26, ground := Ground.data }, { on := 13, ground := Ground.guard }], guard := some (13, false) }) (v := ?_) rfl (by kernel_rfl) (by kernel_rfl) (by kernel_rfl) (fun _ _ _ h => h) (Or.inl ⟨by rfl, ?_⟩) (by exact kS) ?_
              rotate_left
              · intro w hSw; (try dsimp only at hSw); (go_simp <;> with_reducible rfl)
              try simp only [Act.put, List.setIfInBounds_toArray, List.set_cons_zero, List.set_cons_succ]
              refine wpAnyH_ready (rs := [20]) (by kernel_rfl) (by simp) ?_
              refine AllReadyH.cons (o := { dst := some 81, op := Op.call { callee := Callee.value (Operand.func 13), args := #[Operand.tmp 80], argTypes := #[9] }, type := 27, pos := "law.go:137", after := #[{ on := 19, ground := Ground.data }, { on := 13, ground := Ground.chain }, { on := 13, ground := Ground.guard }], guard := some (13, false) }) rfl (fun K hK => ?_) AllReadyH.nil
              go_simp
              go_at_call 13; refine (name_any (l[i]).name x0 (fun _ => True)).mono ?_; intro e x1 hq; obtain ⟨n1, n2, n3, rfl, hpn⟩ := hq.ex; have HX1 : Hid (Below w6.heap.size w6 x1) := bthen HX0.out hq.bl; have HPN : Hid (Prt (fun _ => True) x1 (nmT (l[i]).name) n1 n2 n3) := hpn; have kS := HKP.out x1 HX1.out; clear hq hpn
              go_wp2_with fail
              refine hK.out _ _ (by exact kS) (fun hHeld => ?_)
              clear hK K hHeld
              try simp only [Act.put, List.setIfInBounds_toArray, List.set_cons_zero, List.set_cons_succ]
              refine wpAnyH_ready (rs := [21]) (by kernel_rfl) (by simp) ?_
              refine AllReadyH.cons (o := { dst := some 82, op := Op.call { callee := Callee.value (Operand.func 12), args := #[Operand.tmp 75, Operand.tmp 81], argTypes := #[31, 27] }, type := 27, pos := "law.go:137", after := #[{ on := 14, ground := Ground.data }, { on := 20, ground := Ground.data }, { on := 20, ground := Ground.chain }, { on := 13, ground := Ground.guard }], guard := some (13, false) }) rfl (fun K hK => ?_) AllReadyH.nil
              go_simp
              go_at_call 12; refine (under_at HL.out (kept_cell (bthen HB6.out HX1.out) HTR.out.1) (HTR.out.2.kept (bthen HB6.out HX1.out)) HPN.out HNMS.out HUN.out (fit_nm _) (by show (nmT _).cnt ≤ 1000; simp [nmT, Ty.cnt, cntL])).mono ?_; intro e x2 hq; obtain ⟨m1, m2, m3, rfl, hpu⟩ := hq.ex; have HX12 : Hid (Below x1.heap.size x1 x2) := hq.bl; have HX2 : Hid (Below w6.heap.size w6 x2) := bthen HX1.out hq.bl; have HPU : Hid (Prt (fun _ => True) x2 u0 m1 m2 m3) := hpu.with (fun _ _ _ => trivial); have kS := HKP.out x2 HX2.out; clear hq hpu
              go_wp2_with fail
              refine hK.out _ _ (by exact kS) (fun hHeld => ?_)
              clear hK K hHeld
              try simp only [Act.put, List.setIfInBounds_toArray, List.set_cons_zero, List.set_cons_succ]
              refine wpAnyH_ready (rs := [28]) (by kernel_rfl) (by simp) ?_
              refine AllReadyH.cons (o := { dst := some 89, op := Op.call { callee := Callee.value (Operand.func 15), args := #[Operand.tmp 88], argTypes := #[9] }, type := 27, pos := "law.go:137", after := #[{ on := 27, ground := Ground.data }, { on := 21, ground := Ground.chain }, { on := 13, ground := Ground.guard }], guard := some (13, false) }) rfl (fun K hK => ?_) AllReadyH.nil
              go_simp
              go_at_call 15; refine (rname_any (l[i]).name x2 (fun _ => True)).mono ?_; intro e x3 hq; obtain ⟨s1, s2, s3, rfl, hps⟩ := hq.ex; have HX23 : Hid (Below x2.heap.size x2 x3) := hq.bl; have HX3 : Hid (Below w6.heap.size w6 x3) := bthen HX2.out hq.bl; have HPS : Hid (Prt (fun _ => True) x3 (nmT (l[i]).name) s1 s2 s3) := hps; have kS := HKP.out x3 HX3.out; clear hq hps
              go_wp2_with fail
              refine hK.out _ _ (by exact kS) (fun hHeld => ?_)
              clear hK K hHeld
              try simp only [Act.put, List.setIfInBounds_toArray, List.set_cons_zero, List.set_cons_succ]
              refine wpAnyH_ready (rs := [29]) (by kernel_rfl) (by simp) ?_
              refine AllReadyH.cons (o := { dst := some 90, op := Op.call { callee := Callee.value (Operand.func 14), args := #[Operand.tmp 83, Operand.tmp 89], argTypes := #[35, 27] }, type := 27, pos := "law.go:137", after := #[{ on := 22, ground := Ground.data }, { on := 28, ground := Ground.data }, { on := 28, ground := Ground.chain }, { on := 13, ground := Ground.guard }], guard := some (13, false) }) rfl (fun K hK => ?_) AllReadyH.nil
              go_simp
              go_at_call 14; refine (runder_any (HUR.out.kept (bthen HB6.out HX3.out)) HND.out.1 HPS.out HUN.out).mono ?_; intro e x4 hq; obtain ⟨t1, t2, t3, rfl, hpt⟩ := hq.ex; have HX4 : Hid (Below w6.heap.size w6 x4) := bthen HX3.out hq.bl; have HPU4 : Hid (Prt (fun _ => True) x4 u0 m1 m2 m3) := HPU.out.kept (bthen HX23.out hq.bl); have HPT : Hid (Prt (fun _ => True) x4 u0 t1 t2 t3) := hpt.with (fun _ _ _ => trivial); have hty := types_any _ _ u0 u0 x4 _ _ _ _ _ _ HPU4.out HPT.out; rw [tyEq_true rfl] at hty; have kS := HKP.out x4 HX4.out; clear hq hpt
              go_wp2_with fail
              refine hK.out _ _ (by exact kS) (fun hHeld => ?_)
              clear hK K hHeld
              try simp only [Act.put, List.setIfInBounds_toArray, List.set_cons_zero, List.set_cons_succ]
              refine wpAnyH_ready (rs := [30]) (by kernel_rfl) (by simp) ?_
              refine AllReadyH.cons (o := { dst := some 91, op := Op.call { callee := Callee.value (Operand.func 11), args := #[Operand.tmp 82, Operand.tmp 90], argTypes := #[27, 27] }, type := 4, pos := "law.go:137", after := #[{ on := 21, ground := Ground.data }, { on := 29, ground := Ground.data }, { on := 29, ground := Ground.chain }, { on := 13, ground := Ground.guard }], guard := some (13, false) }) rfl (fun K hK => ?_) AllReadyH.nil
              go_simp
              go_at_call 11; refine hty.mono ?_; rintro e x5 ⟨rfl, hx5⟩; have HX5 : Hid (Below w6.heap.size w6 x5) := bthen HX4.out hx5; have kS := HKP.out x5 HX5.out; clear hx5 hty
              go_wp2_with fail
              refine hK.out _ _ (by exact kS) (fun hHeld => ?_)
              clear hK K hHeld
              try simp only [Act.put, List.setIfInBounds_toArray, List.set_cons_zero, List.set_cons_succ]
              refine wpAnyH_take (i := 31) (oi := { dst := some 92, op := Op.unOp UnOp.not 4 (Operand.tmp 91), type := 4, pos := "law.go:137", after := #[{ on := 30, ground := Ground.data }, { on := 13, ground := Ground.guard }], guard := some (13, false) }) (v := ?_) rfl (by kernel_rfl) (by kernel_rfl) (by kernel_rfl) (fun _ _ _ h => h) (Or.inl ⟨by rfl, ?_⟩) (by exact kS) ?_
              rotate_left
              · intro w hSw; (try dsimp only at hSw); (go_simp <;> with_reducible rfl)
              try simp only [Act.put, List.setIfInBounds_toArray, List.set_cons_zero, List.set_cons_succ]
              refine wpAnyH_take (i := 32) (oi := { dst := some 93, op := Op.pick (Operand.tmp 74) (Operand.const (Value.bool true)) (Operand.tmp 92), type := 4, pos := "law.go:137", after := #[{ on := 13, ground := Ground.data }, { on := 31, ground := Ground.data }], guard := none }) (v := ?_) rfl (by kernel_rfl) (by kernel_rfl) (by kernel_rfl) (fun _ _ _ h => h) (Or.inl ⟨by rfl, ?_⟩) (by exact kS) ?_
              rotate_left
              · intro w hSw; (try dsimp only at hSw); (go_simp <;> with_reducible rfl)
              try simp only [Act.put, List.setIfInBounds_toArray, List.set_cons_zero, List.set_cons_succ]
              refine wpAnyH_done (by kernel_rfl) ?_ _
              clear kS
              go_wp2_with fail
              go_roundg (l.length - (i + 1))
              case measure => omega
              case rel => exact ⟨i + 1, by omega, Nat.le_refl _, by go_num, bthen HX.out (bthen HB6.out HX5.out)⟩
            · go_simp
              have kS := HKP.out (w6.drew.alloc (.cells #[.string (l[i]).name, .int .i64 (l[i]).under.kind, .string (l[i]).under.name, .int .i64 (l[i]).under.n, .bool (l[i]).under.flag, .slice a1 (l[i]).under.names.length c1, .slice a2 (l[i]).under.marks.length c2, .slice a3 (l[i]).under.kids.length c3, .slice a4 (l[i]).mths.length c4] 40)) (bthen (below_drew1 _) (below_alloc _ _))
              refine hK.out _ _ (by exact kS) (fun hHeld => ?_)
              clear hK K hHeld
              try simp only [Act.put, List.setIfInBounds_toArray, List.set_cons_zero, List.set_cons_succ]
              refine wpAnyH_ready (rs := [4]) (by kernel_rfl) (by simp) ?_
              refine AllReadyH.cons (o := { dst := some 65, op := Op.buildSlice 22 1 #[(0, Operand.tmp 64)], type := 22, pos := "law.go:137", after := #[{ on := 3, ground := Ground.data }, { on := 2, ground := Ground.guard }], guard := some (2, false) }) rfl (fun K hK => ?_) AllReadyH.nil
              go_simp
              have HB7 : Hid (Below w6.heap.size w6 ((w6.drew.alloc (.cells #[.string (l[i]).name, .int .i64 (l[i]).under.kind, .string (l[i]).under.name, .int .i64 (l[i]).under.n, .bool (l[i]).under.flag, .slice a1 (l[i]).under.names.length c1, .slice a2 (l[i]).under.marks.length c2, .slice a3 (l[i]).under.kids.length c3, .slice a4 (l[i]).mths.length c4] 40)).alloc (.cells #[.string (l[i]).name, .int .i64 (l[i]).under.kind, .string (l[i]).under.name, .int .i64 (l[i]).under.n, .bool (l[i]).under.flag, .slice p1 (l[i]).under.names.length r1, .slice p2 (l[i]).under.marks.length r2, .slice p3 (l[i]).under.kids.length r3, .slice p4 (l[i]).mths.length r4] 40))) := bthen (bthen (below_drew1 _) (below_alloc _ _)) (below_alloc _ _); have HBB7 : Hid (((w6.drew.alloc (.cells #[.string (l[i]).name, .int .i64 (l[i]).under.kind, .string (l[i]).under.name, .int .i64 (l[i]).under.n, .bool (l[i]).under.flag, .slice a1 (l[i]).under.names.length c1, .slice a2 (l[i]).under.marks.length c2, .slice a3 (l[i]).under.kids.length c3, .slice a4 (l[i]).mths.length c4] 40)).alloc (.cells #[.string (l[i]).name, .int .i64 (l[i]).under.kind, .string (l[i]).under.name, .int .i64 (l[i]).under.n, .bool (l[i]).under.flag, .slice p1 (l[i]).under.names.length r1, .slice p2 (l[i]).under.marks.length r2, .slice p3 (l[i]).under.kids.length r3, .slice p4 (l[i]).mths.length r4] 40)).heap[w6.heap.size]? = some (.cells #[.string (l[i]).name, .int .i64 (l[i]).under.kind, .string (l[i]).under.name, .int .i64 (l[i]).under.n, .bool (l[i]).under.flag, .slice a1 (l[i]).under.names.length c1, .slice a2 (l[i]).under.marks.length c2, .slice a3 (l[i]).under.kids.length c3, .slice a4 (l[i]).mths.length c4] 40 (0, 0))) := blk_kept (below_alloc _ _) (heap_new w6.drew _); have HA7 : Hid (((w6.drew.alloc (.cells #[.string (l[i]).name, .int .i64 (l[i]).under.kind, .string (l[i]).under.name, .int .i64 (l[i]).under.n, .bool (l[i]).under.flag, .slice a1 (l[i]).under.names.length c1, .slice a2 (l[i]).under.marks.length c2, .slice a3 (l[i]).under.kids.length c3, .slice a4 (l[i]).mths.length c4] 40)).alloc (.cells #[.string (l[i]).name, .int .i64 (l[i]).under.kind, .string (l[i]).under.name, .int .i64 (l[i]).under.n, .bool (l[i]).under.flag, .slice p1 (l[i]).under.names.length r1, .slice p2 (l[i]).under.marks.length r2, .slice p3 (l[i]).under.kids.length r3, .slice p4 (l[i]).mths.length r4] 40)).heap[w6.heap.size + 1]? = some (.cells #[.string (l[i]).name, .int .i64 (l[i]).under.kind, .string (l[i]).under.name, .int .i64 (l[i]).under.n, .bool (l[i]).under.flag, .slice p1 (l[i]).under.names.length r1, .slice p2 (l[i]).under.marks.length r2, .slice p3 (l[i]).under.kids.length r3, .slice p4 (l[i]).mths.length r4] 40 (0, 0))) := (by have := heap_new (w6.drew.alloc (.cells #[.string (l[i]).name, .int .i64 (l[i]).under.kind, .string (l[i]).under.name, .int .i64 (l[i]).under.n, .bool (l[i]).under.flag, .slice a1 (l[i]).under.names.length c1, .slice a2 (l[i]).under.marks.length c2, .slice a3 (l[i]).under.kids.length c3, .slice a4 (l[i]).mths.length c4] 40)) (.cells #[.string (l[i]).name, .int .i64 (l[i]).under.kind, .string (l[i]).under.name, .int .i64 (l[i]).under.n, .bool (l[i]).under.flag, .slice p1 (l[i]).under.names.length r1, .slice p2 (l[i]).under.marks.length r2, .slice p3 (l[i]).under.kids.length r3, .slice p4 (l[i]).mths.length r4] 40); rw [World.size_alloc] at this; exact this); have kS := HKP.out _ HB7.out
              refine hK.out _ _ (by exact kS) (fun hHeld => ?_)
              clear hK K hHeld
              try simp only [Act.put, List.setIfInBounds_toArray, List.set_cons_zero, List.set_cons_succ]
              refine wpAnyH_ready (rs := [10]) (by kernel_rfl) (by simp) ?_
              refine AllReadyH.cons (o := { dst := some 71, op := Op.call { callee := Callee.value (Operand.func 10), args := #[Operand.tmp 65, Operand.tmp 70], argTypes := #[22, 22] }, type := 4, pos := "law.go:137", after := #[{ on := 4, ground := Ground.data }, { on := 9, ground := Ground.data }, { on := 2, ground := Ground.chain }, { on := 2, ground := Ground.guard }], guard := some (2, false) }) rfl (fun K hK => ?_) AllReadyH.nil
              go_simp
              go_at_call 10; refine (HNA.out _ _ _ HB7.out HA7.out HBB7.out).mono ?_; rintro e x0 ⟨rfl, hx0⟩; have HX0 : Hid (Below w6.heap.size w6 x0) := bthen HB7.out hx0; have kS := HKP.out x0 HX0.out; clear hx0
              go_wp2_with fail
              refine hK.out _ _ (by exact kS) (fun hHeld => ?_)
              clear hK K hHeld
              try simp only [Act.put, List.setIfInBounds_toArray, List.set_cons_zero, List.set_cons_succ]
              refine wpAnyH_take (i := 11) (oi := { dst := some 72, op := Op.unOp UnOp.not 4 (Operand.tmp 71), type := 4, pos := "law.go:137", after := #[{ on := 10, ground := Ground.data }, { on := 2, ground := Ground.guard }], guard := some (2, false) }) (v := ?_) rfl (by kernel_rfl) (by kernel_rfl) (by kernel_rfl) (fun _ _ _ h => h) (Or.inl ⟨by rfl, ?_⟩) (by exact kS) ?_
              rotate_left
              · intro w hSw; (try dsimp only at hSw); (go_simp <;> with_reducible rfl)
              try simp only [Act.put, List.setIfInBounds_toArray, List.set_cons_zero, List.set_cons_succ]
              refine wpAnyH_take (i := 12) (oi := { dst := some 73, op := Op.pick (Operand.tmp 63) (Operand.const (Value.bool true)) (Operand.tmp 72), type := 4, pos := "law.go:137", after := #[{ on := 2, ground := Ground.data }, { on := 11, ground := Ground.data }], guard := none }) (v := ?_) rfl (by kernel_rfl) (by kernel_rfl) (by kernel_rfl) (fun _ _ _ h => h) (Or.inl ⟨by rfl, ?_⟩) (by exact kS) ?_
              rotate_left
              · intro w hSw; (try dsimp only at hSw); (go_simp <;> with_reducible rfl)
              try simp only [Act.put, List.setIfInBounds_toArray, List.set_cons_zero, List.set_cons_succ]
              refine wpAnyH_take (i := 13) (oi := { dst := some 74, op := Op.move (Operand.tmp 73), type := 4, pos := "law.go:137", after := #[{ on := 12, ground := Ground.data }, { on := 10, ground := Ground.chain }], guard := none }) (v := ?_) rfl (by kernel_rfl) (by kernel_rfl) (by kernel_rfl) (fun _ _ _ h => h) (Or.inl ⟨by rfl, ?_⟩) (by exact kS) ?_
              rotate_left
              · intro w hSw; (try dsimp only at hSw); (go_simp <;> with_reducible rfl)
              try simp only [Act.put, List.setIfInBounds_toArray, List.set_cons_zero, List.set_cons_succ]
              refine wpAnyH_take (i := 14) (oi := { dst := some 75, op := Op.move (Operand.tmp 5), type := 31, pos := "law.go:137", after := #[{ on := 13, ground := Ground.guard }], guard := some (13, false) }) (v := ?_) rfl (by kernel_rfl) (by kernel_rfl) (by kernel_rfl) (fun _ _ _ h => h) (Or.inl ⟨by rfl, ?_⟩) (by exact kS) ?_
              rotate_left
              · intro w hSw; (try dsimp only at hSw); (go_simp <;> with_reducible rfl)
              try simp only [Act.put, List.setIfInBounds_toArray, List.set_cons_zero, List.set_cons_succ]
              refine wpAnyH_take (i := 15) (oi := { dst := some 76, op := Op.move (Operand.tmp 0), type := 22, pos := "law.go:137", after := #[{ on := 13, ground := Ground.guard }], guard := some (13, false) }) (v := ?_) rfl (by kernel_rfl) (by kernel_rfl) (by kernel_rfl) (fun _ _ _ h => h) (Or.inl ⟨by rfl, ?_⟩) (by exact kS) ?_
              rotate_left
              · intro w hSw; (try dsimp only at hSw); (go_simp <;> with_reducible rfl)
              try simp only [Act.put, List.setIfInBounds_toArray, List.set_cons_zero, List.set_cons_succ]
              refine wpAnyH_take (i := 16) (oi := { dst := some 77, op := Op.move (Operand.tmp 9), type := 3, pos := "law.go:137", after := #[{ on := 13, ground := Ground.guard }], guard := some (13, false) }) (v := ?_) rfl (by kernel_rfl) (by kernel_rfl) (by kernel_rfl) (fun _ _ _ h => h) (Or.inl ⟨by rfl, ?_⟩) (by exact kS) ?_
              rotate_left
              · intro w hSw; (try dsimp only at hSw); (go_simp <;> with_reducible rfl)
              try simp only [Act.put, List.setIfInBounds_toArray, List.set_cons_zero, List.set_cons_succ]
              refine wpAnyH_take (i := 17) (oi := { dst := some 78, op := Op.indexAddr 22 (Operand.tmp 76) (Operand.tmp 77), type := 0, pos := "law.go:137", after := #[{ on := 15, ground := Ground.data }, { on := 16, ground := Ground.data }, { on := 13, ground := Ground.guard }], guard := some (13, false) }) (v := ?_) rfl (by kernel_rfl) (by kernel_rfl) (by kernel_rfl) (fun _ _ _ h => h) (Or.inl ⟨by rfl, ?_⟩) (by exact kS) ?_
              rotate_left
              · intro w hSw; (try dsimp only at hSw); (go_simp <;> with_reducible rfl)
              try simp only [Act.put, List.setIfInBounds_toArray, List.set_cons_zero, List.set_cons_succ]
              refine wpAnyH_take (i := 18) (oi := { dst := some 79, op := Op.fieldAddr 40 (Operand.tmp 78) 0, type := 0, pos := "law.go:137", after := #[{ on := 17, ground := Ground.data }, { on := 13, ground := Ground.guard }], guard := some (13, false) }) (v := ?_) rfl (by kernel_rfl) (by kernel_rfl) (by kernel_rfl) (fun _ _ _ h => h) (Or.inl ⟨by rfl, ?_⟩) (by exact kS) ?_
              rotate_left
              · intro w hSw; (try dsimp only at hSw); (go_simp <;> with_reducible rfl)
              try simp only [Act.put, List.setIfInBounds_toArray, List.set_cons_zero, List.set_cons_succ]
              refine wpAnyH_take (i := 19) (oi := { dst := some 80, op := Op.load 9 (Operand.tmp 79), type := 9, pos := "law.go:137", after := #[{ on := 18, ground := Ground.data }, { on := 13, ground := Ground.guard }], guard := some (13, false) }) (v := ?_) rfl (by kernel_rfl) (by kernel_rfl) (by kernel_rfl) (fun _ _ _ h => h) (Or.inl ⟨by rfl, ?_⟩) (by exact kS) ?_
              rotate_left
              · intro w hSw; (try dsimp only at hSw); (go_simp <;> with_reducible rfl)
              try simp only [Act.put, List.setIfInBounds_toArray, List.set_cons_zero, List.set_cons_succ]
              refine wpAnyH_take (i := 22) (oi := { dst := some 83, op := Op.move (Operand.tmp 7), type := 35, pos := "law.go:137", after := #[{ on := 13, ground := Ground.guard }], guard := some (13, false) }) (v := ?_) rfl (by kernel_rfl) (by kernel_rfl) (by kernel_rfl) (fun _ _ _ h => h) (Or.inl ⟨by rfl, ?_⟩) (by exact kS) ?_
              rotate_left
              · intro w hSw; (try dsimp only at hSw); (go_simp <;> with_reducible rfl)
              try simp only [Act.put, List.setIfInBounds_toArray, List.set_cons_zero, List.set_cons_succ]
              refine wpAnyH_take (i := 23) (oi := { dst := some 84, op := Op.move (Operand.tmp 0), type := 22, pos := "law.go:137", after := #[{ on := 13, ground := Ground.guard }], guard := some (13, false) }) (v := ?_) rfl (by kernel_rfl) (by kernel_rfl) (by kernel_rfl) (fun _ _ _ h => h) (Or.inl ⟨by rfl, ?_⟩) (by exact kS) ?_
              rotate_left
              · intro w hSw; (try dsimp only at hSw); (go_simp <;> with_reducible rfl)
              try simp only [Act.put, List.setIfInBounds_toArray, List.set_cons_zero, List.set_cons_succ]
              refine wpAnyH_take (i := 24) (oi := { dst := some 85, op := Op.move (Operand.tmp 9), type := 3, pos := "law.go:137", after := #[{ on := 13, ground := Ground.guard }], guard := some (13, false) }) (v := ?_) rfl (by kernel_rfl) (by kernel_rfl) (by kernel_rfl) (fun _ _ _ h => h) (Or.inl ⟨by rfl, ?_⟩) (by exact kS) ?_
              rotate_left
              · intro w hSw; (try dsimp only at hSw); (go_simp <;> with_reducible rfl)
              try simp only [Act.put, List.setIfInBounds_toArray, List.set_cons_zero, List.set_cons_succ]
              refine wpAnyH_take (i := 25) (oi := { dst := some 86, op := Op.indexAddr 22 (Operand.tmp 84) (Operand.tmp 85), type := 0, pos := "law.go:137", after := #[{ on := 23, ground := Ground.data }, { on := 24, ground := Ground.data }, { on := 13, ground := Ground.guard }], guard := some (13, false) }) (v := ?_) rfl (by kernel_rfl) (by kernel_rfl) (by kernel_rfl) (fun _ _ _ h => h) (Or.inl ⟨by rfl, ?_⟩) (by exact kS) ?_
              rotate_left
              · intro w hSw; (try dsimp only at hSw); (go_simp <;> with_reducible rfl)
              try simp only [Act.put, List.setIfInBounds_toArray, List.set_cons_zero, List.set_cons_succ]
              refine wpAnyH_take (i := 26) (oi := { dst := some 87, op := Op.fieldAddr 40 (Operand.tmp 86) 0, type := 0, pos := "law.go:137", after := #[{ on := 25, ground := Ground.data }, { on := 13, ground := Ground.guard }], guard := some (13, false) }) (v := ?_) rfl (by kernel_rfl) (by kernel_rfl) (by kernel_rfl) (fun _ _ _ h => h) (Or.inl ⟨by rfl, ?_⟩) (by exact kS) ?_
              rotate_left
              · intro w hSw; (try dsimp only at hSw); (go_simp <;> with_reducible rfl)
              try simp only [Act.put, List.setIfInBounds_toArray, List.set_cons_zero, List.set_cons_succ]
              refine wpAnyH_take (i := 27) (oi := { dst := some 88, op := Op.load 9 (Operand.tmp 87), type := 9, pos := "law.go:137", after := #[{ on := 26, ground := Ground.data }, { on := 13, ground := Ground.guard }], guard := some (13, false) }) (v := ?_) rfl (by kernel_rfl) (by kernel_rfl) (by kernel_rfl) (fun _ _ _ h => h) (Or.inl ⟨by rfl, ?_⟩) (by exact kS) ?_
              rotate_left
              · intro w hSw; (try dsimp only at hSw); (go_simp <;> with_reducible rfl)
              try simp only [Act.put, List.setIfInBounds_toArray, List.set_cons_zero, List.set_cons_succ]
              refine wpAnyH_ready (rs := [20]) (by kernel_rfl) (by simp) ?_
              refine AllReadyH.cons (o := { dst := some 81, op := Op.call { callee := Callee.value (Operand.func 13), args := #[Operand.tmp 80], argTypes := #[9] }, type := 27, pos := "law.go:137", after := #[{ on := 19, ground := Ground.data }, { on := 13, ground := Ground.chain }, { on := 13, ground := Ground.guard }], guard := some (13, false) }) rfl (fun K hK => ?_) AllReadyH.nil
              go_simp
              go_at_call 13; refine (name_any (l[i]).name x0 (fun _ => True)).mono ?_; intro e x1 hq; obtain ⟨n1, n2, n3, rfl, hpn⟩ := hq.ex; have HX1 : Hid (Below w6.heap.size w6 x1) := bthen HX0.out hq.bl; have HPN : Hid (Prt (fun _ => True) x1 (nmT (l[i]).name) n1 n2 n3) := hpn; have kS := HKP.out x1 HX1.out; clear hq hpn
              go_wp2_with fail
              refine hK.out _ _ (by exact kS) (fun hHeld => ?_)
              clear hK K hHeld
              try simp only [Act.put, List.setIfInBounds_toArray, List.set_cons_zero, List.set_cons_succ]
              refine wpAnyH_ready (rs := [21]) (by kernel_rfl) (by simp) ?_
              refine AllReadyH.cons (o := { dst := some 82, op := Op.call { callee := Callee.value (Operand.func 12), args := #[Operand.tmp 75, Operand.tmp 81], argTypes := #[31, 27] }, type := 27, pos := "law.go:137", after := #[{ on := 14, ground := Ground.data }, { on := 20, ground := Ground.data }, { on := 20, ground := Ground.chain }, { on := 13, ground := Ground.guard }], guard := some (13, false) }) rfl (fun K hK => ?_) AllReadyH.nil
              go_simp
              go_at_call 12; refine (under_at HL.out (kept_cell (bthen HB6.out HX1.out) HTR.out.1) (HTR.out.2.kept (bthen HB6.out HX1.out)) HPN.out HNMS.out HUN.out (fit_nm _) (by show (nmT _).cnt ≤ 1000; simp [nmT, Ty.cnt, cntL])).mono ?_; intro e x2 hq; obtain ⟨m1, m2, m3, rfl, hpu⟩ := hq.ex; have HX12 : Hid (Below x1.heap.size x1 x2) := hq.bl; have HX2 : Hid (Below w6.heap.size w6 x2) := bthen HX1.out hq.bl; have HPU : Hid (Prt (fun _ => True) x2 u0 m1 m2 m3) := hpu.with (fun _ _ _ => trivial); have kS := HKP.out x2 HX2.out; clear hq hpu
              go_wp2_with fail
              refine hK.out _ _ (by exact kS) (fun hHeld => ?_)
              clear hK K hHeld
              try simp only [Act.put, List.setIfInBounds_toArray, List.set_cons_zero, List.set_cons_succ]
              refine wpAnyH_ready (rs := [28]) (by kernel_rfl) (by simp) ?_
              refine AllReadyH.cons (o := { dst := some 89, op := Op.call { callee := Callee.value (Operand.func 15), args := #[Operand.tmp 88], argTypes := #[9] }, type := 27, pos := "law.go:137", after := #[{ on := 27, ground := Ground.data }, { on := 21, ground := Ground.chain }, { on := 13, ground := Ground.guard }], guard := some (13, false) }) rfl (fun K hK => ?_) AllReadyH.nil
              go_simp
              go_at_call 15; refine (rname_any (l[i]).name x2 (fun _ => True)).mono ?_; intro e x3 hq; obtain ⟨s1, s2, s3, rfl, hps⟩ := hq.ex; have HX23 : Hid (Below x2.heap.size x2 x3) := hq.bl; have HX3 : Hid (Below w6.heap.size w6 x3) := bthen HX2.out hq.bl; have HPS : Hid (Prt (fun _ => True) x3 (nmT (l[i]).name) s1 s2 s3) := hps; have kS := HKP.out x3 HX3.out; clear hq hps
              go_wp2_with fail
              refine hK.out _ _ (by exact kS) (fun hHeld => ?_)
              clear hK K hHeld
              try simp only [Act.put, List.setIfInBounds_toArray, List.set_cons_zero, List.set_cons_succ]
              refine wpAnyH_ready (rs := [29]) (by kernel_rfl) (by simp) ?_
              refine AllReadyH.cons (o := { dst := some 90, op := Op.call { callee := Callee.value (Operand.func 14), args := #[Operand.tmp 83, Operand.tmp 89], argTypes := #[35, 27] }, type := 27, pos := "law.go:137", after := #[{ on := 22, ground := Ground.data }, { on := 28, ground := Ground.data }, { on := 28, ground := Ground.chain }, { on := 13, ground := Ground.guard }], guard := some (13, false) }) rfl (fun K hK => ?_) AllReadyH.nil
              go_simp
              go_at_call 14; refine (runder_any (HUR.out.kept (bthen HB6.out HX3.out)) HND.out.1 HPS.out HUN.out).mono ?_; intro e x4 hq; obtain ⟨t1, t2, t3, rfl, hpt⟩ := hq.ex; have HX4 : Hid (Below w6.heap.size w6 x4) := bthen HX3.out hq.bl; have HPU4 : Hid (Prt (fun _ => True) x4 u0 m1 m2 m3) := HPU.out.kept (bthen HX23.out hq.bl); have HPT : Hid (Prt (fun _ => True) x4 u0 t1 t2 t3) := hpt.with (fun _ _ _ => trivial); have hty := types_any _ _ u0 u0 x4 _ _ _ _ _ _ HPU4.out HPT.out; rw [tyEq_true rfl] at hty; have kS := HKP.out x4 HX4.out; clear hq hpt
              go_wp2_with fail
              refine hK.out _ _ (by exact kS) (fun hHeld => ?_)
              clear hK K hHeld
              try simp only [Act.put, List.setIfInBounds_toArray, List.set_cons_zero, List.set_cons_succ]
              refine wpAnyH_ready (rs := [30]) (by kernel_rfl) (by simp) ?_
              refine AllReadyH.cons (o := { dst := some 91, op := Op.call { callee := Callee.value (Operand.func 11), args := #[Operand.tmp 82, Operand.tmp 90], argTypes := #[27, 27] }, type := 4, pos := "law.go:137", after := #[{ on := 21, ground := Ground.data }, { on := 29, ground := Ground.data }, { on := 29, ground := Ground.chain }, { on := 13, ground := Ground.guard }], guard := some (13, false) }) rfl (fun K hK => ?_) AllReadyH.nil
              go_simp
              go_at_call 11; refine hty.mono ?_; rintro e x5 ⟨rfl, hx5⟩; have HX5 : Hid (Below w6.heap.size w6 x5) := bthen HX4.out hx5; have kS := HKP.out x5 HX5.out; clear hx5 hty
              go_wp2_with fail
              refine hK.out _ _ (by exact kS) (fun hHeld => ?_)
              clear hK K hHeld
              try simp only [Act.put, List.setIfInBounds_toArray, List.set_cons_zero, List.set_cons_succ]
              refine wpAnyH_take (i := 31) (oi := { dst := some 92, op := Op.unOp UnOp.not 4 (Operand.tmp 91), type := 4, pos := "law.go:137", after := #[{ on := 30, ground := Ground.data }, { on := 13, ground := Ground.guard }], guard := some (13, false) }) (v := ?_) rfl (by kernel_rfl) (by kernel_rfl) (by kernel_rfl) (fun _ _ _ h => h) (Or.inl ⟨by rfl, ?_⟩) (by exact kS) ?_
              rotate_left
              · intro w hSw; (try dsimp only at hSw); (go_simp <;> with_reducible rfl)
              try simp only [Act.put, List.setIfInBounds_toArray, List.set_cons_zero, List.set_cons_succ]
              refine wpAnyH_take (i := 32) (oi := { dst := some 93, op := Op.pick (Operand.tmp 74) (Operand.const (Value.bool true)) (Operand.tmp 92), type := 4, pos := "law.go:137", after := #[{ on := 13, ground := Ground.data }, { on := 31, ground := Ground.data }], guard := none }) (v := ?_) rfl (by kernel_rfl) (by kernel_rfl) (by kernel_rfl) (fun _ _ _ h => h) (Or.inl ⟨by rfl, ?_⟩) (by exact kS) ?_
              rotate_left
              · intro w hSw; (try dsimp only at hSw); (go_simp <;> with_reducible rfl)
              try simp only [Act.put, List.setIfInBounds_toArray, List.set_cons_zero, List.set_cons_succ]
              refine wpAnyH_done (by kernel_rfl) ?_ _
              clear kS
              go_wp2_with fail
              go_roundg (l.length - (i + 1))
              case measure => omega
              case rel => exact ⟨i + 1, by omega, Nat.le_refl _, by go_num, bthen HX.out (bthen HB6.out HX5.out)⟩
          · have z1 : ¬ (i : Int) < (l.length : Int) := by omega
            obtain ⟨N0, u0, _, hun0⟩ := und_ex HND.out.2 t
            have HUN : Hid (Und l N0 t u0) := hun0
            have HPR : Hid (Prt (fun b => b < W.heap.size) wr t (.slice an t.names.length cn) (.slice am t.marks.length cm) (.slice ak t.kids.length ck)) := HP.out.kept HBR.out
            have HKP : Hid (∀ W', Below wr.heap.size wr W' → W'.cell? ⟨W.heap.size, 0, none⟩ = some (.int .i64 t.kind) ∧ W'.cell? ⟨W.heap.size, 1, none⟩ = some (.string t.name) ∧ W'.cell? ⟨W.heap.size, 2, none⟩ = some (.int .i64 t.n) ∧ W'.cell? ⟨W.heap.size, 3, none⟩ = some (.bool t.flag) ∧ W'.cell? ⟨W.heap.size, 4, none⟩ = some (.slice an t.names.length cn) ∧ W'.cell? ⟨W.heap.size, 5, none⟩ = some (.slice am t.marks.length cm) ∧ W'.cell? ⟨W.heap.size, 6, none⟩ = some (.slice ak t.kids.length ck)) := fun W' hb => by
              obtain ⟨g0, g1, g2, g3, g4, g5, g6⟩ := bx7 (blk_kept hb HXR.out)
              exact ⟨g0, g1, g2, g3, g4, g5, g6⟩
            have kS := HKP.out wr (Below.refl _ _)
            clear hun0
            go_wp2_with fail
            refine wp_region_held_drew (S := fun w' => w'.cell? ⟨W.heap.size, 0, none⟩ = some (.int .i64 t.kind) ∧ w'.cell? ⟨W.heap.size, 1, none⟩ = some (.string t.name) ∧ w'.cell? ⟨W.heap.size, 2, none⟩ = some (.int .i64 t.n) ∧ w'.cell? ⟨W.heap.size, 3, none⟩ = some (.bool t.flag) ∧ w'.cell? ⟨W.heap.size, 4, none⟩ = some (.slice an t.names.length cn) ∧ w'.cell? ⟨W.heap.size, 5, none⟩ = some (.slice am t.marks.length cm) ∧ w'.cell? ⟨W.heap.size, 6, none⟩ = some (.slice ak t.kids.length ck)) (by kernel_rfl) (by exact kS) (fun hHeld => ?_)
            clear hHeld
            refine wpAnyH_take (i := 0) (oi := { dst := some 94, op := Op.move (Operand.tmp 5), type := 31, pos := "law.go:141", after := #[], guard := none }) (v := ?_) rfl (by kernel_rfl) (by kernel_rfl) (by kernel_rfl) (fun _ _ _ h => h) (Or.inl ⟨by rfl, ?_⟩) (by exact kS) ?_
            rotate_left
            · intro w hSw; (try dsimp only at hSw); (go_simp <;> with_reducible rfl)
            try simp only [Act.put, List.setIfInBounds_toArray, List.set_cons_zero, List.set_cons_succ]
            refine wpAnyH_take (i := 1) (oi := { dst := some 95, op := Op.load 27 (Operand.tmp 3), type := 27, pos := "law.go:141", after := #[], guard := none }) (v := ?_) rfl (by kernel_rfl) (by kernel_rfl) (by kernel_rfl) (fun _ _ _ h => h) (Or.inl ⟨by rfl, ?_⟩) (by exact kS) ?_
            rotate_left
            · intro w hSw; (try dsimp only at hSw); (go_simp <;> with_reducible rfl)
            try simp only [Act.put, List.setIfInBounds_toArray, List.set_cons_zero, List.set_cons_succ]
            refine wpAnyH_take (i := 3) (oi := { dst := some 97, op := Op.move (Operand.tmp 7), type := 35, pos := "law.go:141", after := #[], guard := none }) (v := ?_) rfl (by kernel_rfl) (by kernel_rfl) (by kernel_rfl) (fun _ _ _ h => h) (Or.inl ⟨by rfl, ?_⟩) (by exact kS) ?_
            rotate_left
            · intro w hSw; (try dsimp only at hSw); (go_simp <;> with_reducible rfl)
            try simp only [Act.put, List.setIfInBounds_toArray, List.set_cons_zero, List.set_cons_succ]
            refine wpAnyH_take (i := 4) (oi := { dst := some 98, op := Op.load 27 (Operand.tmp 3), type := 27, pos := "law.go:141", after := #[], guard := none }) (v := ?_) rfl (by kernel_rfl) (by kernel_rfl) (by kernel_rfl) (fun _ _ _ h => h) (Or.inl ⟨by rfl, ?_⟩) (by exact kS) ?_
            rotate_left
            · intro w hSw; (try dsimp only at hSw); (go_simp <;> with_reducible rfl)
            try simp only [Act.put, List.setIfInBounds_toArray, List.set_cons_zero, List.set_cons_succ]
            refine wpAnyH_ready (rs := [2]) (by kernel_rfl) (by simp) ?_
            refine AllReadyH.cons (o := { dst := some 96, op := Op.call { callee := Callee.value (Operand.func 12), args := #[Operand.tmp 94, Operand.tmp 95], argTypes := #[31, 27] }, type := 27, pos := "law.go:141", after := #[{ on := 0, ground := Ground.data }, { on := 1, ground := Ground.data }], guard := none }) rfl (fun K hK => ?_) AllReadyH.nil
            go_simp
            go_at_call 12; refine (under_at HL.out (kept_cell (below_drew1 wr) HTR.out.1) (HTR.out.2.kept (below_drew1 wr)) (HPR.out.kept (below_drew1 wr)) (Ty.nsz_name HIN.out.2.2.1) HUN.out HIN.out.2.2.2 (by have := HCT.out; omega)).mono ?_; intro e x2 hq; obtain ⟨m1, m2, m3, rfl, hpu⟩ := hq.ex; have HX2 : Hid (Below wr.heap.size wr x2) := bthen (below_drew1 _) hq.bl; have HPU : Hid (Prt (fun _ => True) x2 u0 m1 m2 m3) := hpu.with (fun _ _ _ => trivial); have kS := HKP.out x2 HX2.out; clear hq hpu
            go_wp2_with fail
            refine hK.out _ _ (by exact kS) (fun hHeld => ?_)
            clear hK K hHeld
            try simp only [Act.put, List.setIfInBounds_toArray, List.set_cons_zero, List.set_cons_succ]
            refine wpAnyH_ready (rs := [5]) (by kernel_rfl) (by simp) ?_
            refine AllReadyH.cons (o := { dst := some 99, op := Op.call { callee := Callee.value (Operand.func 14), args := #[Operand.tmp 97, Operand.tmp 98], argTypes := #[35, 27] }, type := 27, pos := "law.go:141", after := #[{ on := 3, ground := Ground.data }, { on := 4, ground := Ground.data }, { on := 2, ground := Ground.chain }], guard := none }) rfl (fun K hK => ?_) AllReadyH.nil
            go_simp
            go_at_call 14; refine (runder_any (HUR.out.kept HX2.out) HND.out.1 (HPR.out.kept HX2.out) HUN.out).mono ?_; intro e x4 hq; obtain ⟨t1, t2, t3, rfl, hpt⟩ := hq.ex; have HX4 : Hid (Below wr.heap.size wr x4) := bthen HX2.out hq.bl; have HPU4 : Hid (Prt (fun _ => True) x4 u0 m1 m2 m3) := HPU.out.kept hq.bl; have HPT : Hid (Prt (fun _ => True) x4 u0 t1 t2 t3) := hpt.with (fun _ _ _ => trivial); have hty := types_any _ _ u0 u0 x4 _ _ _ _ _ _ HPU4.out HPT.out; rw [tyEq_true rfl] at hty; have kS := HKP.out x4 HX4.out; clear hq hpt
            go_wp2_with fail
            refine hK.out _ _ (by exact kS) (fun hHeld => ?_)
            clear hK K hHeld
            try simp only [Act.put, List.setIfInBounds_toArray, List.set_cons_zero, List.set_cons_succ]
            refine wpAnyH_ready (rs := [6]) (by kernel_rfl) (by simp) ?_
            refine AllReadyH.cons (o := { dst := some 100, op := Op.call { callee := Callee.value (Operand.func 11), args := #[Operand.tmp 96, Operand.tmp 99], argTypes := #[27, 27] }, type := 4, pos := "law.go:141", after := #[{ on := 2, ground := Ground.data }, { on := 5, ground := Ground.data }, { on := 5, ground := Ground.chain }], guard := none }) rfl (fun K hK => ?_) AllReadyH.nil
            go_simp
            go_at_call 11; refine hty.mono ?_; rintro e x5 ⟨rfl, hx5⟩; have HX5 : Hid (Below wr.heap.size wr x5) := bthen HX4.out hx5; have kS := HKP.out x5 HX5.out; clear hx5 hty
            go_wp2_with fail
            refine hK.out _ _ (by exact kS) (fun hHeld => ?_)
            clear hK K hHeld
            try simp only [Act.put, List.setIfInBounds_toArray, List.set_cons_zero, List.set_cons_succ]
            refine wpAnyH_take (i := 7) (oi := { dst := some 101, op := Op.move (Operand.tmp 100), type := 4, pos := "law.go:141", after := #[{ on := 6, ground := Ground.data }, { on := 6, ground := Ground.chain }], guard := none }) (v := ?_) rfl (by kernel_rfl) (by kernel_rfl) (by kernel_rfl) (fun _ _ _ h => h) (Or.inl ⟨by rfl, ?_⟩) (by exact kS) ?_
            rotate_left
            · intro w hSw; (try dsimp only at hSw); (go_simp <;> with_reducible rfl)
            try simp only [Act.put, List.setIfInBounds_toArray, List.set_cons_zero, List.set_cons_succ]
            refine wpAnyH_ready (rs := [8]) (by kernel_rfl) (by simp) ?_
            refine AllReadyH.cons (o := { dst := some 102, op := Op.call { callee := Callee.value (Operand.func 6), args := #[], argTypes := #[] }, type := 4, pos := "law.go:141", after := #[{ on := 7, ground := Ground.chain }, { on := 7, ground := Ground.guard }], guard := some (7, true) }) rfl (fun K hK => ?_) AllReadyH.nil
            go_simp
            go_at_call 6; refine (HAW.out x5).mono ?_; rintro e x6 ⟨rfl, hx6⟩; have HX6 : Hid (Below wr.heap.size wr x6) := bthen HX5.out hx6; have kS := HKP.out x6 HX6.out; clear hx6
            go_wp2_with fail
            refine hK.out _ _ (by exact kS) (fun hHeld => ?_)
            clear hK K hHeld
            try simp only [Act.put, List.setIfInBounds_toArray, List.set_cons_zero, List.set_cons_succ]
            refine wpAnyH_take (i := 9) (oi := { dst := some 103, op := Op.pick (Operand.tmp 101) (Operand.tmp 102) (Operand.const (Value.bool false)), type := 4, pos := "law.go:141", after := #[{ on := 7, ground := Ground.data }, { on := 8, ground := Ground.data }], guard := none }) (v := ?_) rfl (by kernel_rfl) (by kernel_rfl) (by kernel_rfl) (fun _ _ _ h => h) (Or.inl ⟨by rfl, ?_⟩) (by exact kS) ?_
            rotate_left
            · intro w hSw; (try dsimp only at hSw); (go_simp <;> with_reducible rfl)
            try simp only [Act.put, List.setIfInBounds_toArray, List.set_cons_zero, List.set_cons_succ]
            refine wpAnyH_take (i := 10) (oi := { dst := some 4, op := Op.assign (Operand.tmp 103), type := 4, pos := "law.go:141", after := #[{ on := 9, ground := Ground.data }, { on := 8, ground := Ground.chain }, { on := 0, ground := Ground.phase }, { on := 1, ground := Ground.phase }, { on := 2, ground := Ground.phase }, { on := 3, ground := Ground.phase }, { on := 4, ground := Ground.phase }, { on := 5, ground := Ground.phase }, { on := 6, ground := Ground.phase }, { on := 7, ground := Ground.phase }, { on := 8, ground := Ground.phase }, { on := 9, ground := Ground.phase }], guard := none }) (v := ?_) rfl (by kernel_rfl) (by kernel_rfl) (by kernel_rfl) (fun _ _ _ h => h) (Or.inl ⟨by rfl, ?_⟩) (by exact kS) ?_
            rotate_left
            · intro w hSw; (try dsimp only at hSw); (go_simp <;> with_reducible rfl)
            try simp only [Act.put, List.setIfInBounds_toArray, List.set_cons_zero, List.set_cons_succ]
            refine wpAnyH_done (by kernel_rfl) ?_ _
            clear kS
            go_wp2_with fail
            go_ret
            exact ⟨rfl, bthen HBR.out HX6.out⟩
end Go.Proofs.Ytpcpncgigdebiaa

