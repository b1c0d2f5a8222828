/-
  unify.argument and unify.settle, walked.
-/
import Derived.Test.YtcmnhkopmkaiaaaUmi
namespace Go.Proofs.Ytcmnhkopmkaiaaa
open Go.RowKit
attribute [local go_sem ↓] Go.wp_at_zero Go.wp_at_succ
theorem frz7 {w : World} {g : Nat} {cs : Array Value} {T : TypeId} (h : w.heap[g]? = some (.cells cs T (0, 0))) (j : Nat) : w.frozen? ⟨g, j, none⟩ = false := by simp [World.frozen?, h]
/-- a type parameter whose number the row has -/
theorem argument_some {w : World} {b o g og c m : Nat} (i : Nat) (c0 : w.cell? ⟨b, o, none⟩ = some (.int .i64 9)) (c2 : w.cell? ⟨b, o + 2, none⟩ = some (.int .i64 (i : Int))) (hi : i < m) (_hm : (m : Int) ≤ 9223372036854775807) : Calls Try.prog 45 #[pv ⟨b, o, none⟩, .slice (some ⟨g, og, none⟩) m c] w fun e w' => e = .returned (.pointer (some ⟨g, og + i * 7, none⟩)) ∧ w' = w := by
  have z0 : (0 : Int) ≤ (i : Int) := by omega
  have z1 : (i : Int) < (m : Int) := by omega
  have z2 : ¬ (i : Int) < 0 := by omega
  have z3 : ¬ (m : Int) ≤ (i : Int) := by omega
  go_enter Try.func45, Try.ntmps45
  go_wp2_with fail
  go_ret
  exact ⟨rfl, rfl⟩
theorem argument_none {w : World} {b o c m : Nat} {a : Option Addr} (k n : Int) (c0 : w.cell? ⟨b, o, none⟩ = some (.int .i64 k)) (c2 : w.cell? ⟨b, o + 2, none⟩ = some (.int .i64 n)) (h : ¬ (k = 9 ∧ 0 ≤ n ∧ n < (m : Int))) : Calls Try.prog 45 #[pv ⟨b, o, none⟩, .slice a m c] w fun e w' => e = .returned (.pointer none) ∧ w' = w := by
  by_cases h9 : k = 9
  · subst h9
    by_cases h0 : n < 0
    · go_enter Try.func45, Try.ntmps45
      go_wp2_with fail
      go_ret
      exact ⟨rfl, rfl⟩
    · have z3 : (m : Int) ≤ n := by omega
      clear h
      go_enter Try.func45, Try.ntmps45
      go_wp2_with fail
      go_ret
      exact ⟨rfl, rfl⟩
  · have k9 := int_bne h9
    have k9b : (k != 9) = true := by simp [bne, k9]
    clear h
    go_enter Try.func45, Try.ntmps45
    go_wp2_with fail
    go_ret
    exact ⟨rfl, rfl⟩
set_option maxRecDepth 100000 in
set_option maxHeartbeats 8000000 in
theorem settle_any (E : Nat → Prop) (g o : Nat) (hE : E g) {B' : BQ} (hB' : ∀ b, B' b → ¬ E b) (i : Nat) (y : Ty) (b' o' : Nat) (xs : List Ty) (c : Nat) (w : World) (hi : i < xs.length) (hy : y.lies B' w b' o') (ha : ArgS E g o w (.slice (some ⟨g, o, none⟩) xs.length c) xs) (hc1 : (xs[i]).cnt ≤ 1000000) :
    Calls Try.prog 46 #[pv ⟨g, o + i * 7, none⟩, pv ⟨b', o', none⟩] w (MtQ E g o w (.slice (some ⟨g, o, none⟩) xs.length c) (if (xs[i]).kind = 0 then (true, xs.set i y) else ((xs[i]).idn y, xs))) := by
  obtain ⟨t0, t1, t2, t3, un, um, uk, t4, t5, t6, hq⟩ := lies_iff.1 hy
  obtain ⟨yan, ycn, yam, ycm, yak, yck, rfl, rfl, rfl⟩ := hq.form
  obtain ⟨cs, hbk, hlz⟩ : ∃ cs, w.heap[g]? = some (.cells cs 26 (0, 0)) ∧ (xs[i]).lies (fun b => ¬ E b) w g (o + i * 7) := by
    rcases ha with ⟨_, _, e, hx⟩ | ⟨c', cs, e, h1, h2, h3, h4⟩
    · rw [hx] at hi
      cases hi
    · exact ⟨cs, h1, liesT_get h4 i hi⟩
  obtain ⟨e0, e1, e2, e3, v4, v5, v6, e4, e5, e6, hpz⟩ := lies_iff.1 hlz
  obtain ⟨bn, dn, bm, dm, bk, dk, rfl, rfl, rfl⟩ := hpz.form
  have HID : Hid (∀ W, Below w.heap.size w W → Calls Try.prog 13 #[agT xs[i] (.slice bn (xs[i]).names.length dn) (.slice bm (xs[i]).marks.length dm) (.slice bk (xs[i]).kids.length dk), agT y (.slice yan y.names.length ycn) (.slice yam y.marks.length ycm) (.slice yak y.kids.length yck)] W fun e w' => e = .returned (.bool ((xs[i]).idn y)) ∧ Below W.heap.size W w') := fun W hb => idn_any (hpz.kept hb) (hq.kept hb) hc1
  have HUN : Hid (Calls Try.prog 52 #[agT xs[i] (.slice bn (xs[i]).names.length dn) (.slice bm (xs[i]).marks.length dm) (.slice bk (xs[i]).kids.length dk)] w fun e w' => e = .returned (.bool ((xs[i]).kind == 0)) ∧ Below w.heap.size w w') := unknown_any _ _ _ _
  have HQ : Hid (Prt (fun b => ¬ E b) w y (.slice yan y.names.length ycn) (.slice yam y.marks.length ycm) (.slice yak y.kids.length yck)) := hq.with (fun b _ h => hB' b h)
  have HA : Hid (ArgS E g o w (.slice (some ⟨g, o, none⟩) xs.length c) xs) := ha
  have HII : Hid (i < xs.length) := hi
  have HBK : Hid (w.heap[g]? = some (.cells cs 26 (0, 0))) := hbk
  unfold agT at HID HUN
  generalize hidn : (xs[i]).idn y = D at *
  clear hidn hy hq ha hlz hpz hbk hB'
  have HPUT : Hid (∀ W, Below w.heap.size w W → ArgS E g o (set7 W g (o + i * 7) (.int .i64 y.kind) (.string y.name) (.int .i64 y.n) (.bool y.flag) (.slice yan y.names.length ycn) (.slice yam y.marks.length ycm) (.slice yak y.kids.length yck)) (.slice (some ⟨g, o, none⟩) xs.length c) (xs.set i y)) := fun W hb => ArgS.put (c := c) hE (HA.out.kept hb) (HQ.out.kept hb) i HII.out
  generalize (xs[i]).kind = kz at *
  generalize (xs[i]).name = nz at *
  generalize (xs[i]).n = qz at *
  generalize (xs[i]).flag = fz at *
  generalize (xs[i]).names.length = l1 at *
  generalize (xs[i]).marks.length = l2 at *
  generalize (xs[i]).kids.length = l3 at *
  generalize y.kind = yk at *
  generalize y.name = ynm at *
  generalize y.n = yn at *
  generalize y.flag = yf at *
  generalize y.names.length = yln at *
  generalize y.marks.length = ylm at *
  generalize y.kids.length = ylk at *
  clear hc1 hi HQ
  by_cases c0 : kz = 0
  · have y0 : (kz == 0) = true := by simpa using c0
    rw [if_pos c0]
    clear HID c0
    go_enter Try.func46, Try.ntmps46
    go_wp2_with fail
    refine HUN.out.mono ?_
    rintro e x1 ⟨rfl, hb⟩
    rw [y0]
    have HB1 : Hid (Below w.heap.size w x1) := hb
    have HK1 : Hid (x1.heap[g]? = some (.cells cs 26 (0, 0))) := blk_kept hb HBK.out
    have e0 := kept_cell hb e0
    have e1 := kept_cell hb e1
    have e2 := kept_cell hb e2
    have e3 := kept_cell hb e3
    have e4 := kept_cell hb e4
    have e5 := kept_cell hb e5
    have e6 := kept_cell hb e6
    have t0 := kept_cell hb t0
    have t1 := kept_cell hb t1
    have t2 := kept_cell hb t2
    have t3 := kept_cell hb t3
    have t4 := kept_cell hb t4
    have t5 := kept_cell hb t5
    have t6 := kept_cell hb t6
    clear hb
    have z1 := frz7 HK1.out (o + i * 7)
    have z2 := frz7 HK1.out (o + i * 7 + 1)
    have z3 := frz7 HK1.out (o + i * 7 + 2)
    have z4 := frz7 HK1.out (o + i * 7 + 3)
    have z5 := frz7 HK1.out (o + i * 7 + 4)
    have z6 := frz7 HK1.out (o + i * 7 + 5)
    have z8 := frz7 HK1.out (o + i * 7 + 6)
    go_wp2_with fail
    go_ret
    exact ⟨rfl, (Kx.of_whole HB1.out).trans kx_set7k, HPUT.out _ HB1.out⟩
  · have y0 : (kz == 0) = false := by simpa using c0
    rw [if_neg c0]
    clear c0 HPUT
    have HKP : Hid (∀ W, Below w.heap.size w W → W.cell? ⟨g, o + i * 7, none⟩ = some (.int .i64 kz) ∧ W.cell? ⟨g, o + i * 7 + 1, none⟩ = some (.string nz) ∧ W.cell? ⟨g, o + i * 7 + 2, none⟩ = some (.int .i64 qz) ∧ W.cell? ⟨g, o + i * 7 + 3, none⟩ = some (.bool fz) ∧ W.cell? ⟨g, o + i * 7 + 4, none⟩ = some (.slice bn l1 dn) ∧ W.cell? ⟨g, o + i * 7 + 5, none⟩ = some (.slice bm l2 dm) ∧ W.cell? ⟨g, o + i * 7 + 6, none⟩ = some (.slice bk l3 dk) ∧ W.cell? ⟨b', o', none⟩ = some (.int .i64 yk) ∧ W.cell? ⟨b', o' + 1, none⟩ = some (.string ynm) ∧ W.cell? ⟨b', o' + 2, none⟩ = some (.int .i64 yn) ∧ W.cell? ⟨b', o' + 3, none⟩ = some (.bool yf) ∧ W.cell? ⟨b', o' + 4, none⟩ = some (.slice yan yln ycn) ∧ W.cell? ⟨b', o' + 5, none⟩ = some (.slice yam ylm ycm) ∧ W.cell? ⟨b', o' + 6, none⟩ = some (.slice yak ylk yck)) := fun W h => ⟨kept_cell h e0, kept_cell h e1, kept_cell h e2, kept_cell h e3, kept_cell h e4, kept_cell h e5, kept_cell h e6, kept_cell h t0, kept_cell h t1, kept_cell h t2, kept_cell h t3, kept_cell h t4, kept_cell h t5, kept_cell h t6⟩
    go_enter Try.func46, Try.ntmps46
    go_wp2_with fail
    refine HUN.out.mono ?_
    rintro e x1 ⟨rfl, hb⟩
    rw [y0]
    have HB1 : Hid (Below w.heap.size w x1) := hb
    have hc := HID.out x1.drew (bthen hb (below_drew1 _))
    clear hb e0 e1 e2 e3 e4 e5 e6 t0 t1 t2 t3 t4 t5 t6
    have kS := HKP.out x1 HB1.out
    go_wp2_with fail
    go_region_held3 (fun W => W.cell? ⟨g, o + i * 7, none⟩ = some (.int .i64 kz) ∧ W.cell? ⟨g, o + i * 7 + 1, none⟩ = some (.string nz) ∧ W.cell? ⟨g, o + i * 7 + 2, none⟩ = some (.int .i64 qz) ∧ W.cell? ⟨g, o + i * 7 + 3, none⟩ = some (.bool fz) ∧ W.cell? ⟨g, o + i * 7 + 4, none⟩ = some (.slice bn l1 dn) ∧ W.cell? ⟨g, o + i * 7 + 5, none⟩ = some (.slice bm l2 dm) ∧ W.cell? ⟨g, o + i * 7 + 6, none⟩ = some (.slice bk l3 dk) ∧ W.cell? ⟨b', o', none⟩ = some (.int .i64 yk) ∧ W.cell? ⟨b', o' + 1, none⟩ = some (.string ynm) ∧ W.cell? ⟨b', o' + 2, none⟩ = some (.int .i64 yn) ∧ W.cell? ⟨b', o' + 3, none⟩ = some (.bool yf) ∧ W.cell? ⟨b', o' + 4, none⟩ = some (.slice yan yln ycn) ∧ W.cell? ⟨b', o' + 5, none⟩ = some (.slice yam ylm ycm) ∧ W.cell? ⟨b', o' + 6, none⟩ = some (.slice yak ylk yck))
      (first | exact kS | go_keep)
      (first | (go_at_call 13; refine hc.mono ?_; rintro e w3 ⟨rfl, hb3⟩; have HB3 : Hid (Below w.heap.size w w3) := bthen (bthen HB1.out (below_drew1 _)) hb3; have kS := HKP.out w3 HB3.out; clear hb3 hc))
    go_wp2_with fail
    go_ret
    exact ⟨rfl, Kx.of_whole HB3.out, HA.out.kept HB3.out⟩
end Go.Proofs.Ytcmnhkopmkaiaaa

