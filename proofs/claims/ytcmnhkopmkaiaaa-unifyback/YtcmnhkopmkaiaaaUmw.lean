/-
  (*unify.walk).match, walked.
-/
import Derived.Test.YtcmnhkopmkaiaaaUmj
import Derived.Test.YtcmnhkopmkaiaaaUmc
namespace Go.Proofs.Ytcmnhkopmkaiaaa
open Go.RowKit
attribute [local go_sem ↓] Go.wp_at_zero Go.wp_at_succ
theorem Kx.than {X : Nat → Prop} {A B C : World} (h : Kx X A B) (k : Below B.heap.size B C) : Kx X A C := h.trans (Kx.of_whole k)
theorem mtc_open {x y : Ty} {xs : List Ty} (h : y.opn = true) : x.mtc y xs = (false, xs) := by
  cases x; unfold Ty.mtc; rw [if_pos h]
theorem mtc_par {x y : Ty} {xs : List Ty} (i : Nat) (h : y.opn = false) (hk : x.kind = 9) (hn : x.n = (i : Int)) (hi : i < xs.length) : x.mtc y xs = if (xs[i]).kind = 0 then (true, xs.set i y) else ((xs[i]).idn y, xs) := by
  cases x
  simp only [Ty.kind, Ty.n] at hk hn
  subst hk hn
  unfold Ty.mtc
  rw [if_neg (by rw [h]; exact Bool.false_ne_true), if_pos ⟨rfl, by omega, by omega⟩]
  simp [hi]
theorem mtc_not {x y : Ty} {xs : List Ty} (h : y.opn = false) (hc : ¬ (x.kind = 9 ∧ 0 ≤ x.n ∧ x.n < (xs.length : Int))) (hu : x.uak y = false) : x.mtc y xs = (false, xs) := by
  cases x
  simp only [Ty.kind, Ty.n] at hc
  unfold Ty.mtc
  rw [if_neg (by rw [h]; exact Bool.false_ne_true), if_neg hc, if_neg]
  intro he
  rw [Ty.uak, decide_eq_false_iff_not] at hu
  exact hu he
theorem mtc_kids {x y : Ty} {xs : List Ty} (h : y.opn = false) (hc : ¬ (x.kind = 9 ∧ 0 ≤ x.n ∧ x.n < (xs.length : Int))) (hu : x.uak y = true) : x.mtc y xs = mcL x.kids y.kids xs ∧ x.kids.length = y.kids.length := by
  rw [Ty.uak, decide_eq_true_iff] at hu
  cases x
  refine ⟨?_, hu.2.2.2.2.2.2⟩
  unfold Ty.mtc
  rw [if_neg (by rw [h]; exact Bool.false_ne_true)]
  exact (if_neg hc).trans (if_pos hu)
set_option maxRecDepth 100000 in
set_option maxHeartbeats 8000000 in
theorem mat_any (E : Nat → Prop) (g og : Nat) (hE : E g) (wb : Nat) (hwb : ¬ E wb) (va : Value) (B B' : BQ) (hB : ∀ b, B b → ¬ E b) (hB' : ∀ b, B' b → ¬ E b) : ∀ (x : Ty) (y : Ty) (xs : List Ty) (w : World) (b o b' o' deep : Nat), g < w.heap.size → ¬ E b → ¬ E b' → x.lies B w b o → y.lies B' w b' o' → w.cell? ⟨wb, 0, none⟩ = some va → w.cell? ⟨wb, 1, none⟩ = some (.slice none 0 0) → ArgS E g og w va xs → (∀ t ∈ xs, t.cnt ≤ 1000000) → y.cnt ≤ 1000000 → deep + x.cnt ≤ 1000 →
    Calls Try.prog 28 #[pv ⟨wb, 0, none⟩, .agg #[pv ⟨b, o, none⟩, pv ⟨b', o', none⟩], .int .i64 (deep : Int)] w (MtQ E g og w va (x.mtc y xs)) := by
  refine Ty.ind fun k nm n f ns ms ks ih y xs w b o b' o' deep hgw hb hb' hx hy hw0 hw1 ha hcs hcy hdp => ?_
  obtain ⟨x, hxx⟩ : ∃ x, x = Ty.mk k nm n f ns ms ks := ⟨_, rfl⟩
  have hkk : x.kids = ks := by rw [hxx]; rfl
  rw [← hxx] at hx hdp ⊢
  rw [← hkk] at ih
  clear hkk hxx
  clear k nm n f ns ms ks
  have HI : Hid (∀ z ∈ x.kids, ∀ (y : Ty) (xs : List Ty) (w : World) (b o b' o' deep : Nat), g < w.heap.size → ¬ E b → ¬ E b' → z.lies B w b o → y.lies B' w b' o' → w.cell? ⟨wb, 0, none⟩ = some va → w.cell? ⟨wb, 1, none⟩ = some (.slice none 0 0) → ArgS E g og w va xs → (∀ t ∈ xs, t.cnt ≤ 1000000) → y.cnt ≤ 1000000 → deep + z.cnt ≤ 1000 →
    Calls Try.prog 28 #[pv ⟨wb, 0, none⟩, .agg #[pv ⟨b, o, none⟩, pv ⟨b', o', none⟩], .int .i64 (deep : Int)] w (MtQ E g og w va (z.mtc y xs))) := ih
  obtain ⟨W0, hW0⟩ : ∃ W0, W0 = w.alloc (.cells #[pv ⟨b, o, none⟩, pv ⟨b', o', none⟩] 56) := ⟨_, rfl⟩
  have hb0 : Below w.heap.size w W0 := by rw [hW0]; exact below_alloc _ _
  have HB0 : Hid (Below w.heap.size w W0) := hb0
  have hbk : W0.heap[w.heap.size]? = some (.cells #[pv ⟨b, o, none⟩, pv ⟨b', o', none⟩] 56 (0, 0)) := by rw [hW0]; exact heap_new _ _
  have p0 := cell_of hbk 0
  have p1 := cell_of hbk 1
  simp only [List.getElem?_toArray, List.getElem?_cons_zero, List.getElem?_cons_succ] at p0 p1
  have q0 := kept_cell hb0 hw0
  have q1 := kept_cell hb0 hw1
  have HKP : Hid (∀ W, Below W0.heap.size W0 W → W.cell? ⟨w.heap.size, 0, none⟩ = some (pv ⟨b, o, none⟩) ∧ W.cell? ⟨w.heap.size, 1, none⟩ = some (pv ⟨b', o', none⟩) ∧ W.cell? ⟨wb, 0, none⟩ = some va ∧ W.cell? ⟨wb, 1, none⟩ = some (.slice none 0 0)) := fun W h => ⟨kept_cell h p0, kept_cell h p1, kept_cell h q0, kept_cell h q1⟩
  have HLX : Hid (∀ W, Below W0.heap.size W0 W → x.lies B W b o) := fun W h => lies_to (X := fun _ => False) (Kx.of_whole (bthen hb0 h)) (fun _ _ h => h) (fun _ _ _ h => h) _ _ _ (fun h => h) hx
  have HLY : Hid (∀ W, Below W0.heap.size W0 W → y.lies B' W b' o') := fun W h => lies_to (X := fun _ => False) (Kx.of_whole (bthen hb0 h)) (fun _ _ h => h) (fun _ _ _ h => h) _ _ _ (fun h => h) hy
  have HA : Hid (∀ W, Below W0.heap.size W0 W → ArgS E g og W va xs) := fun W h => ha.kept (bthen hb0 h)
  have HEB : Hid (¬ E b ∧ ¬ E b') := ⟨hb, hb'⟩
  have HCS : Hid (∀ t ∈ xs, t.cnt ≤ 1000000) := hcs
  have HCY : Hid (y.cnt ≤ 1000000) := hcy
  have HDP : Hid (deep + x.cnt ≤ 1000) := hdp
  have hsl : Calls Try.prog 44 #[pv ⟨b', o', none⟩] W0 fun e w' => e = .returned (.bool y.opn) ∧ Below W0.heap.size W0 w' := silent_any (lies_iff.1 (HLY.out W0 (Below.refl _ _))).1
  have hz1 : w.heap.size < W0.heap.size := by rw [hW0]; simp
  clear ih hx hy hw0 hw1 ha hb hb' hcs hcy hdp hb0 hbk
  by_cases hop : y.opn = true
  · rw [mtc_open hop]
    rw [hop] at hsl
    clear hop
    subst hW0
    go_enter Try.func28, Try.ntmps28
    go_wp2_with (go_at_call 44; refine hsl.mono ?_; rintro e x1 ⟨rfl, hb1⟩; have HB1 : Hid (Below _ _ x1) := hb1; clear hsl hb1)
    go_ret
    exact ⟨rfl, (Kx.of_whole HB0.out).than HB1.out, HA.out _ HB1.out⟩
  · have hop : y.opn = false := by simpa using hop
    rw [hop] at hsl
    have HOP : Hid (y.opn = false) := hop
    clear hop
    by_cases hc : x.kind = 9 ∧ 0 ≤ x.n ∧ x.n < (xs.length : Int)
    · obtain ⟨i, hi⟩ : ∃ i : Nat, x.n = (i : Int) := ⟨x.n.toNat, by omega⟩
      have hi' : i < xs.length := by omega
      obtain ⟨a9, c9, rfl, hlen⟩ := (HA.out W0 (Below.refl _ _)).form
      obtain rfl : a9 = some ⟨g, og, none⟩ := by
        rcases HA.out W0 (Below.refl _ _) with ⟨_, _, _, e⟩ | ⟨_, _, e, _⟩
        · rw [e] at hi'; cases hi'
        · simp at e; exact e.1
      rw [mtc_par i HOP.out hc.1 hi hi']
      have HAR : Hid (∀ W, Below W0.heap.size W0 W → Calls Try.prog 45 #[pv ⟨b, o, none⟩, .slice (some ⟨g, og, none⟩) xs.length c9] W fun e w' => e = .returned (.pointer (some ⟨g, og + i * 7, none⟩)) ∧ w' = W) := fun W h => by
        obtain ⟨l0, _, l2, _⟩ := lies_iff.1 (HLX.out W h)
        rw [hc.1] at l0
        rw [hi] at l2
        exact argument_some i l0 l2 hi' hlen
      have HST : Hid (∀ W, Below W0.heap.size W0 W → Calls Try.prog 46 #[pv ⟨g, og + i * 7, none⟩, pv ⟨b', o', none⟩] W (MtQ E g og W (.slice (some ⟨g, og, none⟩) xs.length c9) (if (xs[i]).kind = 0 then (true, xs.set i y) else ((xs[i]).idn y, xs)))) := fun W h => settle_any E g og hE hB' i y b' o' xs c9 W hi' (HLY.out W h) (HA.out W h) (HCS.out _ (List.getElem_mem _))
      generalize hr : (if (xs[i]).kind = 0 then (true, xs.set i y) else ((xs[i]).idn y, xs)) = r at *
      clear hr hc hi hi' hlen HI
      subst hW0
      go_enter Try.func28, Try.ntmps28
      go_wp2_with fail
      refine hsl.mono ?_
      rintro e x1 ⟨rfl, hb1⟩
      have HB1 : Hid (Below _ _ x1) := hb1
      have hc1 := HAR.out x1.drew (bthen HB1.out (below_drew1 _))
      have kS := HKP.out x1 HB1.out
      clear p0 p1 q0 q1 hsl hb1
      go_wp2_with fail
      go_region_held3 (fun W => W.cell? ⟨w.heap.size, 0, none⟩ = some (pv ⟨b, o, none⟩) ∧ W.cell? ⟨w.heap.size, 1, none⟩ = some (pv ⟨b', o', none⟩) ∧ W.cell? ⟨wb, 0, none⟩ = some (.slice (some ⟨g, og, none⟩) xs.length c9) ∧ W.cell? ⟨wb, 1, none⟩ = some (.slice none 0 0))
        (first | exact kS | go_keep)
        (first | (go_at_call 45; refine hc1.mono ?_; rintro e w3 ⟨rfl, rfl⟩; have kS := HKP.out x1.drew (bthen HB1.out (below_drew1 _)); clear hc1))
      have hs1 := HST.out x1.drew (bthen HB1.out (below_drew1 _))
      go_wp2_with (go_at_call 46; refine hs1.mono ?_; intro e w4 hq4; obtain ⟨rfl, hq1, hq2⟩ := hq4; have HQ1 : Hid (Kx (· = g) x1.drew w4) := hq1; have HQ2 : Hid (ArgS E g og w4 (.slice (some ⟨g, og, none⟩) xs.length c9) r.2) := hq2; clear hq1 hq2 hs1)
      go_ret
      exact ⟨rfl, (((Kx.of_whole HB0.out).than HB1.out).than (below_drew1 _)).trans HQ1.out, HQ2.out⟩
    · have HAR : Hid (∀ W, Below W0.heap.size W0 W → Calls Try.prog 45 #[pv ⟨b, o, none⟩, va] W fun e w' => e = .returned (.pointer none) ∧ w' = W) := fun W h => by
        obtain ⟨l0, _, l2, _⟩ := lies_iff.1 (HLX.out W h)
        obtain ⟨a9, c9, rfl, hlen⟩ := (HA.out W h).form
        exact argument_none x.kind x.n l0 l2 hc
      have HUA : Hid (∀ W, Below W0.heap.size W0 W → Calls Try.prog 47 #[pv ⟨b, o, none⟩, pv ⟨b', o', none⟩] W fun e w' => e = .returned (.bool (x.uak y)) ∧ ∃ m, w' = W.drewN m) := fun W h => ualike_any (HLX.out W h) (HLY.out W h)
      obtain ⟨a9, c9, hva, _⟩ := (HA.out W0 (Below.refl _ _)).form
      by_cases hu : x.uak y = true
      · obtain ⟨em, el⟩ := mtc_kids HOP.out hc hu
        rw [em]
        rw [hu] at HUA
        have HEL : Hid (x.kids.length = y.kids.length) := el
        generalize hR : mcL x.kids y.kids xs = R at *
        have HR : Hid (mcL x.kids y.kids xs = R) := hR
        clear hR hc hu em el
        subst hva
        subst hW0
        go_enter Try.func28, Try.ntmps28
        go_wp2_with fail
        refine hsl.mono ?_
        rintro e x1 ⟨rfl, hb1⟩
        have HB1 : Hid (Below _ _ x1) := hb1
        have hc1 := HAR.out x1.drew (bthen HB1.out (below_drew1 _))
        have kS := HKP.out x1 HB1.out
        clear p0 p1 q0 q1 hsl hb1
        go_wp2_with fail
        go_region_held3 (fun W => W.cell? ⟨w.heap.size, 0, none⟩ = some (pv ⟨b, o, none⟩) ∧ W.cell? ⟨w.heap.size, 1, none⟩ = some (pv ⟨b', o', none⟩) ∧ W.cell? ⟨wb, 0, none⟩ = some (.slice a9 xs.length c9) ∧ W.cell? ⟨wb, 1, none⟩ = some (.slice none 0 0))
          (first | exact kS | go_keep)
          (first | (go_at_call 45; refine hc1.mono ?_; rintro e w3 ⟨rfl, rfl⟩; have kS := HKP.out x1.drew (bthen HB1.out (below_drew1 _)); clear hc1))
        have hs1 := HUA.out x1.drew (bthen HB1.out (below_drew1 _))
        go_wp2_with fail
        refine hs1.mono ?_
        rintro e x2 ⟨rfl, q2, rfl⟩
        have hb2 : Below _ _ (x1.drew.drewN q2) := bthen (bthen HB1.out (below_drew1 _)) (below_dn _ _)
        generalize x1.drew.drewN q2 = x2 at *
        have HB2 : Hid (Below _ _ x2) := hb2
        obtain ⟨p0, p1, q0, q1⟩ := HKP.out x2 hb2
        obtain ⟨c0, c1, c2, c3, vn, vm, vk, c4, c5, c6, hp⟩ := lies_iff.1 (HLX.out x2 hb2)
        obtain ⟨d0, d1, d2, d3, un, um, uk, d4, d5, d6, hq⟩ := lies_iff.1 (HLY.out x2 hb2)
        obtain ⟨ak, ck, rfl, hlen, hel⟩ := hp.ks.open
        obtain ⟨bk, ek, rfl, hlen', hel'⟩ := hq.ks.open
        have HE1 : Hid (∀ i (hi : i < x.kids.length), ∃ b o, ak = some ⟨b, o, none⟩ ∧ b < x2.heap.size ∧ B b ∧ (x.kids[i]).lies B x2 b (o + i * 7)) := hel
        have HE2 : Hid (∀ i (hi : i < y.kids.length), ∃ b o, bk = some ⟨b, o, none⟩ ∧ b < x2.heap.size ∧ B' b ∧ (y.kids[i]).lies B' x2 b (o + i * 7)) := hel'
        have HA2 : Hid (ArgS E g og x2 (.slice a9 xs.length c9) xs) := HA.out _ hb2
        clear kS hs1 hb2 hel hel' hp hq c0 c1 c2 c3 c4 c5 d0 d1 d2 d3 d4 d5
        have HP0 : Hid (x2.cell? ⟨w.heap.size, 0, none⟩ = some (pv ⟨b, o, none⟩)) := p0
        have HP1 : Hid (x2.cell? ⟨w.heap.size, 1, none⟩ = some (pv ⟨b', o', none⟩)) := p1
        have HQ0 : Hid (x2.cell? ⟨wb, 0, none⟩ = some (.slice a9 xs.length c9)) := q0
        have HQ1 : Hid (x2.cell? ⟨wb, 1, none⟩ = some (.slice none 0 0)) := q1
        have HC6 : Hid (x2.cell? ⟨b, o + 6, none⟩ = some (.slice ak x.kids.length ck)) := c6
        have HD6 : Hid (x2.cell? ⟨b', o' + 6, none⟩ = some (.slice bk y.kids.length ek)) := d6
        rw [← HEL.out] at HD6 d6
        obtain ⟨K, hK⟩ : ∃ K, x.kids.length = K := ⟨_, rfl⟩
        rw [hK] at HC6 HD6 c6 d6 hlen
        have HKK : Hid (x.kids.length = K) := hK
        clear hK hlen'
        have HN1 : Hid (w.heap.size ≠ g ∧ wb ≠ g ∧ b ≠ g ∧ b' ≠ g) := ⟨by omega, fun e => hwb (by rw [e]; exact hE), fun e => HEB.out.1 (by rw [e]; exact hE), fun e => HEB.out.2 (by rw [e]; exact hE)⟩
        have hz2 : w.heap.size < x2.heap.size := Nat.lt_of_lt_of_le hz1 HB2.out.size
        go_wp2_with fail
        go_loopg [38] K (fun gh u38 wr => ∃ (i : Nat) (ys : List Ty), i ≤ K ∧ K - i ≤ gh ∧ u38 = .int .i64 i ∧ Hid (Kx (· = g) x2 wr ∧ ArgS E g og wr (.slice a9 xs.length c9) ys ∧ (∀ t ∈ ys, t.cnt ≤ 1000000) ∧ mcL (x.kids.drop i) (y.kids.drop i) ys = R))
        case atStart => exact ⟨0, xs, Nat.zero_le _, Nat.le_refl _, rfl, Kx.refl _ _, HA2.out, HCS.out, HR.out⟩
        case round =>
          obtain ⟨i, ys, hi, hg, rfl, HX⟩ := hrel
          have HXK : Hid (Kx (· = g) x2 wr) := HX.out.1
          have HXA : Hid (ArgS E g og wr (.slice a9 xs.length c9) ys) := HX.out.2.1
          have HXC : Hid (∀ t ∈ ys, t.cnt ≤ 1000000) := HX.out.2.2.1
          have HXR : Hid (mcL (x.kids.drop i) (y.kids.drop i) ys = R) := HX.out.2.2.2
          clear HX
          have p0 := HXK.out.cell HP0.out HN1.out.1
          have p1 := HXK.out.cell HP1.out HN1.out.1
          have q0 := HXK.out.cell HQ0.out HN1.out.2.1
          have q1 := HXK.out.cell HQ1.out HN1.out.2.1
          have c6 := HXK.out.cell HC6.out HN1.out.2.2.1
          have d6 := HXK.out.cell HD6.out HN1.out.2.2.2
          have hz3 := HXK.out.size
          by_cases hlt : i < K
          · have z1 : (i : Int) < (K : Int) := by omega
            have z0 : (0 : Int) ≤ (i : Int) := by omega
            have l1 : i < x.kids.length := by rw [HKK.out]; exact hlt
            have l2 : i < y.kids.length := by rw [← HEL.out]; exact l1
            obtain ⟨kb, ko, rfl, hkb1, hkb2, hkb3⟩ := HE1.out i l1
            obtain ⟨mb, mo, rfl, hmb1, hmb2, hmb3⟩ := HE2.out i l2
            have hdd : deep + x.cnt ≤ 1000 := HDP.out
            have hd0 : x.cnt = cntL x.kids + 1 := Ty.cnt_eq x
            have hd1 : (x.kids[i]).cnt < x.cnt := cnt_kid (List.getElem_mem _)
            have hd2 : (y.kids[i]).cnt < y.cnt := cnt_kid (List.getElem_mem _)
            have HCI : Hid (∀ W, Below wr.heap.size wr W → Calls Try.prog 28 #[pv ⟨wb, 0, none⟩, .agg #[pv ⟨kb, ko + i * 7, none⟩, pv ⟨mb, mo + i * 7, none⟩], .int .i64 ((deep : Int) + 1)] W (MtQ E g og W (.slice a9 xs.length c9) ((x.kids[i]).mtc y.kids[i] ys))) := fun W h => by
              have hk2 : Kx (· = g) x2 W := HXK.out.than h
              have := HI.out x.kids[i] (List.getElem_mem _) y.kids[i] ys W kb (ko + i * 7) mb (mo + i * 7) (deep + 1) (by have := h.size; omega) (hB _ hkb2) (hB' _ hmb2) (lies_to hk2 (fun _ _ h => h) (fun c _ h e => hB _ h (by rw [e]; exact hE)) _ _ _ (fun e => hB _ hkb2 (by rw [e]; exact hE)) hkb3) (lies_to hk2 (fun _ _ h => h) (fun c _ h e => hB' _ h (by rw [e]; exact hE)) _ _ _ (fun e => hB' _ hmb2 (by rw [e]; exact hE)) hmb3) (kept_cell h q0) (kept_cell h q1) (HXA.out.kept h) HXC.out (by have := HCY.out; omega) (by omega)
              rw [Int.natCast_add] at this
              exact this
            have zd : ((deep : Int) == 1000) = false := int_bne (by omega)
            have zd2 : (deep : Int) + 1 ≤ 9223372036854775807 := by omega
            have HDR := mcL_drop x.kids y.kids ys i l1 l2
            rw [HXR.out] at HDR
            have HDR' : Hid (R = if ((x.kids[i]).mtc y.kids[i] ys).1 = true then mcL (x.kids.drop (i + 1)) (y.kids.drop (i + 1)) ((x.kids[i]).mtc y.kids[i] ys).2 else (false, ((x.kids[i]).mtc y.kids[i] ys).2)) := HDR
            have HAL : Hid (∀ t ∈ ((x.kids[i]).mtc y.kids[i] ys).2, t.cnt ≤ 1000000) := Ty.mtc_all (fun t => t.cnt ≤ 1000000) _ _ _ (by have := HCY.out; omega) (fun t ht z hz => by have := cnt_kid hz; omega) HXC.out
            generalize (x.kids[i]).mtc y.kids[i] ys = r1 at *
            clear HDR hkb1 hkb2 hkb3 hmb1 hmb2 hmb3 hdd hd0 hd1 hd2
            have v1 : b < wr.heap.size := World.block_lt_of_cell? _ _ c6
            have v2 : b' < wr.heap.size := World.block_lt_of_cell? _ _ d6
            have v3 : w.heap.size < wr.heap.size := World.block_lt_of_cell? _ _ p0
            have v4 : wb < wr.heap.size := World.block_lt_of_cell? _ _ q0
            go_wp2_with fail
            have kS : wr.cell? ⟨w.heap.size, 0, none⟩ = some (pv ⟨b, o, none⟩) ∧ wr.cell? ⟨w.heap.size, 1, none⟩ = some (pv ⟨b', o', none⟩) ∧ wr.cell? ⟨b, o + 6, none⟩ = some (.slice (some ⟨kb, ko, none⟩) K ck) ∧ wr.cell? ⟨b', o' + 6, none⟩ = some (.slice (some ⟨mb, mo, none⟩) K ek) := ⟨p0, p1, c6, d6⟩
            go_region_held3 (fun W => W.cell? ⟨w.heap.size, 0, none⟩ = some (pv ⟨b, o, none⟩) ∧ W.cell? ⟨w.heap.size, 1, none⟩ = some (pv ⟨b', o', none⟩) ∧ W.cell? ⟨b, o + 6, none⟩ = some (.slice (some ⟨kb, ko, none⟩) K ck) ∧ W.cell? ⟨b', o' + 6, none⟩ = some (.slice (some ⟨mb, mo, none⟩) K ek))
              (first | exact kS | go_keep)
              (fail)
            have hb9 : Below wr.heap.size wr (wr.alloc (.cells #[pv ⟨kb, ko + i * 7, none⟩, pv ⟨mb, mo + i * 7, none⟩] 56)).drew := bthen (below_alloc _ _) (below_drew1 _)
            have hn9 : (wr.alloc (.cells #[pv ⟨kb, ko + i * 7, none⟩, pv ⟨mb, mo + i * 7, none⟩] 56)).drew.heap[wr.heap.size]? = some (.cells #[pv ⟨kb, ko + i * 7, none⟩, pv ⟨mb, mo + i * 7, none⟩] 56 (0, 0)) := heap_new wr _
            have hi9 := HCI.out _ hb9
            generalize (wr.alloc (.cells #[pv ⟨kb, ko + i * 7, none⟩, pv ⟨mb, mo + i * 7, none⟩] 56)).drew = x9 at *
            have HB9 : Hid (Below wr.heap.size wr x9) := hb9
            have m0 := cell_of hn9 0
            have m1 := cell_of hn9 1
            simp only [List.getElem?_toArray, List.getElem?_cons_zero, List.getElem?_cons_succ] at m0 m1
            have n1 := kept_cell hb9 q1
            clear hb9 hn9 kS HCI p0 p1 q0 q1 c6 d6
            obtain ⟨r1a, r1b⟩ := r1
            cases r1a with
            | false =>
              have hR : R = (false, r1b) := by rw [HDR'.out]; rfl
              subst hR
              go_wp2_with (go_at_call 28; refine hi9.mono ?_; intro e w4 hq4; obtain ⟨rfl, hq1, hq2⟩ := hq4; have HQ8 : Hid (Kx (· = g) x9 w4) := hq1; have HQ9 : Hid (ArgS E g og w4 (.slice a9 xs.length c9) r1b) := hq2; clear hq1 hq2 hi9)
              go_ret
              exact ⟨rfl, (((Kx.of_whole HB0.out).than HB2.out).trans (HXK.out.than HB9.out)).trans HQ8.out, HQ9.out⟩
            | true =>
              have hR : mcL (x.kids.drop (i + 1)) (y.kids.drop (i + 1)) r1b = R := by rw [HDR'.out]; rfl
              have HR9 : Hid (mcL (x.kids.drop (i + 1)) (y.kids.drop (i + 1)) r1b = R) := hR
              clear hR
              go_wp2_with (go_at_call 28; refine hi9.mono ?_; intro e w4 hq4; obtain ⟨rfl, hq1, hq2⟩ := hq4; have HQ8 : Hid (Kx (· = g) x9 w4) := hq1; have HQ9 : Hid (ArgS E g og w4 (.slice a9 xs.length c9) r1b) := hq2; clear hq1 hq2 hi9)
              go_roundg (K - (i + 1))
              case measure => omega
              case rel => exact ⟨i + 1, r1b, by omega, Nat.le_refl _, by go_num, (HXK.out.than HB9.out).trans HQ8.out, HQ9.out, HAL.out, HR9.out⟩
          · have z1 : ¬ (i : Int) < (K : Int) := by omega
            have hR : R = (true, ys) := by
              rw [← HXR.out, List.drop_eq_nil_of_le (by rw [HKK.out]; omega), mcL_nil]
            subst hR
            go_wp2_with fail
            go_ret
            exact ⟨rfl, ((Kx.of_whole HB0.out).than HB2.out).trans HXK.out, HXA.out⟩
      · have hu : x.uak y = false := by simpa using hu
        rw [mtc_not HOP.out hc hu]
        rw [hu] at HUA
        clear hc hu
        subst hva
        subst hW0
        go_enter Try.func28, Try.ntmps28
        go_wp2_with fail
        refine hsl.mono ?_
        rintro e x1 ⟨rfl, hb1⟩
        have HB1 : Hid (Below _ _ x1) := hb1
        have hc1 := HAR.out x1.drew (bthen HB1.out (below_drew1 _))
        have kS := HKP.out x1 HB1.out
        clear p0 p1 q0 q1 hsl hb1
        go_wp2_with fail
        go_region_held3 (fun W => W.cell? ⟨w.heap.size, 0, none⟩ = some (pv ⟨b, o, none⟩) ∧ W.cell? ⟨w.heap.size, 1, none⟩ = some (pv ⟨b', o', none⟩) ∧ W.cell? ⟨wb, 0, none⟩ = some (.slice a9 xs.length c9) ∧ W.cell? ⟨wb, 1, none⟩ = some (.slice none 0 0))
          (first | exact kS | go_keep)
          (first | (go_at_call 45; refine hc1.mono ?_; rintro e w3 ⟨rfl, rfl⟩; have kS := HKP.out x1.drew (bthen HB1.out (below_drew1 _)); clear hc1))
        have hs1 := HUA.out x1.drew (bthen HB1.out (below_drew1 _))
        go_wp2_with (go_at_call 47; refine hs1.mono ?_; rintro e w4 ⟨rfl, q4, rfl⟩; clear hs1)
        go_ret
        exact ⟨rfl, ((Kx.of_whole HB0.out).than HB1.out).than (below_dn _ _), HA.out _ (bthen HB1.out (below_dn _ _))⟩
end Go.Proofs.Ytcmnhkopmkaiaaa

