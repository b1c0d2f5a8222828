/-
  recastalike.Types, walked.
-/
import Derived.Test.YtpcpncgigdebiaaJaB
import Derived.Test.YtpcpncgigdebiaaJaL
namespace Go.Proofs.Ytpcpncgigdebiaa
open Go.RowKit
attribute [local go_sem ↓] Go.wp_at_zero Go.wp_at_succ
/-- are they one? -/
noncomputable def tyEq (a b : Ty) : Bool := @decide (a = b) (Classical.propDecidable _)
theorem tyEq_true {a b : Ty} (h : a = b) : tyEq a b = true := by unfold tyEq; simp [h]
theorem tyEq_false {a b : Ty} (h : a ≠ b) : tyEq a b = false := by unfold tyEq; simp [h]
theorem tyEq_iff {a b : Ty} : tyEq a b = true ↔ a = b := by unfold tyEq; simp
set_option maxRecDepth 100000 in
set_option maxHeartbeats 4000000 in
theorem types_any (B B' : BQ) : ∀ x : Ty, ∀ (y : Ty) (w : World) (vn vm vk un um uk : Value), Prt B w x vn vm vk → Prt B' w y un um uk → Calls Try.prog 11 #[agT x vn vm vk, agT y un um uk] w fun e w' => e = .returned (.bool (tyEq x y)) ∧ Below w.heap.size w w' := by
  refine Ty.ind fun xk xnm xn xf xns xms xks ih y w vn vm vk un um uk hp hq => ?_
  have HI : Hid (∀ x ∈ xks, ∀ (y : Ty) (w : World) (vn vm vk un um uk : Value), Prt B w x vn vm vk → Prt B' w y un um uk → Calls Try.prog 11 #[agT x vn vm vk, agT y un um uk] w fun e w' => e = .returned (.bool (tyEq x y)) ∧ Below w.heap.size w w') := ih
  obtain ⟨yk, ynm, yn, yf, yns, yms, yks⟩ := y
  obtain ⟨xan, xcn, xam, xcm, xak, xck, rfl, rfl, rfl⟩ := hp.form
  obtain ⟨yan, ycn, yam, ycm, yak, yck, rfl, rfl, rfl⟩ := hq.form
  unfold agT
  simp only [Ty.kind, Ty.name, Ty.n, Ty.flag, Ty.names, Ty.marks, Ty.kids] at hp hq ⊢
  obtain ⟨xlk, hxl⟩ : ∃ n, n = xks.length := ⟨_, rfl⟩
  obtain ⟨ylk, hyl⟩ : ∃ n, n = yks.length := ⟨_, rfl⟩
  rw [← hxl] at hp ⊢
  rw [← hyl] at hq ⊢
  obtain ⟨W0, hW0⟩ : ∃ W0, W0 = (w.alloc (.cells #[.int .i64 xk, .string xnm, .int .i64 xn, .bool xf, .slice xan xns.length xcn, .slice xam xms.length xcm, .slice xak xlk xck] 27)).alloc (.cells #[.int .i64 yk, .string ynm, .int .i64 yn, .bool yf, .slice yan yns.length ycn, .slice yam yms.length ycm, .slice yak ylk yck] 27) := ⟨_, rfl⟩
  have hb0 : Below w.heap.size w W0 := by rw [hW0]; exact bthen (below_alloc _ _) (below_alloc _ _)
  have HB0 : Hid (Below w.heap.size w W0) := hb0
  have hz0 := hb0.size
  have HP : Hid (Prt B W0 (.mk xk xnm xn xf xns xms xks) (.slice xan xns.length xcn) (.slice xam xms.length xcm) (.slice xak xlk xck)) := hp.kept hb0
  have HQ : Hid (Prt B' W0 (.mk yk ynm yn yf yns yms yks) (.slice yan yns.length ycn) (.slice yam yms.length ycm) (.slice yak ylk yck)) := hq.kept hb0
  obtain ⟨a0, c0, e0, hlen, hel⟩ := HP.out.ks.open
  obtain ⟨rfl, hq9, rfl⟩ : xak = a0 ∧ xlk = xks.length ∧ xck = c0 := by simpa [Ty.kids] using e0
  clear hq9
  have HEL : Hid (∀ i (hi : i < xks.length), ∃ b o, xak = some ⟨b, o, none⟩ ∧ b < W0.heap.size ∧ B b ∧ (xks[i]).lies B W0 b (o + i * 7)) := hel
  have hlen : (xlk : Int) ≤ 9223372036854775807 := by rw [hxl]; exact hlen
  clear e0 hel
  obtain ⟨a0, c0, e0, hlen', hel⟩ := HQ.out.ks.open
  obtain ⟨rfl, hq9, rfl⟩ : yak = a0 ∧ ylk = yks.length ∧ yck = c0 := by simpa [Ty.kids] using e0
  clear hq9
  have HEM : Hid (∀ i (hi : i < yks.length), ∃ b o, yak = some ⟨b, o, none⟩ ∧ b < W0.heap.size ∧ B' b ∧ (yks[i]).lies B' W0 b (o + i * 7)) := hel
  have HX0 : Hid (W0.heap[w.heap.size]? = some (.cells #[.int .i64 xk, .string xnm, .int .i64 xn, .bool xf, .slice xan xns.length xcn, .slice xam xms.length xcm, .slice xak xlk xck] 27 (0, 0))) := by
    show _ = _
    rw [hW0]; exact blk_kept (below_alloc _ _) (heap_new _ _)
  have HY0 : Hid (W0.heap[w.heap.size + 1]? = some (.cells #[.int .i64 yk, .string ynm, .int .i64 yn, .bool yf, .slice yan yns.length ycn, .slice yam yms.length ycm, .slice yak ylk yck] 27 (0, 0))) := by
    show _ = _
    rw [hW0]
    have := heap_new (w.alloc (.cells #[.int .i64 xk, .string xnm, .int .i64 xn, .bool xf, .slice xan xns.length xcn, .slice xam xms.length xcm, .slice xak xlk xck] 27)) (.cells #[.int .i64 yk, .string ynm, .int .i64 yn, .bool yf, .slice yan yns.length ycn, .slice yam yms.length ycm, .slice yak ylk yck] 27)
    simpa using this
  clear ih hp hq hb0 e0 hel hlen'
  have n1 : StrV B W0 (.slice xan xns.length xcn) xns := HP.out.ns
  have n2 : StrV B' W0 (.slice yan yns.length ycn) yns := HQ.out.ns
  have m1 : BooV B W0 (.slice xam xms.length xcm) xms := HP.out.ms
  have m2 : BooV B' W0 (.slice yam yms.length ycm) yms := HQ.out.ms
  have hTX := texts_any n1 n2
  have hBX := fun W (h : Below W0.heap.size W0 W) => bools_any (m1.kept h) (m2.kept h)
  clear n1 n2 m1 m2
  obtain ⟨R, hR⟩ : ∃ R, R = tyEq (.mk xk xnm xn xf xns xms xks) (.mk yk ynm yn yf yns yms yks) := ⟨_, rfl⟩
  rw [← hR]
  have HF : Hid ((xk ≠ yk ∨ xnm ≠ ynm ∨ xn ≠ yn ∨ xf ≠ yf ∨ xns ≠ yns ∨ xms ≠ yms ∨ xks ≠ yks) → R = false) := fun h => by
    rw [hR]; apply tyEq_false; intro e; injection e with e1 e2 e3 e4 e5 e6 e7
    rcases h with h | h | h | h | h | h | h
    · exact h e1
    · exact h e2
    · exact h e3
    · exact h e4
    · exact h e5
    · exact h e6
    · exact h e7
  have HTT : Hid (xk = yk → xnm = ynm → xn = yn → xf = yf → xns = yns → xms = yms → xks = yks → R = true) := fun h1 h2 h3 h4 h5 h6 h7 => by
    rw [hR]; apply tyEq_true; rw [h1, h2, h3, h4, h5, h6, h7]
  have HXL : Hid (xlk = xks.length) := hxl
  have HYL : Hid (ylk = yks.length) := hyl
  clear hR HP HQ hxl hyl
  obtain ⟨s0, s1, s2, s3, s4, s5, s6⟩ := bx7 HX0.out
  obtain ⟨t0, t1, t2, t3, t4, t5, t6⟩ := bx7 HY0.out
  subst hW0
  by_cases c0 : xk = yk
  · subst c0
    by_cases c1 : xnm = ynm
    · subst c1
      by_cases c2 : xn = yn
      · subst c2
        by_cases c3 : xf = yf
        · subst c3
          by_cases c4 : xns = yns
          · rw [decide_eq_true c4] at hTX
            have C4 : Hid (xns = yns) := c4
            clear c4
            by_cases c5 : xms = yms
            · rw [decide_eq_true c5] at hBX
              have C5 : Hid (xms = yms) := c5
              clear c5
              by_cases c6 : xlk = ylk
              · subst c6
                go_enter Try.func11, Try.ntmps11
                go_wp2_with fail
                generalize (w.alloc (.cells #[.int .i64 xk, .string xnm, .int .i64 xn, .bool xf, .slice xan xns.length xcn, .slice xam xms.length xcm, .slice xak xlk xck] 27)).alloc (.cells #[.int .i64 xk, .string xnm, .int .i64 xn, .bool xf, .slice yan yns.length ycn, .slice yam yms.length ycm, .slice yak xlk yck] 27) = W0 at *
                go_wp2_with (first
                  | (go_at_call 32; refine hTX.mono ?_; rintro e w1 ⟨rfl, hb1⟩; have HB1 : Hid (Below W0.heap.size W0 w1) := hb1; obtain ⟨s0, s1, s2, s3, s4, s5, s6⟩ := bx7 (blk_kept hb1 HX0.out); obtain ⟨t0, t1, t2, t3, t4, t5, t6⟩ := bx7 (blk_kept hb1 HY0.out); have hb9 := hBX _ hb1; clear hb1 hTX)
                  | (go_at_call 33; refine hb9.mono ?_; rintro e w2 ⟨rfl, hb2⟩; have HB2 : Hid (Below W0.heap.size W0 w2) := HB1.out.trans (hb2.mono HB1.out.size); obtain ⟨s0, s1, s2, s3, s4, s5, s6⟩ := bx7 (blk_kept HB2.out HX0.out); obtain ⟨t0, t1, t2, t3, t4, t5, t6⟩ := bx7 (blk_kept HB2.out HY0.out); clear hb2 hb9))
                go_loopg [5] xlk (fun g u5 wr => ∃ i : Nat, i ≤ xlk ∧ xlk - i ≤ g ∧ u5 = .int .i64 i ∧ Hid (Below W0.heap.size W0 wr ∧ ∀ j (h1 : j < xks.length) (h2 : j < yks.length), j < i → xks[j] = yks[j]))
                case atStart => exact ⟨0, Nat.zero_le _, Nat.le_refl _, rfl, HB2.out, fun j _ _ hj => by omega⟩
                case round =>
                  obtain ⟨i, hi, hg, rfl, HX⟩ := hrel
                  clear s0 s1 s2 s3 s4 s5 s6 t0 t1 t2 t3 t4 t5 t6
                  obtain ⟨s0, s1, s2, s3, s4, s5, s6⟩ := bx7 (blk_kept HX.out.1 HX0.out)
                  obtain ⟨t0, t1, t2, t3, t4, t5, t6⟩ := bx7 (blk_kept HX.out.1 HY0.out)
                  by_cases hlt : i < xlk
                  · have z1 : (i : Int) < (xlk : Int) := by omega
                    have z0 : (0 : Int) ≤ (i : Int) := by omega
                    have hlx : i < xks.length := by rw [← HXL.out]; exact hlt
                    have hlt' : i < yks.length := by rw [← HYL.out]; exact hlt
                    obtain ⟨b, o, rfl, _, _, hli⟩ := HEL.out i hlx
                    obtain ⟨b', o', rfl, _, _, hli'⟩ := HEM.out i hlt'
                    obtain ⟨e0, e1, e2, e3, v4, v5, v6, e4, e5, e6, hpi⟩ := lies_iff.1 hli
                    obtain ⟨bn, dn, bm, dm, bk, dk, rfl, rfl, rfl⟩ := hpi.form
                    obtain ⟨f0, f1, f2, f3, q4, q5, q6, f4, f5, f6, hqi⟩ := lies_iff.1 hli'
                    obtain ⟨gn, jn, gm, jm, gk', jk, rfl, rfl, rfl⟩ := hqi.form
                    have hc := HI.out xks[i] (List.getElem_mem _) yks[i] (wr.drew) _ _ _ _ _ _ (hpi.kept (HX.out.1.trans ((below_drew1 _).mono HX.out.1.size))) (hqi.kept (HX.out.1.trans ((below_drew1 _).mono HX.out.1.size)))
                    have HXB : Hid (Below W0.heap.size W0 wr) := HX.out.1
                    have HXE : Hid (∀ j (h1 : j < xks.length) (h2 : j < yks.length), j < i → xks[j] = yks[j]) := HX.out.2
                    have HKP : Hid (∀ W, Below W0.heap.size W0 W → (W.cell? ⟨b, o + i * 7, none⟩ = some (.int .i64 (xks[i]).kind) ∧ W.cell? ⟨b, o + i * 7 + 1, none⟩ = some (.string (xks[i]).name) ∧ W.cell? ⟨b, o + i * 7 + 2, none⟩ = some (.int .i64 (xks[i]).n) ∧ W.cell? ⟨b, o + i * 7 + 3, none⟩ = some (.bool (xks[i]).flag) ∧ W.cell? ⟨b, o + i * 7 + 4, none⟩ = some (.slice bn (xks[i]).names.length dn) ∧ W.cell? ⟨b, o + i * 7 + 5, none⟩ = some (.slice bm (xks[i]).marks.length dm) ∧ W.cell? ⟨b, o + i * 7 + 6, none⟩ = some (.slice bk (xks[i]).kids.length dk)) ∧ (W.cell? ⟨b', o' + i * 7, none⟩ = some (.int .i64 (yks[i]).kind) ∧ W.cell? ⟨b', o' + i * 7 + 1, none⟩ = some (.string (yks[i]).name) ∧ W.cell? ⟨b', o' + i * 7 + 2, none⟩ = some (.int .i64 (yks[i]).n) ∧ W.cell? ⟨b', o' + i * 7 + 3, none⟩ = some (.bool (yks[i]).flag) ∧ W.cell? ⟨b', o' + i * 7 + 4, none⟩ = some (.slice gn (yks[i]).names.length jn) ∧ W.cell? ⟨b', o' + i * 7 + 5, none⟩ = some (.slice gm (yks[i]).marks.length jm) ∧ W.cell? ⟨b', o' + i * 7 + 6, none⟩ = some (.slice gk' (yks[i]).kids.length jk)) ∧ (W.cell? ⟨w.heap.size, 6, none⟩ = some (.slice (some ⟨b, o, none⟩) xlk xck) ∧ W.cell? ⟨w.heap.size + 1, 6, none⟩ = some (.slice (some ⟨b', o', none⟩) xlk yck))) := fun W h => ⟨⟨kept_cell h e0, kept_cell h e1, kept_cell h e2, kept_cell h e3, kept_cell h e4, kept_cell h e5, kept_cell h e6⟩, ⟨kept_cell h f0, kept_cell h f1, kept_cell h f2, kept_cell h f3, kept_cell h f4, kept_cell h f5, kept_cell h f6⟩, (bx7 (blk_kept h HX0.out)).2.2.2.2.2.2, (bx7 (blk_kept h HY0.out)).2.2.2.2.2.2⟩
                    unfold agT at hc
                    have HEQ : Hid (∀ b, tyEq xks[i] yks[i] = b → (b = true ↔ xks[i] = yks[i])) := fun b h => by rw [← h]; exact tyEq_iff
                    have kS := HKP.out wr HXB.out
                    clear hli hpi hli' hqi HX e0 e1 e2 e3 e4 e5 e6 f0 f1 f2 f3 f4 f5 f6
                    obtain ⟨bb, hbb⟩ : ∃ bb, tyEq xks[i] yks[i] = bb := ⟨_, rfl⟩
                    have HBB := HEQ.out bb hbb
                    have HBH : Hid (bb = true ↔ xks[i] = yks[i]) := HBB
                    rw [hbb] at hc
                    clear hbb HBB HEQ
                    generalize (xks[i]).kind = ki at *
                    generalize (xks[i]).name = ni at *
                    generalize (xks[i]).n = nn at *
                    generalize (xks[i]).flag = fi at *
                    generalize (xks[i]).names.length = l1 at *
                    generalize (xks[i]).marks.length = l2 at *
                    generalize (xks[i]).kids.length = l3 at *
                    generalize (yks[i]).kind = kj at *
                    generalize (yks[i]).name = nj at *
                    generalize (yks[i]).n = nnj at *
                    generalize (yks[i]).flag = fj at *
                    generalize (yks[i]).names.length = m1 at *
                    generalize (yks[i]).marks.length = m2 at *
                    generalize (yks[i]).kids.length = m3 at *
                    go_wp2_with fail
                    go_region_held3 (fun W => (W.cell? ⟨b, o + i * 7, none⟩ = some (.int .i64 ki) ∧ W.cell? ⟨b, o + i * 7 + 1, none⟩ = some (.string ni) ∧ W.cell? ⟨b, o + i * 7 + 2, none⟩ = some (.int .i64 nn) ∧ W.cell? ⟨b, o + i * 7 + 3, none⟩ = some (.bool fi) ∧ W.cell? ⟨b, o + i * 7 + 4, none⟩ = some (.slice bn l1 dn) ∧ W.cell? ⟨b, o + i * 7 + 5, none⟩ = some (.slice bm l2 dm) ∧ W.cell? ⟨b, o + i * 7 + 6, none⟩ = some (.slice bk l3 dk)) ∧ (W.cell? ⟨b', o' + i * 7, none⟩ = some (.int .i64 kj) ∧ W.cell? ⟨b', o' + i * 7 + 1, none⟩ = some (.string nj) ∧ W.cell? ⟨b', o' + i * 7 + 2, none⟩ = some (.int .i64 nnj) ∧ W.cell? ⟨b', o' + i * 7 + 3, none⟩ = some (.bool fj) ∧ W.cell? ⟨b', o' + i * 7 + 4, none⟩ = some (.slice gn m1 jn) ∧ W.cell? ⟨b', o' + i * 7 + 5, none⟩ = some (.slice gm m2 jm) ∧ W.cell? ⟨b', o' + i * 7 + 6, none⟩ = some (.slice gk' m3 jk)) ∧ (W.cell? ⟨w.heap.size, 6, none⟩ = some (.slice (some ⟨b, o, none⟩) xlk xck) ∧ W.cell? ⟨w.heap.size + 1, 6, none⟩ = some (.slice (some ⟨b', o', none⟩) xlk yck)))
                      (first | exact kS | go_keep)
                      (first | (go_at_call 11; refine hc.mono ?_; rintro e w3 ⟨rfl, hb3⟩; have HB3 : Hid (Below W0.heap.size W0 w3) := HXB.out.trans ((bthen (below_drew1 _) hb3).mono HXB.out.size); have kS := HKP.out w3 HB3.out; clear hb3 hc))
                    all_goals
                      cases bb with
                      | true =>
                        have HE : Hid (xks[i] = yks[i]) := HBH.out.1 rfl
                        go_wp2_with fail
                        go_roundg (xlk - (i + 1))
                        case measure => omega
                        case rel => exact ⟨i + 1, by omega, Nat.le_refl _, by go_num, HB3.out, fun j h1 h2 hj => by
                          rcases Nat.lt_or_ge j i with h | h
                          · exact HXE.out j h1 h2 h
                          · have e : j = i := by omega
                            subst e; exact HE.out⟩
                      | false =>
                        have HN : Hid (R = false) := HF.out (.inr (.inr (.inr (.inr (.inr (.inr fun e => by subst e; have := HBH.out.2 rfl; cases this))))))
                        go_wp2_with fail
                        go_ret
                        exact ⟨by rw [HN.out]; rfl, HB0.out.trans (HB3.out.mono hz0)⟩
                  · have z1 : ¬ (i : Int) < (xlk : Int) := by omega
                    have HN : Hid (R = true) := HTT.out (by first | trivial | rfl) (by first | trivial | rfl) (by first | trivial | rfl) (by first | trivial | rfl) C4.out C5.out (take_eq (by rw [← HXL.out, ← HYL.out]) fun j h1 h2 => HX.out.2 j h1 h2 (by have := HXL.out; omega))
                    have HXB : Hid (Below W0.heap.size W0 wr) := HX.out.1
                    clear HX
                    go_wp2_with fail
                    go_ret
                    exact ⟨by rw [HN.out]; rfl, HB0.out.trans (HXB.out.mono hz0)⟩
              · have k6 := nat_bne c6
                have HN : Hid (R = false) := HF.out (.inr (.inr (.inr (.inr (.inr (.inr fun e => c6 (by rw [HXL.out, HYL.out, e])))))))
                go_enter Try.func11, Try.ntmps11
                go_wp2_with fail
                generalize (w.alloc (.cells #[.int .i64 xk, .string xnm, .int .i64 xn, .bool xf, .slice xan xns.length xcn, .slice xam xms.length xcm, .slice xak xlk xck] 27)).alloc (.cells #[.int .i64 xk, .string xnm, .int .i64 xn, .bool xf, .slice yan yns.length ycn, .slice yam yms.length ycm, .slice yak ylk yck] 27) = W0 at *
                go_wp2_with (first
                  | (go_at_call 32; refine hTX.mono ?_; rintro e w1 ⟨rfl, hb1⟩; have HB1 : Hid (Below W0.heap.size W0 w1) := hb1; obtain ⟨s0, s1, s2, s3, s4, s5, s6⟩ := bx7 (blk_kept hb1 HX0.out); obtain ⟨t0, t1, t2, t3, t4, t5, t6⟩ := bx7 (blk_kept hb1 HY0.out); have hb9 := hBX _ hb1; clear hb1 hTX)
                  | (go_at_call 33; refine hb9.mono ?_; rintro e w2 ⟨rfl, hb2⟩; have HB2 : Hid (Below W0.heap.size W0 w2) := HB1.out.trans (hb2.mono HB1.out.size); obtain ⟨s0, s1, s2, s3, s4, s5, s6⟩ := bx7 (blk_kept HB2.out HX0.out); obtain ⟨t0, t1, t2, t3, t4, t5, t6⟩ := bx7 (blk_kept HB2.out HY0.out); clear hb2 hb9))
                go_ret
                exact ⟨by rw [HN.out]; rfl, HB0.out.trans (HB2.out.mono hz0)⟩
            · rw [decide_eq_false c5] at hBX
              have HN : Hid (R = false) := HF.out (.inr (.inr (.inr (.inr (.inr (.inl c5))))))
              clear c5
              go_enter Try.func11, Try.ntmps11
              go_wp2_with fail
              generalize (w.alloc (.cells #[.int .i64 xk, .string xnm, .int .i64 xn, .bool xf, .slice xan xns.length xcn, .slice xam xms.length xcm, .slice xak xlk xck] 27)).alloc (.cells #[.int .i64 xk, .string xnm, .int .i64 xn, .bool xf, .slice yan yns.length ycn, .slice yam yms.length ycm, .slice yak ylk yck] 27) = W0 at *
              go_wp2_with (first
                | (go_at_call 32; refine hTX.mono ?_; rintro e w1 ⟨rfl, hb1⟩; have HB1 : Hid (Below W0.heap.size W0 w1) := hb1; obtain ⟨s0, s1, s2, s3, s4, s5, s6⟩ := bx7 (blk_kept hb1 HX0.out); obtain ⟨t0, t1, t2, t3, t4, t5, t6⟩ := bx7 (blk_kept hb1 HY0.out); have hb9 := hBX _ hb1; clear hb1 hTX)
                | (go_at_call 33; refine hb9.mono ?_; rintro e w2 ⟨rfl, hb2⟩; have HB2 : Hid (Below W0.heap.size W0 w2) := HB1.out.trans (hb2.mono HB1.out.size); obtain ⟨s0, s1, s2, s3, s4, s5, s6⟩ := bx7 (blk_kept HB2.out HX0.out); obtain ⟨t0, t1, t2, t3, t4, t5, t6⟩ := bx7 (blk_kept HB2.out HY0.out); clear hb2 hb9))
              go_ret
              exact ⟨by rw [HN.out]; rfl, HB0.out.trans (HB2.out.mono hz0)⟩
          · rw [decide_eq_false c4] at hTX
            have HN : Hid (R = false) := HF.out (.inr (.inr (.inr (.inr (.inl c4)))))
            clear c4
            go_enter Try.func11, Try.ntmps11
            go_wp2_with fail
            generalize (w.alloc (.cells #[.int .i64 xk, .string xnm, .int .i64 xn, .bool xf, .slice xan xns.length xcn, .slice xam xms.length xcm, .slice xak xlk xck] 27)).alloc (.cells #[.int .i64 xk, .string xnm, .int .i64 xn, .bool xf, .slice yan yns.length ycn, .slice yam yms.length ycm, .slice yak ylk yck] 27) = W0 at *
            go_wp2_with (go_at_call 32; refine hTX.mono ?_; rintro e w1 ⟨rfl, hb1⟩; have HB1 : Hid (Below W0.heap.size W0 w1) := hb1; obtain ⟨s0, s1, s2, s3, s4, s5, s6⟩ := bx7 (blk_kept hb1 HX0.out); obtain ⟨t0, t1, t2, t3, t4, t5, t6⟩ := bx7 (blk_kept hb1 HY0.out); have hb9 := hBX _ hb1; clear hb1 hTX)
            go_ret
            exact ⟨by rw [HN.out]; rfl, HB0.out.trans (HB1.out.mono hz0)⟩
        · have k3 := bool_ne c3
          have HN : Hid (R = false) := HF.out (.inr (.inr (.inr (.inl c3))))
          clear c3
          go_enter Try.func11, Try.ntmps11
          go_wp2_with fail
          generalize (w.alloc (.cells #[.int .i64 xk, .string xnm, .int .i64 xn, .bool xf, .slice xan xns.length xcn, .slice xam xms.length xcm, .slice xak xlk xck] 27)).alloc (.cells #[.int .i64 xk, .string xnm, .int .i64 xn, .bool yf, .slice yan yns.length ycn, .slice yam yms.length ycm, .slice yak ylk yck] 27) = W0 at *
          go_wp2_with fail
          go_ret
          exact ⟨by rw [HN.out]; rfl, HB0.out.trans ((Below.refl _ _).mono hz0)⟩
      · have k2 := int_bne c2
        have HN : Hid (R = false) := HF.out (.inr (.inr (.inl c2)))
        go_enter Try.func11, Try.ntmps11
        go_wp2_with fail
        generalize (w.alloc (.cells #[.int .i64 xk, .string xnm, .int .i64 xn, .bool xf, .slice xan xns.length xcn, .slice xam xms.length xcm, .slice xak xlk xck] 27)).alloc (.cells #[.int .i64 xk, .string xnm, .int .i64 yn, .bool yf, .slice yan yns.length ycn, .slice yam yms.length ycm, .slice yak ylk yck] 27) = W0 at *
        go_wp2_with fail
        go_ret
        exact ⟨by rw [HN.out]; rfl, HB0.out.trans ((Below.refl _ _).mono hz0)⟩
    · have k1 := str_ne c1
      have HN : Hid (R = false) := HF.out (.inr (.inl c1))
      clear c1
      go_enter Try.func11, Try.ntmps11
      go_wp2_with fail
      generalize (w.alloc (.cells #[.int .i64 xk, .string xnm, .int .i64 xn, .bool xf, .slice xan xns.length xcn, .slice xam xms.length xcm, .slice xak xlk xck] 27)).alloc (.cells #[.int .i64 xk, .string ynm, .int .i64 yn, .bool yf, .slice yan yns.length ycn, .slice yam yms.length ycm, .slice yak ylk yck] 27) = W0 at *
      go_wp2_with fail
      go_ret
      exact ⟨by rw [HN.out]; rfl, HB0.out.trans ((Below.refl _ _).mono hz0)⟩
  · have k0 := int_bne c0
    have HN : Hid (R = false) := HF.out (.inl c0)
    go_enter Try.func11, Try.ntmps11
    go_wp2_with fail
    generalize (w.alloc (.cells #[.int .i64 xk, .string xnm, .int .i64 xn, .bool xf, .slice xan xns.length xcn, .slice xam xms.length xcm, .slice xak xlk xck] 27)).alloc (.cells #[.int .i64 yk, .string ynm, .int .i64 yn, .bool yf, .slice yan yns.length ycn, .slice yam yms.length ycm, .slice yak ylk yck] 27) = W0 at *
    go_wp2_with fail
    go_ret
    exact ⟨by rw [HN.out]; rfl, HB0.out.trans ((Below.refl _ _).mono hz0)⟩
end Go.Proofs.Ytpcpncgigdebiaa

/-
  recastalike.Methods and Named of what is the same, walked.
-/
namespace Go.Proofs.Ytpcpncgigdebiaa
open Go.RowKit
attribute [local go_sem ↓] Go.wp_at_zero Go.wp_at_succ
set_option maxRecDepth 100000 in
set_option maxHeartbeats 16000000 in
theorem methods_same {B B' : BQ} {w : World} {v v2 : Value} {l : List Mth} (h : SlM B w v l) (h2 : SlM B' w v2 l) : Calls Try.prog 31 #[v, v2] w fun e w' => e = .returned (.bool true) ∧ Below w.heap.size w w' := by
  obtain ⟨a, c, rfl, hlen, hel⟩ := h.open
  obtain ⟨a2, c2, rfl, _, hel2⟩ := h2.open
  have HEL : Hid (∀ i (hi : i < l.length), ∃ b o, a = some ⟨b, o, none⟩ ∧ b < w.heap.size ∧ (l[i]).lies B w b (o + i * 9)) := hel
  have HEL2 : Hid (∀ i (hi : i < l.length), ∃ b o, a2 = some ⟨b, o, none⟩ ∧ b < w.heap.size ∧ (l[i]).lies B' w b (o + i * 9)) := hel2
  clear h h2 hel hel2
  go_enter Try.func31, Try.ntmps31
  go_wp2_with fail
  go_loopg [5] l.length (fun g u5 wr => ∃ (i : Nat), i ≤ l.length ∧ l.length - i ≤ g ∧ u5 = .int .i64 i ∧ Hid (Below w.heap.size w wr))
  case atStart => exact ⟨0, Nat.zero_le _, Nat.le_refl _, rfl, Below.refl _ _⟩
  case round =>
    obtain ⟨i, hi, hg, rfl, HX⟩ := hrel
    by_cases hlt : i < l.length
    · have z1 : (i : Int) < (l.length : Int) := by omega
      have z0 : (0 : Int) ≤ (i : Int) := by omega
      obtain ⟨b, o, rfl, _, k0, k1, hsg⟩ := HEL.out i hlt
      obtain ⟨b2, o2, rfl, _, g0, g1, hsg2⟩ := HEL2.out i hlt
      obtain ⟨k2, k3, k4, k5, xn, xm, xk, k6, k7, k8, hps⟩ := lies_iff.1 hsg
      obtain ⟨g2, g3, g4, g5, yn, ym, yk, g6, g7, g8, hpt⟩ := lies_iff.1 hsg2
      obtain ⟨p1, r1, p2, r2, p3, r3, rfl, rfl, rfl⟩ := hps.form
      obtain ⟨q1, t1, q2, t2, q3, t3, rfl, rfl, rfl⟩ := hpt.form
      have hc := types_any B B' (l[i]).sig (l[i]).sig wr.drew _ _ _ _ _ _ (hps.kept (bthen HX.out (below_drew1 _))) (hpt.kept (bthen HX.out (below_drew1 _)))
      rw [tyEq_true rfl] at hc
      unfold agT at hc
      clear hsg hsg2 hps hpt
      have HKP : Hid (∀ W', Below w.heap.size w W' → W'.cell? ⟨b, o + i * 9, none⟩ = some (.string (l[i]).name) ∧ W'.cell? ⟨b, o + i * 9 + 1, none⟩ = some (.bool (l[i]).ptr) ∧ W'.cell? ⟨b, o + i * 9 + 2, none⟩ = some (.int .i64 (l[i]).sig.kind) ∧ W'.cell? ⟨b, o + i * 9 + 3, none⟩ = some (.string (l[i]).sig.name) ∧ W'.cell? ⟨b, o + i * 9 + 4, none⟩ = some (.int .i64 (l[i]).sig.n) ∧ W'.cell? ⟨b, o + i * 9 + 5, none⟩ = some (.bool (l[i]).sig.flag) ∧ W'.cell? ⟨b, o + i * 9 + 6, none⟩ = some (.slice p1 (l[i]).sig.names.length r1) ∧ W'.cell? ⟨b, o + i * 9 + 7, none⟩ = some (.slice p2 (l[i]).sig.marks.length r2) ∧ W'.cell? ⟨b, o + i * 9 + 8, none⟩ = some (.slice p3 (l[i]).sig.kids.length r3) ∧ W'.cell? ⟨b2, o2 + i * 9, none⟩ = some (.string (l[i]).name) ∧ W'.cell? ⟨b2, o2 + i * 9 + 1, none⟩ = some (.bool (l[i]).ptr) ∧ W'.cell? ⟨b2, o2 + i * 9 + 2, none⟩ = some (.int .i64 (l[i]).sig.kind) ∧ W'.cell? ⟨b2, o2 + i * 9 + 3, none⟩ = some (.string (l[i]).sig.name) ∧ W'.cell? ⟨b2, o2 + i * 9 + 4, none⟩ = some (.int .i64 (l[i]).sig.n) ∧ W'.cell? ⟨b2, o2 + i * 9 + 5, none⟩ = some (.bool (l[i]).sig.flag) ∧ W'.cell? ⟨b2, o2 + i * 9 + 6, none⟩ = some (.slice q1 (l[i]).sig.names.length t1) ∧ W'.cell? ⟨b2, o2 + i * 9 + 7, none⟩ = some (.slice q2 (l[i]).sig.marks.length t2) ∧ W'.cell? ⟨b2, o2 + i * 9 + 8, none⟩ = some (.slice q3 (l[i]).sig.kids.length t3)) := fun W' hb => ⟨kept_cell hb k0, kept_cell hb k1, kept_cell hb k2, kept_cell hb k3, kept_cell hb k4, kept_cell hb k5, kept_cell hb k6, kept_cell hb k7, kept_cell hb k8, kept_cell hb g0, kept_cell hb g1, kept_cell hb g2, kept_cell hb g3, kept_cell hb g4, kept_cell hb g5, kept_cell hb g6, kept_cell hb g7, kept_cell hb g8⟩
      clear k0 k1 k2 k3 k4 k5 k6 k7 k8 g0 g1 g2 g3 g4 g5 g6 g7 g8
      have kS := HKP.out wr HX.out
      obtain ⟨k0, k1, k2, k3, k4, k5, k6, k7, k8, g0, g1, g2, g3, g4, g5, g6, g7, g8⟩ := kS
      have kS := HKP.out wr HX.out
      go_wp2_with fail
      refine wp_region_held_drew (S := fun w' => w'.cell? ⟨b, o + i * 9, none⟩ = some (.string (l[i]).name) ∧ w'.cell? ⟨b, o + i * 9 + 1, none⟩ = some (.bool (l[i]).ptr) ∧ w'.cell? ⟨b, o + i * 9 + 2, none⟩ = some (.int .i64 (l[i]).sig.kind) ∧ w'.cell? ⟨b, o + i * 9 + 3, none⟩ = some (.string (l[i]).sig.name) ∧ w'.cell? ⟨b, o + i * 9 + 4, none⟩ = some (.int .i64 (l[i]).sig.n) ∧ w'.cell? ⟨b, o + i * 9 + 5, none⟩ = some (.bool (l[i]).sig.flag) ∧ w'.cell? ⟨b, o + i * 9 + 6, none⟩ = some (.slice p1 (l[i]).sig.names.length r1) ∧ w'.cell? ⟨b, o + i * 9 + 7, none⟩ = some (.slice p2 (l[i]).sig.marks.length r2) ∧ w'.cell? ⟨b, o + i * 9 + 8, none⟩ = some (.slice p3 (l[i]).sig.kids.length r3) ∧ w'.cell? ⟨b2, o2 + i * 9, none⟩ = some (.string (l[i]).name) ∧ w'.cell? ⟨b2, o2 + i * 9 + 1, none⟩ = some (.bool (l[i]).ptr) ∧ w'.cell? ⟨b2, o2 + i * 9 + 2, none⟩ = some (.int .i64 (l[i]).sig.kind) ∧ w'.cell? ⟨b2, o2 + i * 9 + 3, none⟩ = some (.string (l[i]).sig.name) ∧ w'.cell? ⟨b2, o2 + i * 9 + 4, none⟩ = some (.int .i64 (l[i]).sig.n) ∧ w'.cell? ⟨b2, o2 + i * 9 + 5, none⟩ = some (.bool (l[i]).sig.flag) ∧ w'.cell? ⟨b2, o2 + i * 9 + 6, none⟩ = some (.slice q1 (l[i]).sig.names.length t1) ∧ w'.cell? ⟨b2, o2 + i * 9 + 7, none⟩ = some (.slice q2 (l[i]).sig.marks.length t2) ∧ w'.cell? ⟨b2, o2 + i * 9 + 8, none⟩ = some (.slice q3 (l[i]).sig.kids.length t3)) (by kernel_rfl) (by exact kS) (fun hHeld => ?_)
      clear hHeld
      refine wpAnyH_take (i := 0) (oi := { dst := some 17, op := Op.move (Operand.tmp 0), type := 38, pos := "alike.go:128", after := #[], guard := none }) (v := ?_) rfl (by kernel_rfl) (by kernel_rfl) (by kernel_rfl) (fun _ _ _ h => h) (Or.inl ⟨by rfl, ?_⟩) (by exact kS) ?_
      rotate_left
      · intro w hSw; (try dsimp only at hSw); (go_simp <;> with_reducible rfl)
      try simp only [Act.put, List.setIfInBounds_toArray, List.set_cons_zero, List.set_cons_succ]
      refine wpAnyH_take (i := 1) (oi := { dst := some 18, op := Op.move (Operand.tmp 5), type := 3, pos := "alike.go:128", after := #[], guard := none }) (v := ?_) rfl (by kernel_rfl) (by kernel_rfl) (by kernel_rfl) (fun _ _ _ h => h) (Or.inl ⟨by rfl, ?_⟩) (by exact kS) ?_
      rotate_left
      · intro w hSw; (try dsimp only at hSw); (go_simp <;> with_reducible rfl)
      try simp only [Act.put, List.setIfInBounds_toArray, List.set_cons_zero, List.set_cons_succ]
      refine wpAnyH_take (i := 2) (oi := { dst := some 19, op := Op.indexAddr 38 (Operand.tmp 17) (Operand.tmp 18), type := 0, pos := "alike.go:128", after := #[{ on := 0, ground := Ground.data }, { on := 1, ground := Ground.data }], guard := none }) (v := ?_) rfl (by kernel_rfl) (by kernel_rfl) (by kernel_rfl) (fun _ _ _ h => h) (Or.inl ⟨by rfl, ?_⟩) (by exact kS) ?_
      rotate_left
      · intro w hSw; (try dsimp only at hSw); (go_simp <;> with_reducible rfl)
      try simp only [Act.put, List.setIfInBounds_toArray, List.set_cons_zero, List.set_cons_succ]
      refine wpAnyH_take (i := 3) (oi := { dst := some 20, op := Op.fieldAddr 51 (Operand.tmp 19) 0, type := 0, pos := "alike.go:128", after := #[{ on := 2, ground := Ground.data }], guard := none }) (v := ?_) rfl (by kernel_rfl) (by kernel_rfl) (by kernel_rfl) (fun _ _ _ h => h) (Or.inl ⟨by rfl, ?_⟩) (by exact kS) ?_
      rotate_left
      · intro w hSw; (try dsimp only at hSw); (go_simp <;> with_reducible rfl)
      try simp only [Act.put, List.setIfInBounds_toArray, List.set_cons_zero, List.set_cons_succ]
      refine wpAnyH_take (i := 4) (oi := { dst := some 21, op := Op.load 9 (Operand.tmp 20), type := 9, pos := "alike.go:128", after := #[{ on := 3, ground := Ground.data }], guard := none }) (v := ?_) rfl (by kernel_rfl) (by kernel_rfl) (by kernel_rfl) (fun _ _ _ h => h) (Or.inl ⟨by rfl, ?_⟩) (by exact kS) ?_
      rotate_left
      · intro w hSw; (try dsimp only at hSw); (go_simp <;> with_reducible rfl)
      try simp only [Act.put, List.setIfInBounds_toArray, List.set_cons_zero, List.set_cons_succ]
      refine wpAnyH_take (i := 5) (oi := { dst := some 22, op := Op.move (Operand.tmp 1), type := 38, pos := "alike.go:128", after := #[], guard := none }) (v := ?_) rfl (by kernel_rfl) (by kernel_rfl) (by kernel_rfl) (fun _ _ _ h => h) (Or.inl ⟨by rfl, ?_⟩) (by exact kS) ?_
      rotate_left
      · intro w hSw; (try dsimp only at hSw); (go_simp <;> with_reducible rfl)
      try simp only [Act.put, List.setIfInBounds_toArray, List.set_cons_zero, List.set_cons_succ]
      refine wpAnyH_take (i := 6) (oi := { dst := some 23, op := Op.move (Operand.tmp 5), type := 3, pos := "alike.go:128", after := #[], guard := none }) (v := ?_) rfl (by kernel_rfl) (by kernel_rfl) (by kernel_rfl) (fun _ _ _ h => h) (Or.inl ⟨by rfl, ?_⟩) (by exact kS) ?_
      rotate_left
      · intro w hSw; (try dsimp only at hSw); (go_simp <;> with_reducible rfl)
      try simp only [Act.put, List.setIfInBounds_toArray, List.set_cons_zero, List.set_cons_succ]
      refine wpAnyH_take (i := 7) (oi := { dst := some 24, op := Op.indexAddr 38 (Operand.tmp 22) (Operand.tmp 23), type := 0, pos := "alike.go:128", after := #[{ on := 5, ground := Ground.data }, { on := 6, ground := Ground.data }], guard := none }) (v := ?_) rfl (by kernel_rfl) (by kernel_rfl) (by kernel_rfl) (fun _ _ _ h => h) (Or.inl ⟨by rfl, ?_⟩) (by exact kS) ?_
      rotate_left
      · intro w hSw; (try dsimp only at hSw); (go_simp <;> with_reducible rfl)
      try simp only [Act.put, List.setIfInBounds_toArray, List.set_cons_zero, List.set_cons_succ]
      refine wpAnyH_take (i := 8) (oi := { dst := some 25, op := Op.fieldAddr 51 (Operand.tmp 24) 0, type := 0, pos := "alike.go:128", after := #[{ on := 7, ground := Ground.data }], guard := none }) (v := ?_) rfl (by kernel_rfl) (by kernel_rfl) (by kernel_rfl) (fun _ _ _ h => h) (Or.inl ⟨by rfl, ?_⟩) (by exact kS) ?_
      rotate_left
      · intro w hSw; (try dsimp only at hSw); (go_simp <;> with_reducible rfl)
      try simp only [Act.put, List.setIfInBounds_toArray, List.set_cons_zero, List.set_cons_succ]
      refine wpAnyH_take (i := 9) (oi := { dst := some 26, op := Op.load 9 (Operand.tmp 25), type := 9, pos := "alike.go:128", after := #[{ on := 8, ground := Ground.data }], guard := none }) (v := ?_) rfl (by kernel_rfl) (by kernel_rfl) (by kernel_rfl) (fun _ _ _ h => h) (Or.inl ⟨by rfl, ?_⟩) (by exact kS) ?_
      rotate_left
      · intro w hSw; (try dsimp only at hSw); (go_simp <;> with_reducible rfl)
      try simp only [Act.put, List.setIfInBounds_toArray, List.set_cons_zero, List.set_cons_succ]
      refine wpAnyH_take (i := 10) (oi := { dst := some 27, op := Op.binOp BinOp.neq 9 (Operand.tmp 21) (Operand.tmp 26) 9, type := 4, pos := "alike.go:128", after := #[{ on := 4, ground := Ground.data }, { on := 9, ground := Ground.data }], guard := none }) (v := ?_) rfl (by kernel_rfl) (by kernel_rfl) (by kernel_rfl) (fun _ _ _ h => h) (Or.inl ⟨by rfl, ?_⟩) (by exact kS) ?_
      rotate_left
      · intro w hSw; (try dsimp only at hSw); (go_simp <;> with_reducible rfl)
      try simp only [Act.put, List.setIfInBounds_toArray, List.set_cons_zero, List.set_cons_succ]
      refine wpAnyH_take (i := 11) (oi := { dst := some 28, op := Op.move (Operand.tmp 27), type := 4, pos := "alike.go:128", after := #[{ on := 10, ground := Ground.data }], guard := none }) (v := ?_) rfl (by kernel_rfl) (by kernel_rfl) (by kernel_rfl) (fun _ _ _ h => h) (Or.inl ⟨by rfl, ?_⟩) (by exact kS) ?_
      rotate_left
      · intro w hSw; (try dsimp only at hSw); (go_simp <;> with_reducible rfl)
      try simp only [Act.put, List.setIfInBounds_toArray, List.set_cons_zero, List.set_cons_succ]
      refine wpAnyH_take (i := 12) (oi := { dst := some 29, op := Op.move (Operand.tmp 0), type := 38, pos := "alike.go:128", after := #[{ on := 11, ground := Ground.guard }], guard := some (11, false) }) (v := ?_) rfl (by kernel_rfl) (by kernel_rfl) (by kernel_rfl) (fun _ _ _ h => h) (Or.inl ⟨by rfl, ?_⟩) (by exact kS) ?_
      rotate_left
      · intro w hSw; (try dsimp only at hSw); (go_simp <;> with_reducible rfl)
      try simp only [Act.put, List.setIfInBounds_toArray, List.set_cons_zero, List.set_cons_succ]
      refine wpAnyH_take (i := 13) (oi := { dst := some 30, op := Op.move (Operand.tmp 5), type := 3, pos := "alike.go:128", after := #[{ on := 11, ground := Ground.guard }], guard := some (11, false) }) (v := ?_) rfl (by kernel_rfl) (by kernel_rfl) (by kernel_rfl) (fun _ _ _ h => h) (Or.inl ⟨by rfl, ?_⟩) (by exact kS) ?_
      rotate_left
      · intro w hSw; (try dsimp only at hSw); (go_simp <;> with_reducible rfl)
      try simp only [Act.put, List.setIfInBounds_toArray, List.set_cons_zero, List.set_cons_succ]
      refine wpAnyH_take (i := 14) (oi := { dst := some 31, op := Op.indexAddr 38 (Operand.tmp 29) (Operand.tmp 30), type := 0, pos := "alike.go:128", after := #[{ on := 12, ground := Ground.data }, { on := 13, ground := Ground.data }, { on := 11, ground := Ground.guard }], guard := some (11, false) }) (v := ?_) rfl (by kernel_rfl) (by kernel_rfl) (by kernel_rfl) (fun _ _ _ h => h) (Or.inl ⟨by rfl, ?_⟩) (by exact kS) ?_
      rotate_left
      · intro w hSw; (try dsimp only at hSw); (go_simp <;> with_reducible rfl)
      try simp only [Act.put, List.setIfInBounds_toArray, List.set_cons_zero, List.set_cons_succ]
      refine wpAnyH_take (i := 15) (oi := { dst := some 32, op := Op.fieldAddr 51 (Operand.tmp 31) 1, type := 0, pos := "alike.go:128", after := #[{ on := 14, ground := Ground.data }, { on := 11, ground := Ground.guard }], guard := some (11, false) }) (v := ?_) rfl (by kernel_rfl) (by kernel_rfl) (by kernel_rfl) (fun _ _ _ h => h) (Or.inl ⟨by rfl, ?_⟩) (by exact kS) ?_
      rotate_left
      · intro w hSw; (try dsimp only at hSw); (go_simp <;> with_reducible rfl)
      try simp only [Act.put, List.setIfInBounds_toArray, List.set_cons_zero, List.set_cons_succ]
      refine wpAnyH_take (i := 16) (oi := { dst := some 33, op := Op.load 4 (Operand.tmp 32), type := 4, pos := "alike.go:128", after := #[{ on := 15, ground := Ground.data }, { on := 11, ground := Ground.guard }], guard := some (11, false) }) (v := ?_) rfl (by kernel_rfl) (by kernel_rfl) (by kernel_rfl) (fun _ _ _ h => h) (Or.inl ⟨by rfl, ?_⟩) (by exact kS) ?_
      rotate_left
      · intro w hSw; (try dsimp only at hSw); (go_simp <;> with_reducible rfl)
      try simp only [Act.put, List.setIfInBounds_toArray, List.set_cons_zero, List.set_cons_succ]
      refine wpAnyH_take (i := 17) (oi := { dst := some 34, op := Op.move (Operand.tmp 1), type := 38, pos := "alike.go:128", after := #[{ on := 11, ground := Ground.guard }], guard := some (11, false) }) (v := ?_) rfl (by kernel_rfl) (by kernel_rfl) (by kernel_rfl) (fun _ _ _ h => h) (Or.inl ⟨by rfl, ?_⟩) (by exact kS) ?_
      rotate_left
      · intro w hSw; (try dsimp only at hSw); (go_simp <;> with_reducible rfl)
      try simp only [Act.put, List.setIfInBounds_toArray, List.set_cons_zero, List.set_cons_succ]
      refine wpAnyH_take (i := 18) (oi := { dst := some 35, op := Op.move (Operand.tmp 5), type := 3, pos := "alike.go:128", after := #[{ on := 11, ground := Ground.guard }], guard := some (11, false) }) (v := ?_) rfl (by kernel_rfl) (by kernel_rfl) (by kernel_rfl) (fun _ _ _ h => h) (Or.inl ⟨by rfl, ?_⟩) (by exact kS) ?_
      rotate_left
      · intro w hSw; (try dsimp only at hSw); (go_simp <;> with_reducible rfl)
      try simp only [Act.put, List.setIfInBounds_toArray, List.set_cons_zero, List.set_cons_succ]
      refine wpAnyH_take (i := 19) (oi := { dst := some 36, op := Op.indexAddr 38 (Operand.tmp 34) (Operand.tmp 35), type := 0, pos := "alike.go:128", after := #[{ on := 17, ground := Ground.data }, { on := 18, ground := Ground.data }, { on := 11, ground := Ground.guard }], guard := some (11, false) }) (v := ?_) rfl (by kernel_rfl) (by kernel_rfl) (by kernel_rfl) (fun _ _ _ h => h) (Or.inl ⟨by rfl, ?_⟩) (by exact kS) ?_
      rotate_left
      · intro w hSw; (try dsimp only at hSw); (go_simp <;> with_reducible rfl)
      try simp only [Act.put, List.setIfInBounds_toArray, List.set_cons_zero, List.set_cons_succ]
      refine wpAnyH_take (i := 20) (oi := { dst := some 37, op := Op.fieldAddr 51 (Operand.tmp 36) 1, type := 0, pos := "alike.go:128", after := #[{ on := 19, ground := Ground.data }, { on := 11, ground := Ground.guard }], guard := some (11, false) }) (v := ?_) rfl (by kernel_rfl) (by kernel_rfl) (by kernel_rfl) (fun _ _ _ h => h) (Or.inl ⟨by rfl, ?_⟩) (by exact kS) ?_
      rotate_left
      · intro w hSw; (try dsimp only at hSw); (go_simp <;> with_reducible rfl)
      try simp only [Act.put, List.setIfInBounds_toArray, List.set_cons_zero, List.set_cons_succ]
      refine wpAnyH_take (i := 21) (oi := { dst := some 38, op := Op.load 4 (Operand.tmp 37), type := 4, pos := "alike.go:128", after := #[{ on := 20, ground := Ground.data }, { on := 11, ground := Ground.guard }], guard := some (11, false) }) (v := ?_) rfl (by kernel_rfl) (by kernel_rfl) (by kernel_rfl) (fun _ _ _ h => h) (Or.inl ⟨by rfl, ?_⟩) (by exact kS) ?_
      rotate_left
      · intro w hSw; (try dsimp only at hSw); (go_simp <;> with_reducible rfl)
      try simp only [Act.put, List.setIfInBounds_toArray, List.set_cons_zero, List.set_cons_succ]
      refine wpAnyH_take (i := 22) (oi := { dst := some 39, op := Op.binOp BinOp.neq 4 (Operand.tmp 33) (Operand.tmp 38) 4, type := 4, pos := "alike.go:128", after := #[{ on := 16, ground := Ground.data }, { on := 21, ground := Ground.data }, { on := 11, ground := Ground.guard }], guard := some (11, false) }) (v := ?_) rfl (by kernel_rfl) (by kernel_rfl) (by kernel_rfl) (fun _ _ _ h => h) (Or.inl ⟨by rfl, ?_⟩) (by exact kS) ?_
      rotate_left
      · intro w hSw; (try dsimp only at hSw); (go_simp <;> with_reducible rfl)
      try simp only [Act.put, List.setIfInBounds_toArray, List.set_cons_zero, List.set_cons_succ]
      refine wpAnyH_take (i := 23) (oi := { dst := some 40, op := Op.pick (Operand.tmp 28) (Operand.const (Value.bool true)) (Operand.tmp 39), type := 4, pos := "alike.go:128", after := #[{ on := 11, ground := Ground.data }, { on := 22, ground := Ground.data }], guard := none }) (v := ?_) rfl (by kernel_rfl) (by kernel_rfl) (by kernel_rfl) (fun _ _ _ h => h) (Or.inl ⟨by rfl, ?_⟩) (by exact kS) ?_
      rotate_left
      · intro w hSw; (try dsimp only at hSw); (go_simp <;> with_reducible rfl)
      try simp only [Act.put, List.setIfInBounds_toArray, List.set_cons_zero, List.set_cons_succ]
      refine wpAnyH_take (i := 24) (oi := { dst := some 41, op := Op.move (Operand.tmp 40), type := 4, pos := "alike.go:128", after := #[{ on := 23, ground := Ground.data }, { on := 11, ground := Ground.chain }], guard := none }) (v := ?_) rfl (by kernel_rfl) (by kernel_rfl) (by kernel_rfl) (fun _ _ _ h => h) (Or.inl ⟨by rfl, ?_⟩) (by exact kS) ?_
      rotate_left
      · intro w hSw; (try dsimp only at hSw); (go_simp <;> with_reducible rfl)
      try simp only [Act.put, List.setIfInBounds_toArray, List.set_cons_zero, List.set_cons_succ]
      refine wpAnyH_take (i := 25) (oi := { dst := some 42, op := Op.move (Operand.tmp 0), type := 38, pos := "alike.go:128", after := #[{ on := 24, ground := Ground.guard }], guard := some (24, false) }) (v := ?_) rfl (by kernel_rfl) (by kernel_rfl) (by kernel_rfl) (fun _ _ _ h => h) (Or.inl ⟨by rfl, ?_⟩) (by exact kS) ?_
      rotate_left
      · intro w hSw; (try dsimp only at hSw); (go_simp <;> with_reducible rfl)
      try simp only [Act.put, List.setIfInBounds_toArray, List.set_cons_zero, List.set_cons_succ]
      refine wpAnyH_take (i := 26) (oi := { dst := some 43, op := Op.move (Operand.tmp 5), type := 3, pos := "alike.go:128", after := #[{ on := 24, ground := Ground.guard }], guard := some (24, false) }) (v := ?_) rfl (by kernel_rfl) (by kernel_rfl) (by kernel_rfl) (fun _ _ _ h => h) (Or.inl ⟨by rfl, ?_⟩) (by exact kS) ?_
      rotate_left
      · intro w hSw; (try dsimp only at hSw); (go_simp <;> with_reducible rfl)
      try simp only [Act.put, List.setIfInBounds_toArray, List.set_cons_zero, List.set_cons_succ]
      refine wpAnyH_take (i := 27) (oi := { dst := some 44, op := Op.indexAddr 38 (Operand.tmp 42) (Operand.tmp 43), type := 0, pos := "alike.go:128", after := #[{ on := 25, ground := Ground.data }, { on := 26, ground := Ground.data }, { on := 24, ground := Ground.guard }], guard := some (24, false) }) (v := ?_) rfl (by kernel_rfl) (by kernel_rfl) (by kernel_rfl) (fun _ _ _ h => h) (Or.inl ⟨by rfl, ?_⟩) (by exact kS) ?_
      rotate_left
      · intro w hSw; (try dsimp only at hSw); (go_simp <;> with_reducible rfl)
      try simp only [Act.put, List.setIfInBounds_toArray, List.set_cons_zero, List.set_cons_succ]
      refine wpAnyH_take (i := 28) (oi := { dst := some 45, op := Op.fieldAddr 51 (Operand.tmp 44) 2, type := 0, pos := "alike.go:128", after := #[{ on := 27, ground := Ground.data }, { on := 24, ground := Ground.guard }], guard := some (24, false) }) (v := ?_) rfl (by kernel_rfl) (by kernel_rfl) (by kernel_rfl) (fun _ _ _ h => h) (Or.inl ⟨by rfl, ?_⟩) (by exact kS) ?_
      rotate_left
      · intro w hSw; (try dsimp only at hSw); (go_simp <;> with_reducible rfl)
      try simp only [Act.put, List.setIfInBounds_toArray, List.set_cons_zero, List.set_cons_succ]
      refine wpAnyH_take (i := 29) (oi := { dst := some 46, op := Op.load 27 (Operand.tmp 45), type := 27, pos := "alike.go:128", after := #[{ on := 28, ground := Ground.data }, { on := 24, ground := Ground.guard }], guard := some (24, false) }) (v := ?_) rfl (by kernel_rfl) (by kernel_rfl) (by kernel_rfl) (fun _ _ _ h => h) (Or.inl ⟨by rfl, ?_⟩) (by exact kS) ?_
      rotate_left
      · intro w hSw; (try dsimp only at hSw); (go_simp <;> with_reducible rfl)
      try simp only [Act.put, List.setIfInBounds_toArray, List.set_cons_zero, List.set_cons_succ]
      refine wpAnyH_take (i := 30) (oi := { dst := some 47, op := Op.move (Operand.tmp 1), type := 38, pos := "alike.go:128", after := #[{ on := 24, ground := Ground.guard }], guard := some (24, false) }) (v := ?_) rfl (by kernel_rfl) (by kernel_rfl) (by kernel_rfl) (fun _ _ _ h => h) (Or.inl ⟨by rfl, ?_⟩) (by exact kS) ?_
      rotate_left
      · intro w hSw; (try dsimp only at hSw); (go_simp <;> with_reducible rfl)
      try simp only [Act.put, List.setIfInBounds_toArray, List.set_cons_zero, List.set_cons_succ]
      refine wpAnyH_take (i := 31) (oi := { dst := some 48, op := Op.move (Operand.tmp 5), type := 3, pos := "alike.go:128", after := #[{ on := 24, ground := Ground.guard }], guard := some (24, false) }) (v := ?_) rfl (by kernel_rfl) (by kernel_rfl) (by kernel_rfl) (fun _ _ _ h => h) (Or.inl ⟨by rfl, ?_⟩) (by exact kS) ?_
      rotate_left
      · intro w hSw; (try dsimp only at hSw); (go_simp <;> with_reducible rfl)
      try simp only [Act.put, List.setIfInBounds_toArray, List.set_cons_zero, List.set_cons_succ]
      refine wpAnyH_take (i := 32) (oi := { dst := some 49, op := Op.indexAddr 38 (Operand.tmp 47) (Operand.tmp 48), type := 0, pos := "alike.go:128", after := #[{ on := 30, ground := Ground.data }, { on := 31, ground := Ground.data }, { on := 24, ground := Ground.guard }], guard := some (24, false) }) (v := ?_) rfl (by kernel_rfl) (by kernel_rfl) (by kernel_rfl) (fun _ _ _ h => h) (Or.inl ⟨by rfl, ?_⟩) (by exact kS) ?_
      rotate_left
      · intro w hSw; (try dsimp only at hSw); (go_simp <;> with_reducible rfl)
      try simp only [Act.put, List.setIfInBounds_toArray, List.set_cons_zero, List.set_cons_succ]
      refine wpAnyH_take (i := 33) (oi := { dst := some 50, op := Op.fieldAddr 51 (Operand.tmp 49) 2, type := 0, pos := "alike.go:128", after := #[{ on := 32, ground := Ground.data }, { on := 24, ground := Ground.guard }], guard := some (24, false) }) (v := ?_) rfl (by kernel_rfl) (by kernel_rfl) (by kernel_rfl) (fun _ _ _ h => h) (Or.inl ⟨by rfl, ?_⟩) (by exact kS) ?_
      rotate_left
      · intro w hSw; (try dsimp only at hSw); (go_simp <;> with_reducible rfl)
      try simp only [Act.put, List.setIfInBounds_toArray, List.set_cons_zero, List.set_cons_succ]
      refine wpAnyH_take (i := 34) (oi := { dst := some 51, op := Op.load 27 (Operand.tmp 50), type := 27, pos := "alike.go:128", after := #[{ on := 33, ground := Ground.data }, { on := 24, ground := Ground.guard }], guard := some (24, false) }) (v := ?_) rfl (by kernel_rfl) (by kernel_rfl) (by kernel_rfl) (fun _ _ _ h => h) (Or.inl ⟨by rfl, ?_⟩) (by exact kS) ?_
      rotate_left
      · intro w hSw; (try dsimp only at hSw); (go_simp <;> with_reducible rfl)
      try simp only [Act.put, List.setIfInBounds_toArray, List.set_cons_zero, List.set_cons_succ]
      refine wpAnyH_ready (rs := [35]) (by kernel_rfl) (by simp) ?_
      refine AllReadyH.cons (o := { dst := some 52, op := Op.call { callee := Callee.value (Operand.func 11), args := #[Operand.tmp 46, Operand.tmp 51], argTypes := #[27, 27] }, type := 4, pos := "alike.go:128", after := #[{ on := 29, ground := Ground.data }, { on := 34, ground := Ground.data }, { on := 24, ground := Ground.chain }, { on := 24, ground := Ground.guard }], guard := some (24, false) }) rfl (fun K hK => ?_) AllReadyH.nil
      go_simp
      go_at_call 11; refine hc.mono ?_; rintro e w5 ⟨rfl, hb5⟩; have HB5 : Hid (Below w.heap.size w w5) := bthen HX.out (bthen (below_drew1 _) hb5); have kS := HKP.out w5 HB5.out; clear hb5 hc
      go_wp2_with fail
      refine hK.out _ _ (by exact kS) (fun hHeld => ?_)
      clear hK K hHeld
      try simp only [Act.put, List.setIfInBounds_toArray, List.set_cons_zero, List.set_cons_succ]
      refine wpAnyH_take (i := 36) (oi := { dst := some 53, op := Op.unOp UnOp.not 4 (Operand.tmp 52), type := 4, pos := "alike.go:128", after := #[{ on := 35, ground := Ground.data }, { on := 24, ground := Ground.guard }], guard := some (24, false) }) (v := ?_) rfl (by kernel_rfl) (by kernel_rfl) (by kernel_rfl) (fun _ _ _ h => h) (Or.inl ⟨by rfl, ?_⟩) (by exact kS) ?_
      rotate_left
      · intro w hSw; (try dsimp only at hSw); (go_simp <;> with_reducible rfl)
      try simp only [Act.put, List.setIfInBounds_toArray, List.set_cons_zero, List.set_cons_succ]
      refine wpAnyH_take (i := 37) (oi := { dst := some 54, op := Op.pick (Operand.tmp 41) (Operand.const (Value.bool true)) (Operand.tmp 53), type := 4, pos := "alike.go:128", after := #[{ on := 24, ground := Ground.data }, { on := 36, ground := Ground.data }], guard := none }) (v := ?_) rfl (by kernel_rfl) (by kernel_rfl) (by kernel_rfl) (fun _ _ _ h => h) (Or.inl ⟨by rfl, ?_⟩) (by exact kS) ?_
      rotate_left
      · intro w hSw; (try dsimp only at hSw); (go_simp <;> with_reducible rfl)
      try simp only [Act.put, List.setIfInBounds_toArray, List.set_cons_zero, List.set_cons_succ]
      refine wpAnyH_done (by kernel_rfl) ?_ _
      clear kS
      go_wp2_with fail
      go_roundg (l.length - (i + 1))
      case measure => omega
      case rel => exact ⟨i + 1, by omega, Nat.le_refl _, by go_num, HB5.out⟩
    · have z1 : ¬ (i : Int) < (l.length : Int) := by omega
      go_wp2_with fail
      go_ret
      exact ⟨rfl, HX.out⟩
set_option maxRecDepth 100000 in
set_option maxHeartbeats 16000000 in
theorem named_same {B B' : BQ} {w : World} {v v2 : Value} {l : List Nmd} (h : SlN B w v l) (h2 : SlN B' w v2 l) : Calls Try.prog 10 #[v, v2] w fun e w' => e = .returned (.bool true) ∧ Below w.heap.size w w' := by
  obtain ⟨a, c, rfl, hlen, hel⟩ := h.open
  obtain ⟨a2, c2, rfl, _, hel2⟩ := h2.open
  have HEL : Hid (∀ i (hi : i < l.length), ∃ b o, a = some ⟨b, o, none⟩ ∧ b < w.heap.size ∧ B b ∧ (l[i]).lies B w b (o + i * 9)) := hel
  have HEL2 : Hid (∀ i (hi : i < l.length), ∃ b o, a2 = some ⟨b, o, none⟩ ∧ b < w.heap.size ∧ B' b ∧ (l[i]).lies B' w b (o + i * 9)) := hel2
  clear h h2 hel hel2
  go_enter Try.func10, Try.ntmps10
  go_wp2_with fail
  go_loopg [5] l.length (fun g u5 wr => ∃ (i : Nat), i ≤ l.length ∧ l.length - i ≤ g ∧ u5 = .int .i64 i ∧ Hid (Below w.heap.size w wr))
  case atStart => exact ⟨0, Nat.zero_le _, Nat.le_refl _, rfl, Below.refl _ _⟩
  case round =>
    obtain ⟨i, hi, hg, rfl, HX⟩ := hrel
    by_cases hlt : i < l.length
    · have z1 : (i : Int) < (l.length : Int) := by omega
      have z0 : (0 : Int) ≤ (i : Int) := by omega
      obtain ⟨b, o, rfl, _, _, k0, hun, xs, k8, hms⟩ := HEL.out i hlt
      obtain ⟨b2, o2, rfl, _, _, g0, hun2, ys, g8, hms2⟩ := HEL2.out i hlt
      obtain ⟨k1, k2, k3, k4, xn, xm, xk, k5, k6, k7, hps⟩ := lies_iff.1 hun
      obtain ⟨g1, g2, g3, g4, yn, ym, yk, g5, g6, g7, hpt⟩ := lies_iff.1 hun2
      obtain ⟨p1, r1, p2, r2, p3, r3, rfl, rfl, rfl⟩ := hps.form
      obtain ⟨q1, t1, q2, t2, q3, t3, rfl, rfl, rfl⟩ := hpt.form
      obtain ⟨p4, r4, rfl, _⟩ := hms.slice
      obtain ⟨q4, t4, rfl, _⟩ := hms2.slice
      have hc := types_any B B' (l[i]).under (l[i]).under wr.drew _ _ _ _ _ _ (hps.kept (bthen HX.out (below_drew1 _))) (hpt.kept (bthen HX.out (below_drew1 _)))
      rw [tyEq_true rfl] at hc
      have HMS : Hid (∀ W, Below w.heap.size w W → Calls Try.prog 31 #[.slice p4 (l[i]).mths.length r4, .slice q4 (l[i]).mths.length t4] W fun e w' => e = .returned (.bool true) ∧ Below W.heap.size W w') := fun W hb => methods_same (hms.to (X := fun _ => False) (Kx.of_whole hb) (fun _ _ h => h) (fun _ _ _ h => h)) (hms2.to (X := fun _ => False) (Kx.of_whole hb) (fun _ _ h => h) (fun _ _ _ h => h))
      unfold agT at hc
      clear hun hun2 hps hpt hms hms2
      have HKP : Hid (∀ W', Below w.heap.size w W' → W'.cell? ⟨b, o + i * 9, none⟩ = some (.string (l[i]).name) ∧ W'.cell? ⟨b, o + i * 9 + 1, none⟩ = some (.int .i64 (l[i]).under.kind) ∧ W'.cell? ⟨b, o + i * 9 + 2, none⟩ = some (.string (l[i]).under.name) ∧ W'.cell? ⟨b, o + i * 9 + 3, none⟩ = some (.int .i64 (l[i]).under.n) ∧ W'.cell? ⟨b, o + i * 9 + 4, none⟩ = some (.bool (l[i]).under.flag) ∧ W'.cell? ⟨b, o + i * 9 + 5, none⟩ = some (.slice p1 (l[i]).under.names.length r1) ∧ W'.cell? ⟨b, o + i * 9 + 6, none⟩ = some (.slice p2 (l[i]).under.marks.length r2) ∧ W'.cell? ⟨b, o + i * 9 + 7, none⟩ = some (.slice p3 (l[i]).under.kids.length r3) ∧ W'.cell? ⟨b, o + i * 9 + 8, none⟩ = some (.slice p4 (l[i]).mths.length r4) ∧ W'.cell? ⟨b2, o2 + i * 9, none⟩ = some (.string (l[i]).name) ∧ W'.cell? ⟨b2, o2 + i * 9 + 1, none⟩ = some (.int .i64 (l[i]).under.kind) ∧ W'.cell? ⟨b2, o2 + i * 9 + 2, none⟩ = some (.string (l[i]).under.name) ∧ W'.cell? ⟨b2, o2 + i * 9 + 3, none⟩ = some (.int .i64 (l[i]).under.n) ∧ W'.cell? ⟨b2, o2 + i * 9 + 4, none⟩ = some (.bool (l[i]).under.flag) ∧ W'.cell? ⟨b2, o2 + i * 9 + 5, none⟩ = some (.slice q1 (l[i]).under.names.length t1) ∧ W'.cell? ⟨b2, o2 + i * 9 + 6, none⟩ = some (.slice q2 (l[i]).under.marks.length t2) ∧ W'.cell? ⟨b2, o2 + i * 9 + 7, none⟩ = some (.slice q3 (l[i]).under.kids.length t3) ∧ W'.cell? ⟨b2, o2 + i * 9 + 8, none⟩ = some (.slice q4 (l[i]).mths.length t4)) := fun W' hb => ⟨kept_cell hb k0, kept_cell hb k1, kept_cell hb k2, kept_cell hb k3, kept_cell hb k4, kept_cell hb k5, kept_cell hb k6, kept_cell hb k7, kept_cell hb k8, kept_cell hb g0, kept_cell hb g1, kept_cell hb g2, kept_cell hb g3, kept_cell hb g4, kept_cell hb g5, kept_cell hb g6, kept_cell hb g7, kept_cell hb g8⟩
      clear k0 k1 k2 k3 k4 k5 k6 k7 k8 g0 g1 g2 g3 g4 g5 g6 g7 g8
      have kS := HKP.out wr HX.out
      obtain ⟨k0, k1, k2, k3, k4, k5, k6, k7, k8, g0, g1, g2, g3, g4, g5, g6, g7, g8⟩ := kS
      have kS := HKP.out wr HX.out
      go_wp2_with fail
      refine wp_region_held_drew (S := fun w' => w'.cell? ⟨b, o + i * 9, none⟩ = some (.string (l[i]).name) ∧ w'.cell? ⟨b, o + i * 9 + 1, none⟩ = some (.int .i64 (l[i]).under.kind) ∧ w'.cell? ⟨b, o + i * 9 + 2, none⟩ = some (.string (l[i]).under.name) ∧ w'.cell? ⟨b, o + i * 9 + 3, none⟩ = some (.int .i64 (l[i]).under.n) ∧ w'.cell? ⟨b, o + i * 9 + 4, none⟩ = some (.bool (l[i]).under.flag) ∧ w'.cell? ⟨b, o + i * 9 + 5, none⟩ = some (.slice p1 (l[i]).under.names.length r1) ∧ w'.cell? ⟨b, o + i * 9 + 6, none⟩ = some (.slice p2 (l[i]).under.marks.length r2) ∧ w'.cell? ⟨b, o + i * 9 + 7, none⟩ = some (.slice p3 (l[i]).under.kids.length r3) ∧ w'.cell? ⟨b, o + i * 9 + 8, none⟩ = some (.slice p4 (l[i]).mths.length r4) ∧ w'.cell? ⟨b2, o2 + i * 9, none⟩ = some (.string (l[i]).name) ∧ w'.cell? ⟨b2, o2 + i * 9 + 1, none⟩ = some (.int .i64 (l[i]).under.kind) ∧ w'.cell? ⟨b2, o2 + i * 9 + 2, none⟩ = some (.string (l[i]).under.name) ∧ w'.cell? ⟨b2, o2 + i * 9 + 3, none⟩ = some (.int .i64 (l[i]).under.n) ∧ w'.cell? ⟨b2, o2 + i * 9 + 4, none⟩ = some (.bool (l[i]).under.flag) ∧ w'.cell? ⟨b2, o2 + i * 9 + 5, none⟩ = some (.slice q1 (l[i]).under.names.length t1) ∧ w'.cell? ⟨b2, o2 + i * 9 + 6, none⟩ = some (.slice q2 (l[i]).under.marks.length t2) ∧ w'.cell? ⟨b2, o2 + i * 9 + 7, none⟩ = some (.slice q3 (l[i]).under.kids.length t3) ∧ w'.cell? ⟨b2, o2 + i * 9 + 8, none⟩ = some (.slice q4 (l[i]).mths.length t4)) (by kernel_rfl) (by exact kS) (fun hHeld => ?_)
      clear hHeld
      refine wpAnyH_take (i := 0) (oi := { dst := some 17, op := Op.move (Operand.tmp 0), type := 22, pos := "alike.go:141", after := #[], guard := none }) (v := ?_) rfl (by kernel_rfl) (by kernel_rfl) (by kernel_rfl) (fun _ _ _ h => h) (Or.inl ⟨by rfl, ?_⟩) (by exact kS) ?_
      rotate_left
      · intro w hSw; (try dsimp only at hSw); (go_simp <;> with_reducible rfl)
      try simp only [Act.put, List.setIfInBounds_toArray, List.set_cons_zero, List.set_cons_succ]
      refine wpAnyH_take (i := 1) (oi := { dst := some 18, op := Op.move (Operand.tmp 5), type := 3, pos := "alike.go:141", after := #[], guard := none }) (v := ?_) rfl (by kernel_rfl) (by kernel_rfl) (by kernel_rfl) (fun _ _ _ h => h) (Or.inl ⟨by rfl, ?_⟩) (by exact kS) ?_
      rotate_left
      · intro w hSw; (try dsimp only at hSw); (go_simp <;> with_reducible rfl)
      try simp only [Act.put, List.setIfInBounds_toArray, List.set_cons_zero, List.set_cons_succ]
      refine wpAnyH_take (i := 2) (oi := { dst := some 19, op := Op.indexAddr 22 (Operand.tmp 17) (Operand.tmp 18), type := 0, pos := "alike.go:141", after := #[{ on := 0, ground := Ground.data }, { on := 1, ground := Ground.data }], guard := none }) (v := ?_) rfl (by kernel_rfl) (by kernel_rfl) (by kernel_rfl) (fun _ _ _ h => h) (Or.inl ⟨by rfl, ?_⟩) (by exact kS) ?_
      rotate_left
      · intro w hSw; (try dsimp only at hSw); (go_simp <;> with_reducible rfl)
      try simp only [Act.put, List.setIfInBounds_toArray, List.set_cons_zero, List.set_cons_succ]
      refine wpAnyH_take (i := 3) (oi := { dst := some 20, op := Op.fieldAddr 40 (Operand.tmp 19) 0, type := 0, pos := "alike.go:141", after := #[{ on := 2, ground := Ground.data }], guard := none }) (v := ?_) rfl (by kernel_rfl) (by kernel_rfl) (by kernel_rfl) (fun _ _ _ h => h) (Or.inl ⟨by rfl, ?_⟩) (by exact kS) ?_
      rotate_left
      · intro w hSw; (try dsimp only at hSw); (go_simp <;> with_reducible rfl)
      try simp only [Act.put, List.setIfInBounds_toArray, List.set_cons_zero, List.set_cons_succ]
      refine wpAnyH_take (i := 4) (oi := { dst := some 21, op := Op.load 9 (Operand.tmp 20), type := 9, pos := "alike.go:141", after := #[{ on := 3, ground := Ground.data }], guard := none }) (v := ?_) rfl (by kernel_rfl) (by kernel_rfl) (by kernel_rfl) (fun _ _ _ h => h) (Or.inl ⟨by rfl, ?_⟩) (by exact kS) ?_
      rotate_left
      · intro w hSw; (try dsimp only at hSw); (go_simp <;> with_reducible rfl)
      try simp only [Act.put, List.setIfInBounds_toArray, List.set_cons_zero, List.set_cons_succ]
      refine wpAnyH_take (i := 5) (oi := { dst := some 22, op := Op.move (Operand.tmp 1), type := 22, pos := "alike.go:141", after := #[], guard := none }) (v := ?_) rfl (by kernel_rfl) (by kernel_rfl) (by kernel_rfl) (fun _ _ _ h => h) (Or.inl ⟨by rfl, ?_⟩) (by exact kS) ?_
      rotate_left
      · intro w hSw; (try dsimp only at hSw); (go_simp <;> with_reducible rfl)
      try simp only [Act.put, List.setIfInBounds_toArray, List.set_cons_zero, List.set_cons_succ]
      refine wpAnyH_take (i := 6) (oi := { dst := some 23, op := Op.move (Operand.tmp 5), type := 3, pos := "alike.go:141", after := #[], guard := none }) (v := ?_) rfl (by kernel_rfl) (by kernel_rfl) (by kernel_rfl) (fun _ _ _ h => h) (Or.inl ⟨by rfl, ?_⟩) (by exact kS) ?_
      rotate_left
      · intro w hSw; (try dsimp only at hSw); (go_simp <;> with_reducible rfl)
      try simp only [Act.put, List.setIfInBounds_toArray, List.set_cons_zero, List.set_cons_succ]
      refine wpAnyH_take (i := 7) (oi := { dst := some 24, op := Op.indexAddr 22 (Operand.tmp 22) (Operand.tmp 23), type := 0, pos := "alike.go:141", after := #[{ on := 5, ground := Ground.data }, { on := 6, ground := Ground.data }], guard := none }) (v := ?_) rfl (by kernel_rfl) (by kernel_rfl) (by kernel_rfl) (fun _ _ _ h => h) (Or.inl ⟨by rfl, ?_⟩) (by exact kS) ?_
      rotate_left
      · intro w hSw; (try dsimp only at hSw); (go_simp <;> with_reducible rfl)
      try simp only [Act.put, List.setIfInBounds_toArray, List.set_cons_zero, List.set_cons_succ]
      refine wpAnyH_take (i := 8) (oi := { dst := some 25, op := Op.fieldAddr 40 (Operand.tmp 24) 0, type := 0, pos := "alike.go:141", after := #[{ on := 7, ground := Ground.data }], guard := none }) (v := ?_) rfl (by kernel_rfl) (by kernel_rfl) (by kernel_rfl) (fun _ _ _ h => h) (Or.inl ⟨by rfl, ?_⟩) (by exact kS) ?_
      rotate_left
      · intro w hSw; (try dsimp only at hSw); (go_simp <;> with_reducible rfl)
      try simp only [Act.put, List.setIfInBounds_toArray, List.set_cons_zero, List.set_cons_succ]
      refine wpAnyH_take (i := 9) (oi := { dst := some 26, op := Op.load 9 (Operand.tmp 25), type := 9, pos := "alike.go:141", after := #[{ on := 8, ground := Ground.data }], guard := none }) (v := ?_) rfl (by kernel_rfl) (by kernel_rfl) (by kernel_rfl) (fun _ _ _ h => h) (Or.inl ⟨by rfl, ?_⟩) (by exact kS) ?_
      rotate_left
      · intro w hSw; (try dsimp only at hSw); (go_simp <;> with_reducible rfl)
      try simp only [Act.put, List.setIfInBounds_toArray, List.set_cons_zero, List.set_cons_succ]
      refine wpAnyH_take (i := 10) (oi := { dst := some 27, op := Op.binOp BinOp.neq 9 (Operand.tmp 21) (Operand.tmp 26) 9, type := 4, pos := "alike.go:141", after := #[{ on := 4, ground := Ground.data }, { on := 9, ground := Ground.data }], guard := none }) (v := ?_) rfl (by kernel_rfl) (by kernel_rfl) (by kernel_rfl) (fun _ _ _ h => h) (Or.inl ⟨by rfl, ?_⟩) (by exact kS) ?_
      rotate_left
      · intro w hSw; (try dsimp only at hSw); (go_simp <;> with_reducible rfl)
      try simp only [Act.put, List.setIfInBounds_toArray, List.set_cons_zero, List.set_cons_succ]
      refine wpAnyH_take (i := 11) (oi := { dst := some 28, op := Op.move (Operand.tmp 27), type := 4, pos := "alike.go:141", after := #[{ on := 10, ground := Ground.data }], guard := none }) (v := ?_) rfl (by kernel_rfl) (by kernel_rfl) (by kernel_rfl) (fun _ _ _ h => h) (Or.inl ⟨by rfl, ?_⟩) (by exact kS) ?_
      rotate_left
      · intro w hSw; (try dsimp only at hSw); (go_simp <;> with_reducible rfl)
      try simp only [Act.put, List.setIfInBounds_toArray, List.set_cons_zero, List.set_cons_succ]
      refine wpAnyH_take (i := 12) (oi := { dst := some 29, op := Op.move (Operand.tmp 0), type := 22, pos := "alike.go:141", after := #[{ on := 11, ground := Ground.guard }], guard := some (11, false) }) (v := ?_) rfl (by kernel_rfl) (by kernel_rfl) (by kernel_rfl) (fun _ _ _ h => h) (Or.inl ⟨by rfl, ?_⟩) (by exact kS) ?_
      rotate_left
      · intro w hSw; (try dsimp only at hSw); (go_simp <;> with_reducible rfl)
      try simp only [Act.put, List.setIfInBounds_toArray, List.set_cons_zero, List.set_cons_succ]
      refine wpAnyH_take (i := 13) (oi := { dst := some 30, op := Op.move (Operand.tmp 5), type := 3, pos := "alike.go:141", after := #[{ on := 11, ground := Ground.guard }], guard := some (11, false) }) (v := ?_) rfl (by kernel_rfl) (by kernel_rfl) (by kernel_rfl) (fun _ _ _ h => h) (Or.inl ⟨by rfl, ?_⟩) (by exact kS) ?_
      rotate_left
      · intro w hSw; (try dsimp only at hSw); (go_simp <;> with_reducible rfl)
      try simp only [Act.put, List.setIfInBounds_toArray, List.set_cons_zero, List.set_cons_succ]
      refine wpAnyH_take (i := 14) (oi := { dst := some 31, op := Op.indexAddr 22 (Operand.tmp 29) (Operand.tmp 30), type := 0, pos := "alike.go:141", after := #[{ on := 12, ground := Ground.data }, { on := 13, ground := Ground.data }, { on := 11, ground := Ground.guard }], guard := some (11, false) }) (v := ?_) rfl (by kernel_rfl) (by kernel_rfl) (by kernel_rfl) (fun _ _ _ h => h) (Or.inl ⟨by rfl, ?_⟩) (by exact kS) ?_
      rotate_left
      · intro w hSw; (try dsimp only at hSw); (go_simp <;> with_reducible rfl)
      try simp only [Act.put, List.setIfInBounds_toArray, List.set_cons_zero, List.set_cons_succ]
      refine wpAnyH_take (i := 15) (oi := { dst := some 32, op := Op.fieldAddr 40 (Operand.tmp 31) 1, type := 0, pos := "alike.go:141", after := #[{ on := 14, ground := Ground.data }, { on := 11, ground := Ground.guard }], guard := some (11, false) }) (v := ?_) rfl (by kernel_rfl) (by kernel_rfl) (by kernel_rfl) (fun _ _ _ h => h) (Or.inl ⟨by rfl, ?_⟩) (by exact kS) ?_
      rotate_left
      · intro w hSw; (try dsimp only at hSw); (go_simp <;> with_reducible rfl)
      try simp only [Act.put, List.setIfInBounds_toArray, List.set_cons_zero, List.set_cons_succ]
      refine wpAnyH_take (i := 16) (oi := { dst := some 33, op := Op.load 27 (Operand.tmp 32), type := 27, pos := "alike.go:141", after := #[{ on := 15, ground := Ground.data }, { on := 11, ground := Ground.guard }], guard := some (11, false) }) (v := ?_) rfl (by kernel_rfl) (by kernel_rfl) (by kernel_rfl) (fun _ _ _ h => h) (Or.inl ⟨by rfl, ?_⟩) (by exact kS) ?_
      rotate_left
      · intro w hSw; (try dsimp only at hSw); (go_simp <;> with_reducible rfl)
      try simp only [Act.put, List.setIfInBounds_toArray, List.set_cons_zero, List.set_cons_succ]
      refine wpAnyH_take (i := 17) (oi := { dst := some 34, op := Op.move (Operand.tmp 1), type := 22, pos := "alike.go:141", after := #[{ on := 11, ground := Ground.guard }], guard := some (11, false) }) (v := ?_) rfl (by kernel_rfl) (by kernel_rfl) (by kernel_rfl) (fun _ _ _ h => h) (Or.inl ⟨by rfl, ?_⟩) (by exact kS) ?_
      rotate_left
      · intro w hSw; (try dsimp only at hSw); (go_simp <;> with_reducible rfl)
      try simp only [Act.put, List.setIfInBounds_toArray, List.set_cons_zero, List.set_cons_succ]
      refine wpAnyH_take (i := 18) (oi := { dst := some 35, op := Op.move (Operand.tmp 5), type := 3, pos := "alike.go:141", after := #[{ on := 11, ground := Ground.guard }], guard := some (11, false) }) (v := ?_) rfl (by kernel_rfl) (by kernel_rfl) (by kernel_rfl) (fun _ _ _ h => h) (Or.inl ⟨by rfl, ?_⟩) (by exact kS) ?_
      rotate_left
      · intro w hSw; (try dsimp only at hSw); (go_simp <;> with_reducible rfl)
      try simp only [Act.put, List.setIfInBounds_toArray, List.set_cons_zero, List.set_cons_succ]
      refine wpAnyH_take (i := 19) (oi := { dst := some 36, op := Op.indexAddr 22 (Operand.tmp 34) (Operand.tmp 35), type := 0, pos := "alike.go:141", after := #[{ on := 17, ground := Ground.data }, { on := 18, ground := Ground.data }, { on := 11, ground := Ground.guard }], guard := some (11, false) }) (v := ?_) rfl (by kernel_rfl) (by kernel_rfl) (by kernel_rfl) (fun _ _ _ h => h) (Or.inl ⟨by rfl, ?_⟩) (by exact kS) ?_
      rotate_left
      · intro w hSw; (try dsimp only at hSw); (go_simp <;> with_reducible rfl)
      try simp only [Act.put, List.setIfInBounds_toArray, List.set_cons_zero, List.set_cons_succ]
      refine wpAnyH_take (i := 20) (oi := { dst := some 37, op := Op.fieldAddr 40 (Operand.tmp 36) 1, type := 0, pos := "alike.go:141", after := #[{ on := 19, ground := Ground.data }, { on := 11, ground := Ground.guard }], guard := some (11, false) }) (v := ?_) rfl (by kernel_rfl) (by kernel_rfl) (by kernel_rfl) (fun _ _ _ h => h) (Or.inl ⟨by rfl, ?_⟩) (by exact kS) ?_
      rotate_left
      · intro w hSw; (try dsimp only at hSw); (go_simp <;> with_reducible rfl)
      try simp only [Act.put, List.setIfInBounds_toArray, List.set_cons_zero, List.set_cons_succ]
      refine wpAnyH_take (i := 21) (oi := { dst := some 38, op := Op.load 27 (Operand.tmp 37), type := 27, pos := "alike.go:141", after := #[{ on := 20, ground := Ground.data }, { on := 11, ground := Ground.guard }], guard := some (11, false) }) (v := ?_) rfl (by kernel_rfl) (by kernel_rfl) (by kernel_rfl) (fun _ _ _ h => h) (Or.inl ⟨by rfl, ?_⟩) (by exact kS) ?_
      rotate_left
      · intro w hSw; (try dsimp only at hSw); (go_simp <;> with_reducible rfl)
      try simp only [Act.put, List.setIfInBounds_toArray, List.set_cons_zero, List.set_cons_succ]
      refine wpAnyH_ready (rs := [22]) (by kernel_rfl) (by simp) ?_
      refine AllReadyH.cons (o := { dst := some 39, op := Op.call { callee := Callee.value (Operand.func 11), args := #[Operand.tmp 33, Operand.tmp 38], argTypes := #[27, 27] }, type := 4, pos := "alike.go:141", after := #[{ on := 16, ground := Ground.data }, { on := 21, ground := Ground.data }, { on := 11, ground := Ground.chain }, { on := 11, ground := Ground.guard }], guard := some (11, false) }) rfl (fun K hK => ?_) AllReadyH.nil
      go_simp
      go_at_call 11; refine hc.mono ?_; rintro e w5 ⟨rfl, hb5⟩; have HB5 : Hid (Below w.heap.size w w5) := bthen HX.out (bthen (below_drew1 _) hb5); have kS := HKP.out w5 HB5.out; clear hb5 hc; have hm := HMS.out w5 HB5.out
      go_wp2_with fail
      refine hK.out _ _ (by exact kS) (fun hHeld => ?_)
      clear hK K hHeld
      try simp only [Act.put, List.setIfInBounds_toArray, List.set_cons_zero, List.set_cons_succ]
      refine wpAnyH_take (i := 23) (oi := { dst := some 40, op := Op.unOp UnOp.not 4 (Operand.tmp 39), type := 4, pos := "alike.go:141", after := #[{ on := 22, ground := Ground.data }, { on := 11, ground := Ground.guard }], guard := some (11, false) }) (v := ?_) rfl (by kernel_rfl) (by kernel_rfl) (by kernel_rfl) (fun _ _ _ h => h) (Or.inl ⟨by rfl, ?_⟩) (by exact kS) ?_
      rotate_left
      · intro w hSw; (try dsimp only at hSw); (go_simp <;> with_reducible rfl)
      try simp only [Act.put, List.setIfInBounds_toArray, List.set_cons_zero, List.set_cons_succ]
      refine wpAnyH_take (i := 24) (oi := { dst := some 41, op := Op.pick (Operand.tmp 28) (Operand.const (Value.bool true)) (Operand.tmp 40), type := 4, pos := "alike.go:141", after := #[{ on := 11, ground := Ground.data }, { on := 23, ground := Ground.data }], guard := none }) (v := ?_) rfl (by kernel_rfl) (by kernel_rfl) (by kernel_rfl) (fun _ _ _ h => h) (Or.inl ⟨by rfl, ?_⟩) (by exact kS) ?_
      rotate_left
      · intro w hSw; (try dsimp only at hSw); (go_simp <;> with_reducible rfl)
      try simp only [Act.put, List.setIfInBounds_toArray, List.set_cons_zero, List.set_cons_succ]
      refine wpAnyH_take (i := 25) (oi := { dst := some 42, op := Op.move (Operand.tmp 41), type := 4, pos := "alike.go:141", after := #[{ on := 24, ground := Ground.data }, { on := 22, ground := Ground.chain }], guard := none }) (v := ?_) rfl (by kernel_rfl) (by kernel_rfl) (by kernel_rfl) (fun _ _ _ h => h) (Or.inl ⟨by rfl, ?_⟩) (by exact kS) ?_
      rotate_left
      · intro w hSw; (try dsimp only at hSw); (go_simp <;> with_reducible rfl)
      try simp only [Act.put, List.setIfInBounds_toArray, List.set_cons_zero, List.set_cons_succ]
      refine wpAnyH_take (i := 26) (oi := { dst := some 43, op := Op.move (Operand.tmp 0), type := 22, pos := "alike.go:141", after := #[{ on := 25, ground := Ground.guard }], guard := some (25, false) }) (v := ?_) rfl (by kernel_rfl) (by kernel_rfl) (by kernel_rfl) (fun _ _ _ h => h) (Or.inl ⟨by rfl, ?_⟩) (by exact kS) ?_
      rotate_left
      · intro w hSw; (try dsimp only at hSw); (go_simp <;> with_reducible rfl)
      try simp only [Act.put, List.setIfInBounds_toArray, List.set_cons_zero, List.set_cons_succ]
      refine wpAnyH_take (i := 27) (oi := { dst := some 44, op := Op.move (Operand.tmp 5), type := 3, pos := "alike.go:141", after := #[{ on := 25, ground := Ground.guard }], guard := some (25, false) }) (v := ?_) rfl (by kernel_rfl) (by kernel_rfl) (by kernel_rfl) (fun _ _ _ h => h) (Or.inl ⟨by rfl, ?_⟩) (by exact kS) ?_
      rotate_left
      · intro w hSw; (try dsimp only at hSw); (go_simp <;> with_reducible rfl)
      try simp only [Act.put, List.setIfInBounds_toArray, List.set_cons_zero, List.set_cons_succ]
      refine wpAnyH_take (i := 28) (oi := { dst := some 45, op := Op.indexAddr 22 (Operand.tmp 43) (Operand.tmp 44), type := 0, pos := "alike.go:141", after := #[{ on := 26, ground := Ground.data }, { on := 27, ground := Ground.data }, { on := 25, ground := Ground.guard }], guard := some (25, false) }) (v := ?_) rfl (by kernel_rfl) (by kernel_rfl) (by kernel_rfl) (fun _ _ _ h => h) (Or.inl ⟨by rfl, ?_⟩) (by exact kS) ?_
      rotate_left
      · intro w hSw; (try dsimp only at hSw); (go_simp <;> with_reducible rfl)
      try simp only [Act.put, List.setIfInBounds_toArray, List.set_cons_zero, List.set_cons_succ]
      refine wpAnyH_take (i := 29) (oi := { dst := some 46, op := Op.fieldAddr 40 (Operand.tmp 45) 2, type := 0, pos := "alike.go:141", after := #[{ on := 28, ground := Ground.data }, { on := 25, ground := Ground.guard }], guard := some (25, false) }) (v := ?_) rfl (by kernel_rfl) (by kernel_rfl) (by kernel_rfl) (fun _ _ _ h => h) (Or.inl ⟨by rfl, ?_⟩) (by exact kS) ?_
      rotate_left
      · intro w hSw; (try dsimp only at hSw); (go_simp <;> with_reducible rfl)
      try simp only [Act.put, List.setIfInBounds_toArray, List.set_cons_zero, List.set_cons_succ]
      refine wpAnyH_take (i := 30) (oi := { dst := some 47, op := Op.load 38 (Operand.tmp 46), type := 38, pos := "alike.go:141", after := #[{ on := 29, ground := Ground.data }, { on := 25, ground := Ground.guard }], guard := some (25, false) }) (v := ?_) rfl (by kernel_rfl) (by kernel_rfl) (by kernel_rfl) (fun _ _ _ h => h) (Or.inl ⟨by rfl, ?_⟩) (by exact kS) ?_
      rotate_left
      · intro w hSw; (try dsimp only at hSw); (go_simp <;> with_reducible rfl)
      try simp only [Act.put, List.setIfInBounds_toArray, List.set_cons_zero, List.set_cons_succ]
      refine wpAnyH_take (i := 31) (oi := { dst := some 48, op := Op.move (Operand.tmp 1), type := 22, pos := "alike.go:141", after := #[{ on := 25, ground := Ground.guard }], guard := some (25, false) }) (v := ?_) rfl (by kernel_rfl) (by kernel_rfl) (by kernel_rfl) (fun _ _ _ h => h) (Or.inl ⟨by rfl, ?_⟩) (by exact kS) ?_
      rotate_left
      · intro w hSw; (try dsimp only at hSw); (go_simp <;> with_reducible rfl)
      try simp only [Act.put, List.setIfInBounds_toArray, List.set_cons_zero, List.set_cons_succ]
      refine wpAnyH_take (i := 32) (oi := { dst := some 49, op := Op.move (Operand.tmp 5), type := 3, pos := "alike.go:141", after := #[{ on := 25, ground := Ground.guard }], guard := some (25, false) }) (v := ?_) rfl (by kernel_rfl) (by kernel_rfl) (by kernel_rfl) (fun _ _ _ h => h) (Or.inl ⟨by rfl, ?_⟩) (by exact kS) ?_
      rotate_left
      · intro w hSw; (try dsimp only at hSw); (go_simp <;> with_reducible rfl)
      try simp only [Act.put, List.setIfInBounds_toArray, List.set_cons_zero, List.set_cons_succ]
      refine wpAnyH_take (i := 33) (oi := { dst := some 50, op := Op.indexAddr 22 (Operand.tmp 48) (Operand.tmp 49), type := 0, pos := "alike.go:141", after := #[{ on := 31, ground := Ground.data }, { on := 32, ground := Ground.data }, { on := 25, ground := Ground.guard }], guard := some (25, false) }) (v := ?_) rfl (by kernel_rfl) (by kernel_rfl) (by kernel_rfl) (fun _ _ _ h => h) (Or.inl ⟨by rfl, ?_⟩) (by exact kS) ?_
      rotate_left
      · intro w hSw; (try dsimp only at hSw); (go_simp <;> with_reducible rfl)
      try simp only [Act.put, List.setIfInBounds_toArray, List.set_cons_zero, List.set_cons_succ]
      refine wpAnyH_take (i := 34) (oi := { dst := some 51, op := Op.fieldAddr 40 (Operand.tmp 50) 2, type := 0, pos := "alike.go:141", after := #[{ on := 33, ground := Ground.data }, { on := 25, ground := Ground.guard }], guard := some (25, false) }) (v := ?_) rfl (by kernel_rfl) (by kernel_rfl) (by kernel_rfl) (fun _ _ _ h => h) (Or.inl ⟨by rfl, ?_⟩) (by exact kS) ?_
      rotate_left
      · intro w hSw; (try dsimp only at hSw); (go_simp <;> with_reducible rfl)
      try simp only [Act.put, List.setIfInBounds_toArray, List.set_cons_zero, List.set_cons_succ]
      refine wpAnyH_take (i := 35) (oi := { dst := some 52, op := Op.load 38 (Operand.tmp 51), type := 38, pos := "alike.go:141", after := #[{ on := 34, ground := Ground.data }, { on := 25, ground := Ground.guard }], guard := some (25, false) }) (v := ?_) rfl (by kernel_rfl) (by kernel_rfl) (by kernel_rfl) (fun _ _ _ h => h) (Or.inl ⟨by rfl, ?_⟩) (by exact kS) ?_
      rotate_left
      · intro w hSw; (try dsimp only at hSw); (go_simp <;> with_reducible rfl)
      try simp only [Act.put, List.setIfInBounds_toArray, List.set_cons_zero, List.set_cons_succ]
      refine wpAnyH_ready (rs := [36]) (by kernel_rfl) (by simp) ?_
      refine AllReadyH.cons (o := { dst := some 53, op := Op.call { callee := Callee.value (Operand.func 31), args := #[Operand.tmp 47, Operand.tmp 52], argTypes := #[38, 38] }, type := 4, pos := "alike.go:141", after := #[{ on := 30, ground := Ground.data }, { on := 35, ground := Ground.data }, { on := 25, ground := Ground.chain }, { on := 25, ground := Ground.guard }], guard := some (25, false) }) rfl (fun K hK => ?_) AllReadyH.nil
      go_simp
      go_at_call 31; refine hm.mono ?_; rintro e w6 ⟨rfl, hb6⟩; have HB6 : Hid (Below w.heap.size w w6) := bthen HB5.out hb6; have kS := HKP.out w6 HB6.out; clear hb6 hm
      go_wp2_with fail
      refine hK.out _ _ (by exact kS) (fun hHeld => ?_)
      clear hK K hHeld
      try simp only [Act.put, List.setIfInBounds_toArray, List.set_cons_zero, List.set_cons_succ]
      refine wpAnyH_take (i := 37) (oi := { dst := some 54, op := Op.unOp UnOp.not 4 (Operand.tmp 53), type := 4, pos := "alike.go:141", after := #[{ on := 36, ground := Ground.data }, { on := 25, ground := Ground.guard }], guard := some (25, false) }) (v := ?_) rfl (by kernel_rfl) (by kernel_rfl) (by kernel_rfl) (fun _ _ _ h => h) (Or.inl ⟨by rfl, ?_⟩) (by exact kS) ?_
      rotate_left
      · intro w hSw; (try dsimp only at hSw); (go_simp <;> with_reducible rfl)
      try simp only [Act.put, List.setIfInBounds_toArray, List.set_cons_zero, List.set_cons_succ]
      refine wpAnyH_take (i := 38) (oi := { dst := some 55, op := Op.pick (Operand.tmp 42) (Operand.const (Value.bool true)) (Operand.tmp 54), type := 4, pos := "alike.go:141", after := #[{ on := 25, ground := Ground.data }, { on := 37, ground := Ground.data }], guard := none }) (v := ?_) rfl (by kernel_rfl) (by kernel_rfl) (by kernel_rfl) (fun _ _ _ h => h) (Or.inl ⟨by rfl, ?_⟩) (by exact kS) ?_
      rotate_left
      · intro w hSw; (try dsimp only at hSw); (go_simp <;> with_reducible rfl)
      try simp only [Act.put, List.setIfInBounds_toArray, List.set_cons_zero, List.set_cons_succ]
      refine wpAnyH_done (by kernel_rfl) ?_ _
      clear kS
      go_wp2_with fail
      go_roundg (l.length - (i + 1))
      case measure => omega
      case rel => exact ⟨i + 1, by omega, Nat.le_refl _, by go_num, HB6.out⟩
    · have z1 : ¬ (i : Int) < (l.length : Int) := by omega
      go_wp2_with fail
      go_ret
      exact ⟨rfl, HX.out⟩
end Go.Proofs.Ytpcpncgigdebiaa

