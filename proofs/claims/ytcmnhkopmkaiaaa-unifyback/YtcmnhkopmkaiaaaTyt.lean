/-
  recastalike.Types, walked.
-/
import Derived.Test.YtcmnhkopmkaiaaaTys
namespace Go.Proofs.Ytcmnhkopmkaiaaa
open Go.RowKit
attribute [local go_sem ↓] Go.wp_at_zero Go.wp_at_succ
/-- are they one? -/
noncomputable def tyEq (a b : Ty) : Bool := @decide (a = b) (Classical.propDecidable _)
theorem tyEq_true {a b : Ty} (h : a = b) : tyEq a b = true := by unfold tyEq; simp [h]
theorem tyEq_false {a b : Ty} (h : a ≠ b) : tyEq a b = false := by unfold tyEq; simp [h]
theorem tyEq_iff {a b : Ty} : tyEq a b = true ↔ a = b := by unfold tyEq; simp
set_option maxRecDepth 100000 in
set_option maxHeartbeats 4000000 in
theorem types_any (B B' : BQ) : ∀ x : Ty, ∀ (y : Ty) (w : World) (vn vm vk un um uk : Value), Prt B w x vn vm vk → Prt B' w y un um uk → Calls Try.prog 20 #[agT x vn vm vk, agT y un um uk] w fun e w' => e = .returned (.bool (tyEq x y)) ∧ Below w.heap.size w w' := by
  refine Ty.ind fun xk xnm xn xf xns xms xks ih y w vn vm vk un um uk hp hq => ?_
  have HI : Hid (∀ x ∈ xks, ∀ (y : Ty) (w : World) (vn vm vk un um uk : Value), Prt B w x vn vm vk → Prt B' w y un um uk → Calls Try.prog 20 #[agT x vn vm vk, agT y un um uk] w fun e w' => e = .returned (.bool (tyEq x y)) ∧ Below w.heap.size w w') := ih
  obtain ⟨yk, ynm, yn, yf, yns, yms, yks⟩ := y
  obtain ⟨xan, xcn, xam, xcm, xak, xck, rfl, rfl, rfl⟩ := hp.form
  obtain ⟨yan, ycn, yam, ycm, yak, yck, rfl, rfl, rfl⟩ := hq.form
  unfold agT
  simp only [Ty.kind, Ty.name, Ty.n, Ty.flag, Ty.names, Ty.marks, Ty.kids] at hp hq ⊢
  obtain ⟨xlk, hxl⟩ : ∃ n, n = xks.length := ⟨_, rfl⟩
  obtain ⟨ylk, hyl⟩ : ∃ n, n = yks.length := ⟨_, rfl⟩
  rw [← hxl] at hp ⊢
  rw [← hyl] at hq ⊢
  obtain ⟨W0, hW0⟩ : ∃ W0, W0 = (w.alloc (.cells #[.int .i64 xk, .string xnm, .int .i64 xn, .bool xf, .slice xan xns.length xcn, .slice xam xms.length xcm, .slice xak xlk xck] 26)).alloc (.cells #[.int .i64 yk, .string ynm, .int .i64 yn, .bool yf, .slice yan yns.length ycn, .slice yam yms.length ycm, .slice yak ylk yck] 26) := ⟨_, rfl⟩
  have hb0 : Below w.heap.size w W0 := by rw [hW0]; exact bthen (below_alloc _ _) (below_alloc _ _)
  have HB0 : Hid (Below w.heap.size w W0) := hb0
  have hz0 := hb0.size
  have HP : Hid (Prt B W0 (.mk xk xnm xn xf xns xms xks) (.slice xan xns.length xcn) (.slice xam xms.length xcm) (.slice xak xlk xck)) := hp.kept hb0
  have HQ : Hid (Prt B' W0 (.mk yk ynm yn yf yns yms yks) (.slice yan yns.length ycn) (.slice yam yms.length ycm) (.slice yak ylk yck)) := hq.kept hb0
  obtain ⟨a0, c0, e0, hlen, hel⟩ := HP.out.ks.open
  obtain ⟨rfl, hq9, rfl⟩ : xak = a0 ∧ xlk = xks.length ∧ xck = c0 := by simpa [Ty.kids] using e0
  clear hq9
  have HEL : Hid (∀ i (hi : i < xks.length), ∃ b o, xak = some ⟨b, o, none⟩ ∧ b < W0.heap.size ∧ B b ∧ (xks[i]).lies B W0 b (o + i * 7)) := hel
  have hlen : (xlk : Int) ≤ 9223372036854775807 := by rw [hxl]; exact hlen
  clear e0 hel
  obtain ⟨a0, c0, e0, hlen', hel⟩ := HQ.out.ks.open
  obtain ⟨rfl, hq9, rfl⟩ : yak = a0 ∧ ylk = yks.length ∧ yck = c0 := by simpa [Ty.kids] using e0
  clear hq9
  have HEM : Hid (∀ i (hi : i < yks.length), ∃ b o, yak = some ⟨b, o, none⟩ ∧ b < W0.heap.size ∧ B' b ∧ (yks[i]).lies B' W0 b (o + i * 7)) := hel
  have HX0 : Hid (W0.heap[w.heap.size]? = some (.cells #[.int .i64 xk, .string xnm, .int .i64 xn, .bool xf, .slice xan xns.length xcn, .slice xam xms.length xcm, .slice xak xlk xck] 26 (0, 0))) := by
    show _ = _
    rw [hW0]; exact blk_kept (below_alloc _ _) (heap_new _ _)
  have HY0 : Hid (W0.heap[w.heap.size + 1]? = some (.cells #[.int .i64 yk, .string ynm, .int .i64 yn, .bool yf, .slice yan yns.length ycn, .slice yam yms.length ycm, .slice yak ylk yck] 26 (0, 0))) := by
    show _ = _
    rw [hW0]
    have := heap_new (w.alloc (.cells #[.int .i64 xk, .string xnm, .int .i64 xn, .bool xf, .slice xan xns.length xcn, .slice xam xms.length xcm, .slice xak xlk xck] 26)) (.cells #[.int .i64 yk, .string ynm, .int .i64 yn, .bool yf, .slice yan yns.length ycn, .slice yam yms.length ycm, .slice yak ylk yck] 26)
    simpa using this
  clear ih hp hq hb0 e0 hel hlen'
  have n1 : StrV B W0 (.slice xan xns.length xcn) xns := HP.out.ns
  have n2 : StrV B' W0 (.slice yan yns.length ycn) yns := HQ.out.ns
  have m1 : BooV B W0 (.slice xam xms.length xcm) xms := HP.out.ms
  have m2 : BooV B' W0 (.slice yam yms.length ycm) yms := HQ.out.ms
  have hTX := texts_any n1 n2
  have hBX := fun W (h : Below W0.heap.size W0 W) => bools_any (m1.kept h) (m2.kept h)
  clear n1 n2 m1 m2
  obtain ⟨R, hR⟩ : ∃ R, R = tyEq (.mk xk xnm xn xf xns xms xks) (.mk yk ynm yn yf yns yms yks) := ⟨_, rfl⟩
  rw [← hR]
  have HF : Hid ((xk ≠ yk ∨ xnm ≠ ynm ∨ xn ≠ yn ∨ xf ≠ yf ∨ xns ≠ yns ∨ xms ≠ yms ∨ xks ≠ yks) → R = false) := fun h => by
    rw [hR]; apply tyEq_false; intro e; injection e with e1 e2 e3 e4 e5 e6 e7
    rcases h with h | h | h | h | h | h | h
    · exact h e1
    · exact h e2
    · exact h e3
    · exact h e4
    · exact h e5
    · exact h e6
    · exact h e7
  have HTT : Hid (xk = yk → xnm = ynm → xn = yn → xf = yf → xns = yns → xms = yms → xks = yks → R = true) := fun h1 h2 h3 h4 h5 h6 h7 => by
    rw [hR]; apply tyEq_true; rw [h1, h2, h3, h4, h5, h6, h7]
  have HXL : Hid (xlk = xks.length) := hxl
  have HYL : Hid (ylk = yks.length) := hyl
  clear hR HP HQ hxl hyl
  obtain ⟨s0, s1, s2, s3, s4, s5, s6⟩ := bx7 HX0.out
  obtain ⟨t0, t1, t2, t3, t4, t5, t6⟩ := bx7 HY0.out
  subst hW0
  by_cases c0 : xk = yk
  · subst c0
    by_cases c1 : xnm = ynm
    · subst c1
      by_cases c2 : xn = yn
      · subst c2
        by_cases c3 : xf = yf
        · subst c3
          by_cases c4 : xns = yns
          · rw [decide_eq_true c4] at hTX
            have C4 : Hid (xns = yns) := c4
            clear c4
            by_cases c5 : xms = yms
            · rw [decide_eq_true c5] at hBX
              have C5 : Hid (xms = yms) := c5
              clear c5
              by_cases c6 : xlk = ylk
              · subst c6
                go_enter Try.func20, Try.ntmps20
                go_wp2_with fail
                generalize (w.alloc (.cells #[.int .i64 xk, .string xnm, .int .i64 xn, .bool xf, .slice xan xns.length xcn, .slice xam xms.length xcm, .slice xak xlk xck] 26)).alloc (.cells #[.int .i64 xk, .string xnm, .int .i64 xn, .bool xf, .slice yan yns.length ycn, .slice yam yms.length ycm, .slice yak xlk yck] 26) = W0 at *
                go_wp2_with (first
                  | (go_at_call 30; refine hTX.mono ?_; rintro e w1 ⟨rfl, hb1⟩; have HB1 : Hid (Below W0.heap.size W0 w1) := hb1; obtain ⟨s0, s1, s2, s3, s4, s5, s6⟩ := bx7 (blk_kept hb1 HX0.out); obtain ⟨t0, t1, t2, t3, t4, t5, t6⟩ := bx7 (blk_kept hb1 HY0.out); have hb9 := hBX _ hb1; clear hb1 hTX)
                  | (go_at_call 31; refine hb9.mono ?_; rintro e w2 ⟨rfl, hb2⟩; have HB2 : Hid (Below W0.heap.size W0 w2) := HB1.out.trans (hb2.mono HB1.out.size); obtain ⟨s0, s1, s2, s3, s4, s5, s6⟩ := bx7 (blk_kept HB2.out HX0.out); obtain ⟨t0, t1, t2, t3, t4, t5, t6⟩ := bx7 (blk_kept HB2.out HY0.out); clear hb2 hb9))
                go_loopg [5] xlk (fun g u5 wr => ∃ i : Nat, i ≤ xlk ∧ xlk - i ≤ g ∧ u5 = .int .i64 i ∧ Hid (Below W0.heap.size W0 wr ∧ ∀ j (h1 : j < xks.length) (h2 : j < yks.length), j < i → xks[j] = yks[j]))
                case atStart => exact ⟨0, Nat.zero_le _, Nat.le_refl _, rfl, HB2.out, fun j _ _ hj => by omega⟩
                case round =>
                  obtain ⟨i, hi, hg, rfl, HX⟩ := hrel
                  clear s0 s1 s2 s3 s4 s5 s6 t0 t1 t2 t3 t4 t5 t6
                  obtain ⟨s0, s1, s2, s3, s4, s5, s6⟩ := bx7 (blk_kept HX.out.1 HX0.out)
                  obtain ⟨t0, t1, t2, t3, t4, t5, t6⟩ := bx7 (blk_kept HX.out.1 HY0.out)
                  by_cases hlt : i < xlk
                  · have z1 : (i : Int) < (xlk : Int) := by omega
                    have z0 : (0 : Int) ≤ (i : Int) := by omega
                    have hlx : i < xks.length := by rw [← HXL.out]; exact hlt
                    have hlt' : i < yks.length := by rw [← HYL.out]; exact hlt
                    obtain ⟨b, o, rfl, _, _, hli⟩ := HEL.out i hlx
                    obtain ⟨b', o', rfl, _, _, hli'⟩ := HEM.out i hlt'
                    obtain ⟨e0, e1, e2, e3, v4, v5, v6, e4, e5, e6, hpi⟩ := lies_iff.1 hli
                    obtain ⟨bn, dn, bm, dm, bk, dk, rfl, rfl, rfl⟩ := hpi.form
                    obtain ⟨f0, f1, f2, f3, q4, q5, q6, f4, f5, f6, hqi⟩ := lies_iff.1 hli'
                    obtain ⟨gn, jn, gm, jm, gk', jk, rfl, rfl, rfl⟩ := hqi.form
                    have hc := HI.out xks[i] (List.getElem_mem _) yks[i] (wr.drew) _ _ _ _ _ _ (hpi.kept (HX.out.1.trans ((below_drew1 _).mono HX.out.1.size))) (hqi.kept (HX.out.1.trans ((below_drew1 _).mono HX.out.1.size)))
                    have HXB : Hid (Below W0.heap.size W0 wr) := HX.out.1
                    have HXE : Hid (∀ j (h1 : j < xks.length) (h2 : j < yks.length), j < i → xks[j] = yks[j]) := HX.out.2
                    have HKP : Hid (∀ W, Below W0.heap.size W0 W → (W.cell? ⟨b, o + i * 7, none⟩ = some (.int .i64 (xks[i]).kind) ∧ W.cell? ⟨b, o + i * 7 + 1, none⟩ = some (.string (xks[i]).name) ∧ W.cell? ⟨b, o + i * 7 + 2, none⟩ = some (.int .i64 (xks[i]).n) ∧ W.cell? ⟨b, o + i * 7 + 3, none⟩ = some (.bool (xks[i]).flag) ∧ W.cell? ⟨b, o + i * 7 + 4, none⟩ = some (.slice bn (xks[i]).names.length dn) ∧ W.cell? ⟨b, o + i * 7 + 5, none⟩ = some (.slice bm (xks[i]).marks.length dm) ∧ W.cell? ⟨b, o + i * 7 + 6, none⟩ = some (.slice bk (xks[i]).kids.length dk)) ∧ (W.cell? ⟨b', o' + i * 7, none⟩ = some (.int .i64 (yks[i]).kind) ∧ W.cell? ⟨b', o' + i * 7 + 1, none⟩ = some (.string (yks[i]).name) ∧ W.cell? ⟨b', o' + i * 7 + 2, none⟩ = some (.int .i64 (yks[i]).n) ∧ W.cell? ⟨b', o' + i * 7 + 3, none⟩ = some (.bool (yks[i]).flag) ∧ W.cell? ⟨b', o' + i * 7 + 4, none⟩ = some (.slice gn (yks[i]).names.length jn) ∧ W.cell? ⟨b', o' + i * 7 + 5, none⟩ = some (.slice gm (yks[i]).marks.length jm) ∧ W.cell? ⟨b', o' + i * 7 + 6, none⟩ = some (.slice gk' (yks[i]).kids.length jk)) ∧ (W.cell? ⟨w.heap.size, 6, none⟩ = some (.slice (some ⟨b, o, none⟩) xlk xck) ∧ W.cell? ⟨w.heap.size + 1, 6, none⟩ = some (.slice (some ⟨b', o', none⟩) xlk yck))) := fun W h => ⟨⟨kept_cell h e0, kept_cell h e1, kept_cell h e2, kept_cell h e3, kept_cell h e4, kept_cell h e5, kept_cell h e6⟩, ⟨kept_cell h f0, kept_cell h f1, kept_cell h f2, kept_cell h f3, kept_cell h f4, kept_cell h f5, kept_cell h f6⟩, (bx7 (blk_kept h HX0.out)).2.2.2.2.2.2, (bx7 (blk_kept h HY0.out)).2.2.2.2.2.2⟩
                    unfold agT at hc
                    have HEQ : Hid (∀ b, tyEq xks[i] yks[i] = b → (b = true ↔ xks[i] = yks[i])) := fun b h => by rw [← h]; exact tyEq_iff
                    have kS := HKP.out wr HXB.out
                    clear hli hpi hli' hqi HX e0 e1 e2 e3 e4 e5 e6 f0 f1 f2 f3 f4 f5 f6
                    obtain ⟨bb, hbb⟩ : ∃ bb, tyEq xks[i] yks[i] = bb := ⟨_, rfl⟩
                    have HBB := HEQ.out bb hbb
                    have HBH : Hid (bb = true ↔ xks[i] = yks[i]) := HBB
                    rw [hbb] at hc
                    clear hbb HBB HEQ
                    generalize (xks[i]).kind = ki at *
                    generalize (xks[i]).name = ni at *
                    generalize (xks[i]).n = nn at *
                    generalize (xks[i]).flag = fi at *
                    generalize (xks[i]).names.length = l1 at *
                    generalize (xks[i]).marks.length = l2 at *
                    generalize (xks[i]).kids.length = l3 at *
                    generalize (yks[i]).kind = kj at *
                    generalize (yks[i]).name = nj at *
                    generalize (yks[i]).n = nnj at *
                    generalize (yks[i]).flag = fj at *
                    generalize (yks[i]).names.length = m1 at *
                    generalize (yks[i]).marks.length = m2 at *
                    generalize (yks[i]).kids.length = m3 at *
                    go_wp2_with fail
                    go_region_held3 (fun W => (W.cell? ⟨b, o + i * 7, none⟩ = some (.int .i64 ki) ∧ W.cell? ⟨b, o + i * 7 + 1, none⟩ = some (.string ni) ∧ W.cell? ⟨b, o + i * 7 + 2, none⟩ = some (.int .i64 nn) ∧ W.cell? ⟨b, o + i * 7 + 3, none⟩ = some (.bool fi) ∧ W.cell? ⟨b, o + i * 7 + 4, none⟩ = some (.slice bn l1 dn) ∧ W.cell? ⟨b, o + i * 7 + 5, none⟩ = some (.slice bm l2 dm) ∧ W.cell? ⟨b, o + i * 7 + 6, none⟩ = some (.slice bk l3 dk)) ∧ (W.cell? ⟨b', o' + i * 7, none⟩ = some (.int .i64 kj) ∧ W.cell? ⟨b', o' + i * 7 + 1, none⟩ = some (.string nj) ∧ W.cell? ⟨b', o' + i * 7 + 2, none⟩ = some (.int .i64 nnj) ∧ W.cell? ⟨b', o' + i * 7 + 3, none⟩ = some (.bool fj) ∧ W.cell? ⟨b', o' + i * 7 + 4, none⟩ = some (.slice gn m1 jn) ∧ W.cell? ⟨b', o' + i * 7 + 5, none⟩ = some (.slice gm m2 jm) ∧ W.cell? ⟨b', o' + i * 7 + 6, none⟩ = some (.slice gk' m3 jk)) ∧ (W.cell? ⟨w.heap.size, 6, none⟩ = some (.slice (some ⟨b, o, none⟩) xlk xck) ∧ W.cell? ⟨w.heap.size + 1, 6, none⟩ = some (.slice (some ⟨b', o', none⟩) xlk yck)))
                      (first | exact kS | go_keep)
                      (first | (go_at_call 20; refine hc.mono ?_; rintro e w3 ⟨rfl, hb3⟩; have HB3 : Hid (Below W0.heap.size W0 w3) := HXB.out.trans ((bthen (below_drew1 _) hb3).mono HXB.out.size); have kS := HKP.out w3 HB3.out; clear hb3 hc))
                    all_goals
                      cases bb with
                      | true =>
                        have HE : Hid (xks[i] = yks[i]) := HBH.out.1 rfl
                        go_wp2_with fail
                        go_roundg (xlk - (i + 1))
                        case measure => omega
                        case rel => exact ⟨i + 1, by omega, Nat.le_refl _, by go_num, HB3.out, fun j h1 h2 hj => by
                          rcases Nat.lt_or_ge j i with h | h
                          · exact HXE.out j h1 h2 h
                          · have e : j = i := by omega
                            subst e; exact HE.out⟩
                      | false =>
                        have HN : Hid (R = false) := HF.out (.inr (.inr (.inr (.inr (.inr (.inr fun e => by subst e; have := HBH.out.2 rfl; cases this))))))
                        go_wp2_with fail
                        go_ret
                        exact ⟨by rw [HN.out]; rfl, HB0.out.trans (HB3.out.mono hz0)⟩
                  · have z1 : ¬ (i : Int) < (xlk : Int) := by omega
                    have HN : Hid (R = true) := HTT.out (by first | trivial | rfl) (by first | trivial | rfl) (by first | trivial | rfl) (by first | trivial | rfl) C4.out C5.out (take_eq (by rw [← HXL.out, ← HYL.out]) fun j h1 h2 => HX.out.2 j h1 h2 (by have := HXL.out; omega))
                    have HXB : Hid (Below W0.heap.size W0 wr) := HX.out.1
                    clear HX
                    go_wp2_with fail
                    go_ret
                    exact ⟨by rw [HN.out]; rfl, HB0.out.trans (HXB.out.mono hz0)⟩
              · have k6 := nat_bne c6
                have HN : Hid (R = false) := HF.out (.inr (.inr (.inr (.inr (.inr (.inr fun e => c6 (by rw [HXL.out, HYL.out, e])))))))
                go_enter Try.func20, Try.ntmps20
                go_wp2_with fail
                generalize (w.alloc (.cells #[.int .i64 xk, .string xnm, .int .i64 xn, .bool xf, .slice xan xns.length xcn, .slice xam xms.length xcm, .slice xak xlk xck] 26)).alloc (.cells #[.int .i64 xk, .string xnm, .int .i64 xn, .bool xf, .slice yan yns.length ycn, .slice yam yms.length ycm, .slice yak ylk yck] 26) = W0 at *
                go_wp2_with (first
                  | (go_at_call 30; refine hTX.mono ?_; rintro e w1 ⟨rfl, hb1⟩; have HB1 : Hid (Below W0.heap.size W0 w1) := hb1; obtain ⟨s0, s1, s2, s3, s4, s5, s6⟩ := bx7 (blk_kept hb1 HX0.out); obtain ⟨t0, t1, t2, t3, t4, t5, t6⟩ := bx7 (blk_kept hb1 HY0.out); have hb9 := hBX _ hb1; clear hb1 hTX)
                  | (go_at_call 31; refine hb9.mono ?_; rintro e w2 ⟨rfl, hb2⟩; have HB2 : Hid (Below W0.heap.size W0 w2) := HB1.out.trans (hb2.mono HB1.out.size); obtain ⟨s0, s1, s2, s3, s4, s5, s6⟩ := bx7 (blk_kept HB2.out HX0.out); obtain ⟨t0, t1, t2, t3, t4, t5, t6⟩ := bx7 (blk_kept HB2.out HY0.out); clear hb2 hb9))
                go_ret
                exact ⟨by rw [HN.out]; rfl, HB0.out.trans (HB2.out.mono hz0)⟩
            · rw [decide_eq_false c5] at hBX
              have HN : Hid (R = false) := HF.out (.inr (.inr (.inr (.inr (.inr (.inl c5))))))
              clear c5
              go_enter Try.func20, Try.ntmps20
              go_wp2_with fail
              generalize (w.alloc (.cells #[.int .i64 xk, .string xnm, .int .i64 xn, .bool xf, .slice xan xns.length xcn, .slice xam xms.length xcm, .slice xak xlk xck] 26)).alloc (.cells #[.int .i64 xk, .string xnm, .int .i64 xn, .bool xf, .slice yan yns.length ycn, .slice yam yms.length ycm, .slice yak ylk yck] 26) = W0 at *
              go_wp2_with (first
                | (go_at_call 30; refine hTX.mono ?_; rintro e w1 ⟨rfl, hb1⟩; have HB1 : Hid (Below W0.heap.size W0 w1) := hb1; obtain ⟨s0, s1, s2, s3, s4, s5, s6⟩ := bx7 (blk_kept hb1 HX0.out); obtain ⟨t0, t1, t2, t3, t4, t5, t6⟩ := bx7 (blk_kept hb1 HY0.out); have hb9 := hBX _ hb1; clear hb1 hTX)
                | (go_at_call 31; refine hb9.mono ?_; rintro e w2 ⟨rfl, hb2⟩; have HB2 : Hid (Below W0.heap.size W0 w2) := HB1.out.trans (hb2.mono HB1.out.size); obtain ⟨s0, s1, s2, s3, s4, s5, s6⟩ := bx7 (blk_kept HB2.out HX0.out); obtain ⟨t0, t1, t2, t3, t4, t5, t6⟩ := bx7 (blk_kept HB2.out HY0.out); clear hb2 hb9))
              go_ret
              exact ⟨by rw [HN.out]; rfl, HB0.out.trans (HB2.out.mono hz0)⟩
          · rw [decide_eq_false c4] at hTX
            have HN : Hid (R = false) := HF.out (.inr (.inr (.inr (.inr (.inl c4)))))
            clear c4
            go_enter Try.func20, Try.ntmps20
            go_wp2_with fail
            generalize (w.alloc (.cells #[.int .i64 xk, .string xnm, .int .i64 xn, .bool xf, .slice xan xns.length xcn, .slice xam xms.length xcm, .slice xak xlk xck] 26)).alloc (.cells #[.int .i64 xk, .string xnm, .int .i64 xn, .bool xf, .slice yan yns.length ycn, .slice yam yms.length ycm, .slice yak ylk yck] 26) = W0 at *
            go_wp2_with (go_at_call 30; refine hTX.mono ?_; rintro e w1 ⟨rfl, hb1⟩; have HB1 : Hid (Below W0.heap.size W0 w1) := hb1; obtain ⟨s0, s1, s2, s3, s4, s5, s6⟩ := bx7 (blk_kept hb1 HX0.out); obtain ⟨t0, t1, t2, t3, t4, t5, t6⟩ := bx7 (blk_kept hb1 HY0.out); have hb9 := hBX _ hb1; clear hb1 hTX)
            go_ret
            exact ⟨by rw [HN.out]; rfl, HB0.out.trans (HB1.out.mono hz0)⟩
        · have k3 := bool_ne c3
          have HN : Hid (R = false) := HF.out (.inr (.inr (.inr (.inl c3))))
          clear c3
          go_enter Try.func20, Try.ntmps20
          go_wp2_with fail
          generalize (w.alloc (.cells #[.int .i64 xk, .string xnm, .int .i64 xn, .bool xf, .slice xan xns.length xcn, .slice xam xms.length xcm, .slice xak xlk xck] 26)).alloc (.cells #[.int .i64 xk, .string xnm, .int .i64 xn, .bool yf, .slice yan yns.length ycn, .slice yam yms.length ycm, .slice yak ylk yck] 26) = W0 at *
          go_wp2_with fail
          go_ret
          exact ⟨by rw [HN.out]; rfl, HB0.out.trans ((Below.refl _ _).mono hz0)⟩
      · have k2 := int_bne c2
        have HN : Hid (R = false) := HF.out (.inr (.inr (.inl c2)))
        go_enter Try.func20, Try.ntmps20
        go_wp2_with fail
        generalize (w.alloc (.cells #[.int .i64 xk, .string xnm, .int .i64 xn, .bool xf, .slice xan xns.length xcn, .slice xam xms.length xcm, .slice xak xlk xck] 26)).alloc (.cells #[.int .i64 xk, .string xnm, .int .i64 yn, .bool yf, .slice yan yns.length ycn, .slice yam yms.length ycm, .slice yak ylk yck] 26) = W0 at *
        go_wp2_with fail
        go_ret
        exact ⟨by rw [HN.out]; rfl, HB0.out.trans ((Below.refl _ _).mono hz0)⟩
    · have k1 := str_ne c1
      have HN : Hid (R = false) := HF.out (.inr (.inl c1))
      clear c1
      go_enter Try.func20, Try.ntmps20
      go_wp2_with fail
      generalize (w.alloc (.cells #[.int .i64 xk, .string xnm, .int .i64 xn, .bool xf, .slice xan xns.length xcn, .slice xam xms.length xcm, .slice xak xlk xck] 26)).alloc (.cells #[.int .i64 xk, .string ynm, .int .i64 yn, .bool yf, .slice yan yns.length ycn, .slice yam yms.length ycm, .slice yak ylk yck] 26) = W0 at *
      go_wp2_with fail
      go_ret
      exact ⟨by rw [HN.out]; rfl, HB0.out.trans ((Below.refl _ _).mono hz0)⟩
  · have k0 := int_bne c0
    have HN : Hid (R = false) := HF.out (.inl c0)
    go_enter Try.func20, Try.ntmps20
    go_wp2_with fail
    generalize (w.alloc (.cells #[.int .i64 xk, .string xnm, .int .i64 xn, .bool xf, .slice xan xns.length xcn, .slice xam xms.length xcm, .slice xak xlk xck] 26)).alloc (.cells #[.int .i64 yk, .string ynm, .int .i64 yn, .bool yf, .slice yan yns.length ycn, .slice yam yms.length ycm, .slice yak ylk yck] 26) = W0 at *
    go_wp2_with fail
    go_ret
    exact ⟨by rw [HN.out]; rfl, HB0.out.trans ((Below.refl _ _).mono hz0)⟩
end Go.Proofs.Ytcmnhkopmkaiaaa

