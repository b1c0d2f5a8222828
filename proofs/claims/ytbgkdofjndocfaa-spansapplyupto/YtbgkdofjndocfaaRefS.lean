/-
  recastref1.Sorted of any edits.
-/
import Derived.Test.YtbgkdofjndocfaaRefA
namespace Go.Proofs.Ytbgkdofjndocfaa
open Go.RowKit
attribute [local go_sem ↓] Go.wp_at_zero Go.wp_at_succ
theorem news_top4 (w : World) (x : Ed) : ∀ j u, (encE x)[j]? = some u → (w.alloc (.cells (encE x).toArray 33)).cell? ((⟨w.heap.size, 0, none⟩ : Addr).add j) = some u :=
  World.news_of_block (w := w.alloc (.cells (encE x).toArray 33)) (heap_alloc_new w (.cells (encE x).toArray 33))
set_option maxRecDepth 100000 in
set_option maxHeartbeats 2000000 in
theorem rsorted_any (B o c n : Nat) (l : List Ed) (w : World) (hn : n = l.length) (hn1 : n ≤ 2932031007402) (hB : 0 < l.length → B < w.heap.size) (hl : EdsAt w B o l) :
    Calls Try.prog 11 #[.slice (some ⟨B, o, none⟩) n c] w fun e w' => RPost l w e w' := by
  have HL : Hid (EdsAt w B o l) := hl
  have HN : Hid (n = l.length) := hn
  have hnl : l.length ≤ n := by omega
  have hnl2 : n ≤ l.length := by omega
  clear hl hn
  have hq := eqEd'
  simp only [encE] at hq
  obtain ⟨info33, i1, i2, i3, i4⟩ := info33_ex
  have HI : Hid (Try.prog.info? 33 = some info33 ∧ info33.zero = some (.agg #[.string ⟨#[]⟩, .int .i64 0, .int .i64 0, .string ⟨#[]⟩]) ∧ info33.size = 4 ∧ info33.bytes = 48) := ⟨i1, i2, i3, i4⟩
  clear i1 i2 i3 i4
  go_enter Try.func11, Try.ntmps11
  go_wp2_with fail
  go_loopw [4, 5] (fun v b w' => ∃ (i : Nat) (out : List Ed), i ≤ n ∧ b = .int .i64 i ∧ w'.ownsRow w.heap.size 33 4 v out.length (flatE out) ∧ Below w.heap.size w w' ∧ Hid (Srt (l.take i) out) ∧ out.length ≤ i) (fun _ b _ => n - (intOf b).toNat)
  case atStart => exact ⟨0, [], by omega, rfl, World.ownsRow_nil _ _ _ _, Below.refl _ _, srt_nil, by simp⟩
  case round =>
    obtain ⟨i, out, hi, rfl, hown, hbl, HSR, hoi⟩ := hrel
    by_cases hlt : i < n
    · have hil : i < l.length := by omega
      obtain ⟨x0, x1, x2, x3⟩ := xed (HL.out.below hB hbl) i hil
      obtain ⟨a, cap, hv, hcap, hform⟩ := own_shape hown
      have z1 : (0 : Int) ≤ (i : Int) := by omega
      have z2 : (i : Int) < (n : Int) := by omega
      have HO : Hid (wr.ownsRow w.heap.size 33 4 u4 out.length (flatE out)) := hown
      have HB : Hid (Below w.heap.size w wr) := hbl
      have hz := hbl.size
      have HX : Hid (∃ x, l.getD i default = x) := ⟨_, rfl⟩
      have HRB : Hid (∀ x, l.getD i default = x → (noSp x.2.1 x.2.2.1 = true → ¬ Good l) ∧ (x ∈ out → Srt (l.take (i + 1)) out) ∧ (x ∉ out → ∀ o ∈ out, o.1 = x.1 ∧ clR o x = true → ¬ Good l) ∧ (okSp x → (∀ o ∈ out, ¬ (o.1 = x.1 ∧ clR o x = true)) → ∀ k, k ≤ out.length → (∀ j, k ≤ j → j < out.length → AH x (out.getD j default)) → (k = 0 ∨ ¬ AH x (out.getD (k - 1) default)) → Srt (l.take (i + 1)) (out.take k ++ x :: out.drop k))) := by
        rintro x rfl
        refine ⟨fun h hg => ?_, fun h => ref_twice hil HSR.out h, fun h1 o ho h2 => ref_bad hil HSR.out h1 o ho h2, fun h1 h2 k h3 h4 h5 => ref_ins hil HSR.out h1 h2 h3 h4 h5⟩
        have := (noSp_ok _).2 (hg.1 _ (getD_mem l i hil))
        rw [this] at h; cases h
      have HRX := HRB.out _ rfl
      clear hown hbl HX HRB
      generalize l.getD i default = x at *
      obtain ⟨p, xa, xb, t⟩ := x
      simp only at x0 x1 x2 x3 HRX
      subst hv
      cases hsp : noSp xa xb
      · have k1 : ¬ xa < 0 := by intro h; simp [noSp, h] at hsp
        have k2 : ¬ xb < xa := by intro h; simp [noSp, h] at hsp
        have HR' : Hid _ := HRX
        clear HRX
        go_wp2_with fail
        go_loopw [7, 8] (fun tw b w' => ∃ (k q : Nat), k ≤ out.length ∧ b = .int .i64 k ∧ tw = .bool ((out.take k).any fun o => eqE o (p, xa, xb, t)) ∧ w' = (wr.alloc (.cells #[.string p, .int .i64 xa, .int .i64 xb, .string t] 33)).drewN q) (fun _ b _ => out.length - (intOf b).toNat)
        case atStart => exact ⟨0, 0, by omega, rfl, rfl, rfl⟩
        case round =>
          obtain ⟨k, q, hk, rfl, rfl, rfl⟩ := hrel
          by_cases hlt2 : k < out.length
          · obtain ⟨g, rfl, hg1, hg2⟩ := hform (by omega)
            obtain ⟨a0, a1, a2, a3⟩ := ((own_eds HO.out k hlt2).alloc (A := .cells #[.string p, .int .i64 xa, .int .i64 xb, .string t] 33) hg2).drew q
            have y0 : ((wr.alloc (.cells #[.string p, .int .i64 xa, .int .i64 xb, .string t] 33)).drewN q).cell? ⟨wr.heap.size, 0, none⟩ = some (.string p) := by simp
            have y1 : ((wr.alloc (.cells #[.string p, .int .i64 xa, .int .i64 xb, .string t] 33)).drewN q).cell? ⟨wr.heap.size, 1, none⟩ = some (.int .i64 xa) := by simp
            have y2 : ((wr.alloc (.cells #[.string p, .int .i64 xa, .int .i64 xb, .string t] 33)).drewN q).cell? ⟨wr.heap.size, 2, none⟩ = some (.int .i64 xb) := by simp
            have y3 : ((wr.alloc (.cells #[.string p, .int .i64 xa, .int .i64 xb, .string t] 33)).drewN q).cell? ⟨wr.heap.size, 3, none⟩ = some (.string t) := by simp
            have z3 : (0 : Int) ≤ (k : Int) := by omega
            have z4 : (k : Int) < (out.length : Int) := by omega
            have HS := any_succ (fun o => eqE o (p, xa, xb, t)) out k hlt2
            have hqq := hq (out.getD k default) (p, xa, xb, t)
            generalize hW : (wr.alloc (.cells #[.string p, .int .i64 xa, .int .i64 xb, .string t] 33)).drewN q = W at *
            have HW : Hid _ := hW
            generalize (out.take k).any (fun o => eqE o (p, xa, xb, t)) = tw at *
            generalize eqE (out.getD k default) (p, xa, xb, t) = eb at *
            generalize out.getD k default = y at *
            obtain ⟨p', a', b', t'⟩ := y
            simp only at a0 a1 a2 a3 hqq
            have HS' : Hid _ := HS
            clear HS hq hW
            cases tw
            · go_wp2_with fail
              go_quiet (fail)
              go_wp2_with fail
              go_roundw
              case rel => exact ⟨k + 1, _, by omega, by go_num, by rw [HS'.out, Bool.false_or], by rw [← HW.out]; simp [World.drewN, Nat.add_assoc]; rfl⟩
              case measure => simp [intOf]; omega
            · go_wp2_with fail
              go_quiet (fail)
              go_wp2_with fail
              go_roundw
              case rel => exact ⟨k + 1, _, by omega, by go_num, by rw [HS'.out, Bool.true_or], by rw [← HW.out]; simp [World.drewN, Nat.add_assoc]; rfl⟩
              case measure => simp [intOf]; omega
          · obtain rfl : k = out.length := by omega
            rw [List.take_length]
            cases htw : out.any (fun o => eqE o (p, xa, xb, t))
            · have hnx : (p, xa, xb, t) ∉ out := fun h => by
                rw [List.any_eq_false] at htw
                exact htw _ h ((eqE_iff _ _).2 rfl)
              have HRC : Hid (∀ o ∈ out, o.1 = p ∧ clR o (p, xa, xb, t) = true → ¬ Good l) := HR'.out.2.2.1 hnx
              have HRI : Hid (okSp (p, xa, xb, t) → (∀ o ∈ out, ¬ (o.1 = p ∧ clR o (p, xa, xb, t) = true)) → ∀ k, k ≤ out.length → (∀ j, k ≤ j → j < out.length → AH (p, xa, xb, t) (out.getD j default)) → (k = 0 ∨ ¬ AH (p, xa, xb, t) (out.getD (k - 1) default)) → Srt (l.take (i + 1)) (out.take k ++ (p, xa, xb, t) :: out.drop k)) := HR'.out.2.2.2
              clear HR' htw hnx hq
              have y0 : ((wr.alloc (.cells #[.string p, .int .i64 xa, .int .i64 xb, .string t] 33)).drewN q).cell? ⟨wr.heap.size, 0, none⟩ = some (.string p) := by simp
              have y1 : ((wr.alloc (.cells #[.string p, .int .i64 xa, .int .i64 xb, .string t] 33)).drewN q).cell? ⟨wr.heap.size, 1, none⟩ = some (.int .i64 xa) := by simp
              have y2 : ((wr.alloc (.cells #[.string p, .int .i64 xa, .int .i64 xb, .string t] 33)).drewN q).cell? ⟨wr.heap.size, 2, none⟩ = some (.int .i64 xb) := by simp
              have y3 : ((wr.alloc (.cells #[.string p, .int .i64 xa, .int .i64 xb, .string t] 33)).drewN q).cell? ⟨wr.heap.size, 3, none⟩ = some (.string t) := by simp
              have HX : Hid (EdAt ((wr.alloc (.cells #[.string p, .int .i64 xa, .int .i64 xb, .string t] 33)).drewN q) wr.heap.size 0 (p, xa, xb, t)) := by unfold EdAt; simp only [Nat.zero_mul, Nat.zero_add]; exact ⟨y0, y1, y2, y3⟩
              have HE : Hid (∀ g, a = some ⟨g, 0, none⟩ → g < wr.heap.size → ∀ j, j < out.length → EdAt ((wr.alloc (.cells #[.string p, .int .i64 xa, .int .i64 xb, .string t] 33)).drewN q) g j (out.getD j default)) := fun g ha hg j hj => by
                subst ha
                exact ((own_eds HO.out j hj).alloc hg).drew q
              have HO1 : Hid (((wr.alloc (.cells #[.string p, .int .i64 xa, .int .i64 xb, .string t] 33)).drewN q).ownsRow w.heap.size 33 4 (.slice a out.length cap) out.length (flatE out)) := HO.out.alloc _
              have HB1 : Hid (Below w.heap.size w ((wr.alloc (.cells #[.string p, .int .i64 xa, .int .i64 xb, .string t] 33)).drewN q)) := below_drewN (HB.out.alloc hz _) q
              have hz1 : ((wr.alloc (.cells #[.string p, .int .i64 xa, .int .i64 xb, .string t] 33)).drewN q).heap.size = wr.heap.size + 1 := by simp
              clear HO HB y0 y1 y2 y3
              generalize (wr.alloc (.cells #[.string p, .int .i64 xa, .int .i64 xb, .string t] 33)).drewN q = W1 at *
              generalize wr.heap.size = xz at *
              go_wp2_with fail
              go_loopw [9] (fun b w' => ∃ (k : Nat), k ≤ out.length ∧ b = .int .i64 k ∧ Below W1.heap.size W1 w' ∧ Hid (∀ j, j < k → ¬ ((out.getD j default).1 = p ∧ clR (out.getD j default) (p, xa, xb, t) = true))) (fun b _ => out.length - (intOf b).toNat)
              case atStart => exact ⟨0, by omega, rfl, Below.refl _ _, fun j hj => by omega⟩
              case round =>
                obtain ⟨k, hk, rfl, hbk, HK⟩ := hrel
                by_cases hlt3 : k < out.length
                · obtain ⟨g, rfl, hg1, hg2⟩ := hform (by omega)
                  obtain ⟨a0, a1, a2, a3⟩ := (HE.out g rfl hg2 k hlt3).below (by omega) hbk
                  obtain ⟨y0, y1, y2, y3⟩ := HX.out.below (by omega) hbk
                  simp only [Nat.zero_mul, Nat.zero_add] at y0 y1 y2 y3
                  have z3 : (0 : Int) ≤ (k : Int) := by omega
                  have z4 : (k : Int) < (out.length : Int) := by omega
                  have hgo := getD_mem out k hlt3
                  have HRK : Hid (((out.getD k default).1 = p ∧ clR (out.getD k default) (p, xa, xb, t) = true → ¬ Good l) ∧ (¬ ((out.getD k default).1 = p ∧ clR (out.getD k default) (p, xa, xb, t) = true) → ∀ j, j < k + 1 → ¬ ((out.getD j default).1 = p ∧ clR (out.getD j default) (p, xa, xb, t) = true))) := ⟨HRC.out _ hgo, fun h j hj => by
                    rcases Nat.lt_or_ge j k with h1 | h1
                    · exact HK.out j h1
                    · obtain rfl : j = k := by omega
                      exact h⟩
                  clear hgo HK
                  have HBK : Hid (Below W1.heap.size W1 wr) := hbk
                  have hgw : g < wr.heap.size := by have := hbk.size; omega
                  have hxw : xz < wr.heap.size := by have := hbk.size; omega
                  clear hbk
                  have h28 := fun W => rclash_any (out.getD k default).1 (out.getD k default).2.2.2 p t (out.getD k default).2.1 (out.getD k default).2.2.1 xa xb W (clR (out.getD k default) (p, xa, xb, t)) rfl
                  generalize out.getD k default = y at *
                  obtain ⟨p', a', b', t'⟩ := y
                  simp only at a0 a1 a2 a3 HRK h28
                  generalize clR (p', a', b', t') (p, xa, xb, t) = cr at *
                  cases hpe : (p'.toList == p.toList)
                  · have hne : ¬ (p' = p ∧ cr = true) := fun h => by rw [h.1] at hpe; simp at hpe
                    have HN1 := HRK.out.2 hne
                    have HN2 : Hid _ := HN1
                    clear HN1 HRK h28 hne
                    go_wp2_with fail
                    go_quiet (fail)
                    go_wp2_with fail
                    go_roundw
                    case rel => exact ⟨k + 1, by omega, by go_num, below_drewN HBK.out _, HN2⟩
                    case measure => simp [intOf]; omega
                  · have hpp : p = p' := (toList_inj (by simpa using hpe)).symm
                    have HN1 : Hid ((cr = true → ¬ Good l) ∧ (cr = false → ∀ j, j < k + 1 → ¬ ((out.getD j default).1 = p ∧ clR (out.getD j default) (p, xa, xb, t) = true))) := ⟨fun h => HRK.out.1 ⟨hpp.symm, h⟩, fun h => HRK.out.2 (by rw [h]; simp)⟩
                    clear HRK hpe
                    subst hpp
                    go_wp2_with fail
                    go_region_held3 (fun w' => w'.cell? ⟨g, k * 4, none⟩ = some (.string p) ∧ w'.cell? ⟨g, k * 4 + 1, none⟩ = some (.int .i64 a') ∧ w'.cell? ⟨g, k * 4 + 2, none⟩ = some (.int .i64 b') ∧ w'.cell? ⟨g, k * 4 + 3, none⟩ = some (.string t') ∧ w'.cell? ⟨xz, 0, none⟩ = some (.string p) ∧ w'.cell? ⟨xz, 1, none⟩ = some (.int .i64 xa) ∧ w'.cell? ⟨xz, 2, none⟩ = some (.int .i64 xb) ∧ w'.cell? ⟨xz, 3, none⟩ = some (.string t)) (first | go_keep | (refine ⟨?_, ?_, ?_, ?_, ?_, ?_, ?_, ?_⟩ <;> (first | rw [cell2_old hgw] | rw [cell2_old hxw]) <;> assumption))
                      (first | (go_at_call 28; refine (h28 _).mono ?_; rintro e w' ⟨rfl, rfl⟩))
                    have hbn : Hid (∀ A B : Obj, Below W1.heap.size W1 ((wr.alloc A).alloc B).drew) := fun A B => ((HBK.out.alloc HBK.out.size _).alloc (by have := HBK.out.size; simp; omega) _).drew
                    cases cr
                    · go_wp2_with fail
                      go_roundw
                      case rel => exact ⟨k + 1, by omega, by go_num, hbn.out _ _, by first | exact HN1.out.2 rfl | exact HN1.out.2 trivial⟩
                      case measure => simp [intOf]; omega
                    · go_wp2_with fail
                      go_ret2
                      exact ⟨HB1.out.trans ((hbn.out _ _).mono HB1.out.size), .inr ⟨by first | exact HN1.out.1 rfl | exact HN1.out.1 trivial, rfl⟩⟩
                · obtain rfl : k = out.length := by omega
                  have HNO : Hid (∀ o ∈ out, ¬ (o.1 = p ∧ clR o (p, xa, xb, t) = true)) := fun o ho => by
                    obtain ⟨j, hj, e⟩ := List.getElem_of_mem ho
                    have := HK.out j hj
                    rwa [List.getD_eq_getElem?_getD, List.getElem?_eq_getElem hj, Option.getD_some, e] at this
                  have HRJ : Hid (∀ k, k ≤ out.length → (∀ j, k ≤ j → j < out.length → AH (p, xa, xb, t) (out.getD j default)) → (k = 0 ∨ ¬ AH (p, xa, xb, t) (out.getD (k - 1) default)) → Srt (l.take (i + 1)) (out.take k ++ (p, xa, xb, t) :: out.drop k)) := HRI.out ⟨by simp; omega, by simp; omega⟩ HNO.out
                  have HDI : Hid (∀ o ∈ out, AH o (p, xa, xb, t) ∨ AH (p, xa, xb, t) o) := fun o ho => clR_ah (HSR.out.good.1 o ((HSR.out.mem o).1 ho)) ⟨by simp; omega, by simp; omega⟩ (HNO.out o ho)
                  obtain ⟨y0, y1, y2, y3⟩ := HX.out.below (by omega) hbk
                  simp only [Nat.zero_mul, Nat.zero_add] at y0 y1 y2 y3
                  have HBW : Hid (Below w.heap.size w wr) := HB1.out.trans (hbk.mono HB1.out.size)
                  have HOW : Hid (wr.ownsRow w.heap.size 33 4 (.slice a out.length cap) out.length (flatE out)) := own_below HO1.out hbk
                  have hsz := hbk.size
                  clear HRI HRC HK HNO HX HE hbk HO1 HB1
                  have hwz : w.heap.size ≤ wr.heap.size := HBW.out.size
                  go_wp2_with (at_builtin; refine wpList_append_lies _ rfl _ _ _ rfl w.heap.size 33 info33 _ 4 48 Try.underlying22 HI.out.1 HI.out.2.1 HI.out.2.2.1 HI.out.2.2.2 rfl (by omega) (.slice a out.length cap) out.length _ rfl (HOW.out.alloc _) ⟨wr.heap.size, 0, none⟩ 1 1 (encE (p, xa, xb, t)) rfl rfl (news_top4 wr _) (by simp [encE, Value.oneCell']) (by omega) (by unfold maxLen; omega) (by omega) (by simp; omega) (wr.heap.size + 1) (by simp) ?_; intro gg cap1 w1 hown1 hgrow hat hlt1)
                  have HOA : Hid (w1.ownsRow w.heap.size 33 4 (.slice (some ⟨gg, 0, none⟩) (out.length + 1) cap1) (out.length + 1) (flatE (out.take out.length ++ (p, xa, xb, t) :: out.drop out.length))) := by rw [← flatE_snoc]; exact hown1
                  have HBA : Hid (Below w.heap.size w w1) := (HBW.out.alloc hwz _).grown hgrow (by simp; omega) (fun k hk => (HOW.out.lt k hk).1)
                  have hgg : w.heap.size ≤ gg := (hown1.lt gg rfl).1
                  clear hown1 hgrow hat HOW HBW y0 y1 y2 y3
                  have hM1 : out.length + 1 ≤ out.length + 1 := Nat.le_refl _
                  have hM2 : out.length + 1 ≤ out.length + 1 := Nat.le_refl _
                  have HMM : Hid (out.length + 1 = out.length + 1) := rfl
                  generalize hM : out.length + 1 = M at *
                  rw [← hM] at hM1
                  have HM : Hid (out.length + 1 = M) := hM
                  have hM3 : M ≤ out.length + 1 := by omega
                  have hM4 : out.length + 1 ≤ M := by omega
                  clear hM hM1 hM2 HMM
                  go_loopw [10] (fun b w' => ∃ k : Nat, k ≤ out.length ∧ b = .int .i64 k ∧ w'.ownsRow w.heap.size 33 4 (.slice (some ⟨gg, 0, none⟩) M cap1) M (flatE (out.take k ++ (p, xa, xb, t) :: out.drop k)) ∧ Below w.heap.size w w' ∧ Hid (∀ j, k ≤ j → j < out.length → AH (p, xa, xb, t) (out.getD j default))) (fun b _ => (intOf b).toNat)
                  case atStart => exact ⟨out.length, by omega, by go_num, HOA.out, HBA.out, fun j h1 h2 => by omega⟩
                  case round =>
                    obtain ⟨k, hk, rfl, hok, hbk, HAK⟩ := hrel
                    have HOK : Hid (wr.ownsRow w.heap.size 33 4 (.slice (some ⟨gg, 0, none⟩) M cap1) M (flatE (out.take k ++ (p, xa, xb, t) :: out.drop k))) := hok
                    have HBK : Hid (Below w.heap.size w wr) := hbk
                    have hggw : gg < wr.heap.size := (hok.lt gg rfl).2
                    have hrl : (out.take k ++ (p, xa, xb, t) :: out.drop k).length = M := by simp; omega
                    by_cases h0 : 0 < k
                    · have hE := own_eds hok
                      obtain ⟨a0, a1, a2, a3⟩ := hE k (by omega)
                      obtain ⟨b0, b1, b2, b3⟩ := hE (k - 1) (by omega)
                      rw [row_get out _ k hk] at a0 a1 a2 a3
                      rw [row_prev out _ k hk h0] at b0 b1 b2 b3
                      have z3 : (0 : Int) ≤ (k : Int) := by omega
                      have z4 : (k : Int) < (M : Int) := by omega
                      have z5 : (0 : Int) ≤ (k : Int) - 1 := by omega
                      have z6 : (k : Int) - 1 < (M : Int) := by omega
                      have z7 : (0 : Int) < (k : Int) := by omega
                      have z8 : (1 : Int) ≤ (k : Int) := by omega
                      have z9 : (k : Int) ≤ (M : Int) := by omega
                      have z10 : k ≤ M := by omega
                      have z11 : k < M := by omega
                      have ew : IntKind.i64.wrap ((k : Int) - 1) = (k : Int) - 1 := IntWalk.i64_in _ (by omega)
                      have ek : ((k : Int) - 1).toNat = k - 1 := by omega
                      have hmem := getD_mem out (k - 1) (by omega)
                      have HLA : Hid (lessR (p, xa, xb, t) (out.getD (k - 1) default) = true ↔ AH (p, xa, xb, t) (out.getD (k - 1) default)) := lessR_ah (HDI.out _ hmem).symm
                      have h29 := fun W => rless_any p t (out.getD (k - 1) default).1 (out.getD (k - 1) default).2.2.2 xa xb (out.getD (k - 1) default).2.1 (out.getD (k - 1) default).2.2.1 W (lessR (p, xa, xb, t) (out.getD (k - 1) default)) rfl
                      have HSW : Hid (((out.take k ++ (p, xa, xb, t) :: out.drop k).set k (out.getD (k - 1) default)).set (k - 1) (p, xa, xb, t) = out.take (k - 1) ++ (p, xa, xb, t) :: out.drop (k - 1)) := row_swap out _ k hk h0
                      clear hE hok hbk hmem
                      have HLT : Hid (lessR (p, xa, xb, t) (out.getD (k - 1) default) = true → ∀ j, k - 1 ≤ j → j < out.length → AH (p, xa, xb, t) (out.getD j default)) := fun h j h1 h2 => by
                        rcases Nat.lt_or_ge j k with h3 | h3
                        · obtain rfl : j = k - 1 := by omega
                          exact HLA.out.1 h
                        · exact HAK.out j h3 h2
                      have HLF : Hid (lessR (p, xa, xb, t) (out.getD (k - 1) default) = false → Srt (l.take (i + 1)) (out.take k ++ (p, xa, xb, t) :: out.drop k)) := fun h => HRJ.out k hk HAK.out (.inr fun ha => by rw [HLA.out.2 ha] at h; cases h)
                      clear HLA HAK
                      generalize hlr : lessR (p, xa, xb, t) (out.getD (k - 1) default) = lr at *
                      generalize hy : out.getD (k - 1) default = y at *
                      clear hlr hy
                      obtain ⟨p', a', b', t'⟩ := y
                      simp only at a0 a1 a2 a3 b0 b1 b2 b3 h29
                      cases lr
                      · go_wp2_with fail
                        go_region_held3 (fun w' => w'.cell? ⟨gg, k * 4, none⟩ = some (.string p) ∧ w'.cell? ⟨gg, k * 4 + 1, none⟩ = some (.int .i64 xa) ∧ w'.cell? ⟨gg, k * 4 + 2, none⟩ = some (.int .i64 xb) ∧ w'.cell? ⟨gg, k * 4 + 3, none⟩ = some (.string t) ∧ w'.cell? ⟨gg, (k - 1) * 4, none⟩ = some (.string p') ∧ w'.cell? ⟨gg, (k - 1) * 4 + 1, none⟩ = some (.int .i64 a') ∧ w'.cell? ⟨gg, (k - 1) * 4 + 2, none⟩ = some (.int .i64 b') ∧ w'.cell? ⟨gg, (k - 1) * 4 + 3, none⟩ = some (.string t')) (first | go_keep | (refine ⟨?_, ?_, ?_, ?_, ?_, ?_, ?_, ?_⟩ <;> rw [cell2_old hggw] <;> assumption))
                          (first | (go_at_call 29; refine (h29 _).mono ?_; rintro e w' ⟨rfl, rfl⟩))
                        have HS2 : Hid (Srt (l.take (i + 1)) (out.take k ++ (p, xa, xb, t) :: out.drop k)) := by first | exact HLF.out rfl | exact HLF.out trivial
                        clear HLF HLT
                        go_wp2_with fail
                        go_roundw
                        case rel => exact ⟨i + 1, _, by omega, by go_num, by rw [hrl]; exact ((HOK.out.alloc _).alloc _), ((HBK.out.alloc HBK.out.size _).alloc (by have := HBK.out.size; simp; omega) _).drew, HS2, by omega⟩
                        case measure => simp [intOf]; omega
                      · go_wp2_with fail
                        go_region_held3 (fun w' => w'.cell? ⟨gg, k * 4, none⟩ = some (.string p) ∧ w'.cell? ⟨gg, k * 4 + 1, none⟩ = some (.int .i64 xa) ∧ w'.cell? ⟨gg, k * 4 + 2, none⟩ = some (.int .i64 xb) ∧ w'.cell? ⟨gg, k * 4 + 3, none⟩ = some (.string t) ∧ w'.cell? ⟨gg, (k - 1) * 4, none⟩ = some (.string p') ∧ w'.cell? ⟨gg, (k - 1) * 4 + 1, none⟩ = some (.int .i64 a') ∧ w'.cell? ⟨gg, (k - 1) * 4 + 2, none⟩ = some (.int .i64 b') ∧ w'.cell? ⟨gg, (k - 1) * 4 + 3, none⟩ = some (.string t')) (first | go_keep | (refine ⟨?_, ?_, ?_, ?_, ?_, ?_, ?_, ?_⟩ <;> rw [cell2_old hggw] <;> assumption))
                          (first | (go_at_call 29; refine (h29 _).mono ?_; rintro e w' ⟨rfl, rfl⟩))
                        have HT2 : Hid (∀ j, k - 1 ≤ j → j < out.length → AH (p, xa, xb, t) (out.getD j default)) := by first | exact HLT.out rfl | exact HLT.out trivial
                        clear HLF HLT
                        have HO5 : Hid (((wr.alloc (.cells #[.string p, .int .i64 xa, .int .i64 xb, .string t] 33)).alloc (.cells #[.string p', .int .i64 a', .int .i64 b', .string t'] 33)).drew.ownsRow w.heap.size 33 4 (.slice (some ⟨gg, 0, none⟩) M cap1) M (flatE (out.take k ++ (p, xa, xb, t) :: out.drop k))) := (HOK.out.alloc _).alloc _
                        have HB5 : Hid (Below w.heap.size w ((wr.alloc (.cells #[.string p, .int .i64 xa, .int .i64 xb, .string t] 33)).alloc (.cells #[.string p', .int .i64 a', .int .i64 b', .string t'] 33)).drew) := ((HBK.out.alloc HBK.out.size _).alloc (by have := HBK.out.size; simp; omega) _).drew
                        have c0 : ((wr.alloc (.cells #[.string p, .int .i64 xa, .int .i64 xb, .string t] 33)).alloc (.cells #[.string p', .int .i64 a', .int .i64 b', .string t'] 33)).drew.cell? ⟨gg, k * 4, none⟩ = some (.string p) := by rw [cell2_old hggw]; exact a0
                        have c1 : ((wr.alloc (.cells #[.string p, .int .i64 xa, .int .i64 xb, .string t] 33)).alloc (.cells #[.string p', .int .i64 a', .int .i64 b', .string t'] 33)).drew.cell? ⟨gg, k * 4 + 1, none⟩ = some (.int .i64 xa) := by rw [cell2_old hggw]; exact a1
                        have c2 : ((wr.alloc (.cells #[.string p, .int .i64 xa, .int .i64 xb, .string t] 33)).alloc (.cells #[.string p', .int .i64 a', .int .i64 b', .string t'] 33)).drew.cell? ⟨gg, k * 4 + 2, none⟩ = some (.int .i64 xb) := by rw [cell2_old hggw]; exact a2
                        have c3 : ((wr.alloc (.cells #[.string p, .int .i64 xa, .int .i64 xb, .string t] 33)).alloc (.cells #[.string p', .int .i64 a', .int .i64 b', .string t'] 33)).drew.cell? ⟨gg, k * 4 + 3, none⟩ = some (.string t) := by rw [cell2_old hggw]; exact a3
                        have e0 : ((wr.alloc (.cells #[.string p, .int .i64 xa, .int .i64 xb, .string t] 33)).alloc (.cells #[.string p', .int .i64 a', .int .i64 b', .string t'] 33)).drew.cell? ⟨gg, (k - 1) * 4, none⟩ = some (.string p') := by rw [cell2_old hggw]; exact b0
                        have e1 : ((wr.alloc (.cells #[.string p, .int .i64 xa, .int .i64 xb, .string t] 33)).alloc (.cells #[.string p', .int .i64 a', .int .i64 b', .string t'] 33)).drew.cell? ⟨gg, (k - 1) * 4 + 1, none⟩ = some (.int .i64 a') := by rw [cell2_old hggw]; exact b1
                        have e2 : ((wr.alloc (.cells #[.string p, .int .i64 xa, .int .i64 xb, .string t] 33)).alloc (.cells #[.string p', .int .i64 a', .int .i64 b', .string t'] 33)).drew.cell? ⟨gg, (k - 1) * 4 + 2, none⟩ = some (.int .i64 b') := by rw [cell2_old hggw]; exact b2
                        have e3 : ((wr.alloc (.cells #[.string p, .int .i64 xa, .int .i64 xb, .string t] 33)).alloc (.cells #[.string p', .int .i64 a', .int .i64 b', .string t'] 33)).drew.cell? ⟨gg, (k - 1) * 4 + 3, none⟩ = some (.string t') := by rw [cell2_old hggw]; exact b3
                        clear a0 a1 a2 a3 b0 b1 b2 b3 h29 HOK HBK
                        generalize ((wr.alloc (.cells #[.string p, .int .i64 xa, .int .i64 xb, .string t] 33)).alloc (.cells #[.string p', .int .i64 a', .int .i64 b', .string t'] 33)).drew = W5 at *
                        have hg5 : gg < W5.heap.size := (HO5.out.lt gg rfl).2
                        have hn5 : gg ≠ W5.heap.size := by omega
                        have f0 := HO5.out.frozenAt (k * 4)
                        have f1 := HO5.out.frozenAt (k * 4 + 1)
                        have f2 := HO5.out.frozenAt (k * 4 + 2)
                        have f3 := HO5.out.frozenAt (k * 4 + 3)
                        have g0 := HO5.out.frozenAt ((k - 1) * 4)
                        have g1 := HO5.out.frozenAt ((k - 1) * 4 + 1)
                        have g2 := HO5.out.frozenAt ((k - 1) * 4 + 2)
                        have g3 := HO5.out.frozenAt ((k - 1) * 4 + 3)
                        go_wp2_with fail
                        have hb6 : Hid (∀ A : Obj, Below w.heap.size w ((put4 (put4 W5 gg k (p', a', b', t')) gg (k - 1) (p, xa, xb, t)).alloc A)) := fun A => (own_below4 (own_below4 HB5.out hgg) hgg).alloc (by rw [put4_size, put4_size]; exact HB5.out.size) _
                        have ho6 : Hid (∀ A : Obj, ((put4 (put4 W5 gg k (p', a', b', t')) gg (k - 1) (p, xa, xb, t)).alloc A).ownsRow w.heap.size 33 4 (.slice (some ⟨gg, 0, none⟩) M cap1) M (flatE (out.take (k - 1) ++ (p, xa, xb, t) :: out.drop (k - 1)))) := fun A => by
                          have := (own_put4 (own_put4 HO5.out (m := k) (x := (p', a', b', t')) (by omega)) (m := k - 1) (x := (p, xa, xb, t)) (by simp only [List.length_set]; omega)).alloc A
                          rwa [HSW.out] at this
                        go_roundw
                        case rel => exact ⟨k - 1, by omega, by rw [show (k : Int) - 1 = ((k - 1 : Nat) : Int) by omega], ho6.out _, hb6.out _, HT2⟩
                        case measure => simp [intOf]; omega
                    · obtain rfl : k = 0 := by omega
                      have HS2 : Hid (Srt (l.take (i + 1)) (out.take 0 ++ (p, xa, xb, t) :: out.drop 0)) := HRJ.out 0 hk HAK.out (.inl rfl)
                      clear hok hbk HAK
                      go_wp2_with fail
                      go_quiet (fail)
                      go_wp2_with fail
                      go_roundw
                      case rel => exact ⟨i + 1, _, by omega, by go_num, by rw [hrl]; exact HOK.out, below_drewN HBK.out _, HS2, by omega⟩
                      case measure => simp [intOf]; omega
            · have hx : (p, xa, xb, t) ∈ out := by
                rw [List.any_eq_true] at htw
                obtain ⟨o, ho, he⟩ := htw
                rw [← (eqE_iff _ _).1 he]
                exact ho
              have HT : Hid (Srt (l.take (i + 1)) out) := HR'.out.2.1 hx
              clear HR' hx htw
              go_wp2_with fail
              go_roundw
              case rel => exact ⟨i + 1, out, by omega, by go_num, HO.out.alloc _, below_drewN (HB.out.alloc hz _) q, HT, by omega⟩
              case measure => simp [intOf]; omega
      · have HNG : Hid (¬ Good l) := HRX.1 hsp
        have hbn : Hid (∀ A : Obj, Below w.heap.size w (wr.alloc A)) := fun A => HB.out.alloc hz _
        have hsp' : xa < 0 ∨ xb < xa := by simpa [noSp] using hsp
        clear HRX hsp
        by_cases k1 : xa < 0
        · go_wp2_with fail
          go_ret2
          exact ⟨hbn.out _, .inr ⟨HNG.out, rfl⟩⟩
        · have k2 : xb < xa := by omega
          go_wp2_with fail
          go_ret2
          exact ⟨hbn.out _, .inr ⟨HNG.out, rfl⟩⟩
    · obtain rfl : i = n := by omega
      have HT : Hid (Srt l out) := by
        have := HSR.out
        rwa [HN.out, List.take_length] at this
      have HO : Hid (wr.ownsRow w.heap.size 33 4 u4 out.length (flatE out)) := hown
      have HB : Hid (Below w.heap.size w wr) := hbl
      clear hown hbl HSR
      go_wp2_with fail
      go_ret2
      exact ⟨HB.out, .inl ⟨_, out, HT.out, rfl, HO.out⟩⟩
end Go.Proofs.Ytbgkdofjndocfaa
