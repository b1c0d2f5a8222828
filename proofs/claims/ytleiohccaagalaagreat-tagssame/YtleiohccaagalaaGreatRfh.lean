/-
  The document's Holds, walked.
-/
import Derived.Test.YtleiohccaagalaaGreatRfp
namespace Go.Proofs.YtleiohccaagalaaGreat
open Go.RowKit
attribute [local go_sem ↓] Go.wp_at_zero Go.wp_at_succ
/-- what is not has a part -/
inductive Wf : Rl → Prop
  | mk (k : Nat) (t : Bs) (ks : List Rl) : (k = 2 → ks ≠ []) → (∀ x ∈ ks, Wf x) → Wf (.mk k t ks)
theorem Wf.fl {k : Nat} {x : Rl} (h : Wf x) : ∀ y ∈ fl k x, Wf y := by
  intro y hy
  unfold Go.Proofs.YtleiohccaagalaaGreat.fl at hy
  split at hy
  · cases h with
    | mk k t ks _ h2 => exact h2 y hy
  · rw [List.mem_singleton] at hy; rw [hy]; exact h
theorem nf_wf (p : Pt) : Wf (nf p) := by
  induction p with
  | yes => exact .mk _ _ _ (by decide) (fun _ h => by cases h)
  | tag s => exact .mk _ _ _ (by decide) (fun _ h => by cases h)
  | not p ih => exact .mk _ _ _ (by simp) (fun y h => by rw [List.mem_singleton] at h; rw [h]; exact ih)
  | both l r ihl ihr => exact .mk _ _ _ (fun h => by cases h) (fun y h => by rcases List.mem_append.1 h with h | h; exact ihl.fl y h; exact ihr.fl y h)
  | either l r ihl ihr => exact .mk _ _ _ (fun h => by cases h) (fun y h => by rcases List.mem_append.1 h with h | h; exact ihl.fl y h; exact ihr.fl y h)
theorem heap_new (w : World) (o : Obj) : (w.alloc o).heap[w.heap.size]? = some o := by show (w.heap.push _)[w.heap.size]? = _; simp
set_option maxRecDepth 100000 in
set_option maxHeartbeats 8000000 in
theorem rholds_any (Q : BP) (a : Option Addr) (n c : Nat) (set : List Bs) (hn : n ≤ 9223372036854775807) : ∀ x : Rl, Wf x → ∀ (w : World) (v : Value), SlV Q w v x.kids → TxV w a n c set → Calls Tryz.prog 22 #[.agg #[.int .i64 x.kind, .string (bs x.tag), v], .slice a n c] w fun e w' => e = .returned (.bool (x.hold set)) ∧ Below w.heap.size w w' := by
  refine Rl.ind fun k t ks ih hwf w v hv htx => ?_
  simp only [Rl.kind, Rl.tag, Rl.kids] at hv ⊢
  have hwf2 : (k = 2 → ks ≠ []) ∧ ∀ x ∈ ks, Wf x := by cases hwf with | mk _ _ _ h1 h2 => exact ⟨h1, h2⟩
  have HI : Hid (∀ x ∈ ks, ∀ (w : World) (v : Value), SlV Q w v x.kids → TxV w a n c set → Calls Tryz.prog 22 #[.agg #[.int .i64 x.kind, .string (bs x.tag), v], .slice a n c] w fun e w' => e = .returned (.bool (x.hold set)) ∧ Below w.heap.size w w') := fun x hx => ih x hx (hwf2.2 x hx)
  have HNE : Hid (k = 2 → ks ≠ []) := hwf2.1
  clear ih hwf hwf2
  obtain ⟨va, vc, rfl⟩ := hv.slice
  obtain ⟨W0, hW0⟩ : ∃ W0, W0 = w.alloc (.cells #[.int .i64 k, .string (bs t), .slice va ks.length vc] 31) := ⟨_, rfl⟩
  have hb0 : Below w.heap.size w W0 := by rw [hW0]; exact (Below.refl _ w).alloc (Nat.le_refl _) _
  have HB0 : Hid (Below w.heap.size w W0) := hb0
  have hz0 : w.heap.size ≤ W0.heap.size := hb0.size
  obtain ⟨a0, c0, e0, hlen, hel⟩ := (hv.kept hb0).open
  obtain ⟨rfl, rfl⟩ : va = a0 ∧ vc = c0 := by simpa using e0
  have HEL : Hid (∀ i (hi : i < ks.length), ∃ b o, va = some ⟨b, o, none⟩ ∧ (∃ ob, W0.heap[b]? = some ob ∧ Q b o ob) ∧ (ks[i]).lies Q W0 b (o + i * 3)) := hel
  have HTX : Hid (TxV W0 a n c set) := htx.kept fun y v hv => kept_cell hb0 hv
  have HKK : Hid (W0.cell? ⟨w.heap.size, 0, none⟩ = some (.int .i64 k) ∧ W0.cell? ⟨w.heap.size, 1, none⟩ = some (.string (bs t)) ∧ W0.cell? ⟨w.heap.size, 2, none⟩ = some (.slice va ks.length vc)) := by
    obtain ⟨k0, k1, k2, _, _, _⟩ := bx3 (by rw [hW0]; exact heap_new w _ : W0.heap[w.heap.size]? = some (.cells #[.int .i64 k, .string (bs t), .slice va ks.length vc] 31 (0, 0)))
    exact ⟨k0, k1, k2⟩
  clear hv htx hb0 e0 hel
  subst hW0
  by_cases h1 : k = 1
  · subst h1
    rw [show Rl.hold set (.mk 1 t ks) = set.contains t by simp [Rl.hold]]
    have hc := has_any HTX.out hn t
    generalize set.contains t = bb at *
    go_enter Tryz.func22, Tryz.ntmps22
    go_wp2_with (go_at_call 32; refine hc.mono ?_; rintro e w1 ⟨rfl, hw1⟩; obtain rfl := hw1.symm)
    go_ret
    exact ⟨rfl, HB0.out⟩
  · by_cases h2 : k = 2
    · subst h2
      cases ks with
      | nil => exact absurd rfl (HNE.out rfl)
      | cons x r =>
        rw [show Rl.hold set (.mk 2 t (x :: r)) = !(x.hold set) by simp [Rl.hold, holdH]]
        have z0 : (0 : Int) < ((x :: r).length : Int) := by simp
        obtain ⟨b, o, rfl, _, hli⟩ := HEL.out 0 (by simp)
        rw [Nat.zero_mul, Nat.add_zero] at hli
        obtain ⟨e0, e1, vi, e2, hvi⟩ := lies_iff.1 hli
        obtain ⟨ai, ci, rfl⟩ := hvi.slice
        have hc := HI.out x (by simp) _ _ hvi HTX.out
        simp only [List.getElem_cons_zero] at e0 e1 e2
        simp only [show ((2 : Nat) : Int) = 2 from rfl] at e0 e1 e2
        clear hli hvi HEL HNE HI HTX HKK
        generalize (x :: r).length = LL at *
        go_enter Tryz.func22, Tryz.ntmps22
        go_wp2_with (go_at_call 22; refine hc.mono ?_; rintro e w1 ⟨rfl, hb1⟩; have HB1 : Hid _ := hb1; clear hb1 hc)
        go_ret
        exact ⟨rfl, HB0.out.trans (HB1.out.mono hz0)⟩
    · by_cases h3 : k = 3
      · subst h3
        have HH : Hid (Rl.hold set (.mk 3 t ks) = holdA set ks) := by show _ = _; simp [Rl.hold]
        rw [HH.out]
        go_enter Tryz.func22, Tryz.ntmps22
        go_wp2_with fail
        go_loopg [5] ks.length (fun g u5 wr => ∃ i : Nat, i ≤ ks.length ∧ ks.length - i ≤ g ∧ u5 = .int .i64 i ∧ Hid (Below (w.alloc (.cells #[.int .i64 3, .string (bs t), .slice va ks.length vc] 31)).heap.size (w.alloc (.cells #[.int .i64 3, .string (bs t), .slice va ks.length vc] 31)) wr ∧ holdA set ks = holdA set (ks.drop i)))
        case atStart => exact ⟨0, Nat.zero_le _, Nat.le_refl _, rfl, Below.refl _ _, rfl⟩
        case round =>
          obtain ⟨i, hi, hg, rfl, HX⟩ := hrel
          have x0 := kept_cell HX.out.1 HKK.out.1
          have x1 := kept_cell HX.out.1 HKK.out.2.1
          have x2 := kept_cell HX.out.1 HKK.out.2.2
          by_cases hlt : i < ks.length
          · have z1 : (i : Int) < (ks.length : Int) := by omega
            have z0 : (0 : Int) ≤ (i : Int) := by omega
            obtain ⟨b, o, rfl, _, hli⟩ := HEL.out i hlt
            obtain ⟨e0, e1, vi, e2, hvi⟩ := lies_iff.1 hli
            obtain ⟨ai, ci, rfl⟩ := hvi.slice
            have e0 := kept_cell HX.out.1 e0
            have e1 := kept_cell HX.out.1 e1
            have e2 := kept_cell HX.out.1 e2
            have hc := HI.out ks[i] (List.getElem_mem _) wr _ (hvi.kept HX.out.1) (HTX.out.kept fun y v hv => kept_cell HX.out.1 hv)
            have HD : Hid (holdA set (ks.drop i) = (if (ks[i]).hold set = false then false else holdA set (ks.drop (i + 1)))) := by
              show _ = _
              rw [List.drop_eq_getElem_cons hlt]; simp only [holdA]; cases (ks[i]).hold set <;> simp
            clear hli hvi
            generalize hbb : (ks[i]).hold set = bb at *
            clear hbb
            generalize (ks[i]).kind = ki at *
            generalize (ks[i]).tag = ti at *
            generalize (ks[i]).kids.length = li at *
            cases bb with
            | false =>
              go_wp2_with (go_at_call 22; refine hc.mono ?_; rintro e w1 ⟨rfl, hb1⟩; have HB1 : Hid _ := hb1; clear hb1 hc)
              go_ret
              exact ⟨ret_bool (by rw [HX.out.2, HD.out]; rfl), (HB0.out.trans (HX.out.1.mono hz0)).trans (HB1.out.mono (Nat.le_trans hz0 HX.out.1.size))⟩
            | true =>
              go_wp2_with (go_at_call 22; refine hc.mono ?_; rintro e w1 ⟨rfl, hb1⟩; have HB1 : Hid _ := hb1; clear hb1 hc)
              go_roundg (ks.length - (i + 1))
              case measure => omega
              case rel => exact ⟨i + 1, by omega, Nat.le_refl _, by go_num, HX.out.1.trans (HB1.out.mono HX.out.1.size), by rw [HX.out.2, HD.out]; rfl⟩
          · have z1 : ¬ (i : Int) < (ks.length : Int) := by omega
            go_wp2_with fail
            go_ret
            exact ⟨ret_bool (by rw [HX.out.2, List.drop_of_length_le (by omega)]; rfl), HB0.out.trans (HX.out.1.mono hz0)⟩
      · by_cases h4 : k = 4
        · subst h4
          have HH : Hid (Rl.hold set (.mk 4 t ks) = holdO set ks) := by show _ = _; simp [Rl.hold]
          rw [HH.out]
          go_enter Tryz.func22, Tryz.ntmps22
          go_wp2_with fail
          go_loopg [6] ks.length (fun g u5 wr => ∃ i : Nat, i ≤ ks.length ∧ ks.length - i ≤ g ∧ u5 = .int .i64 i ∧ Hid (Below (w.alloc (.cells #[.int .i64 4, .string (bs t), .slice va ks.length vc] 31)).heap.size (w.alloc (.cells #[.int .i64 4, .string (bs t), .slice va ks.length vc] 31)) wr ∧ holdO set ks = holdO set (ks.drop i)))
          case atStart => exact ⟨0, Nat.zero_le _, Nat.le_refl _, rfl, Below.refl _ _, rfl⟩
          case round =>
            obtain ⟨i, hi, hg, rfl, HX⟩ := hrel
            have x0 := kept_cell HX.out.1 HKK.out.1
            have x1 := kept_cell HX.out.1 HKK.out.2.1
            have x2 := kept_cell HX.out.1 HKK.out.2.2
            by_cases hlt : i < ks.length
            · have z1 : (i : Int) < (ks.length : Int) := by omega
              have z0 : (0 : Int) ≤ (i : Int) := by omega
              obtain ⟨b, o, rfl, _, hli⟩ := HEL.out i hlt
              obtain ⟨e0, e1, vi, e2, hvi⟩ := lies_iff.1 hli
              obtain ⟨ai, ci, rfl⟩ := hvi.slice
              have e0 := kept_cell HX.out.1 e0
              have e1 := kept_cell HX.out.1 e1
              have e2 := kept_cell HX.out.1 e2
              have hc := HI.out ks[i] (List.getElem_mem _) wr _ (hvi.kept HX.out.1) (HTX.out.kept fun y v hv => kept_cell HX.out.1 hv)
              have HD : Hid (holdO set (ks.drop i) = (if (ks[i]).hold set = true then true else holdO set (ks.drop (i + 1)))) := by
                show _ = _
                rw [List.drop_eq_getElem_cons hlt]; simp only [holdO]; cases (ks[i]).hold set <;> simp
              clear hli hvi
              generalize hbb : (ks[i]).hold set = bb at *
              clear hbb
              generalize (ks[i]).kind = ki at *
              generalize (ks[i]).tag = ti at *
              generalize (ks[i]).kids.length = li at *
              cases bb with
              | true =>
                go_wp2_with (go_at_call 22; refine hc.mono ?_; rintro e w1 ⟨rfl, hb1⟩; have HB1 : Hid _ := hb1; clear hb1 hc)
                go_ret
                exact ⟨ret_bool (by rw [HX.out.2, HD.out]; rfl), (HB0.out.trans (HX.out.1.mono hz0)).trans (HB1.out.mono (Nat.le_trans hz0 HX.out.1.size))⟩
              | false =>
                go_wp2_with (go_at_call 22; refine hc.mono ?_; rintro e w1 ⟨rfl, hb1⟩; have HB1 : Hid _ := hb1; clear hb1 hc)
                go_roundg (ks.length - (i + 1))
                case measure => omega
                case rel => exact ⟨i + 1, by omega, Nat.le_refl _, by go_num, HX.out.1.trans (HB1.out.mono HX.out.1.size), by rw [HX.out.2, HD.out]; rfl⟩
            · have z1 : ¬ (i : Int) < (ks.length : Int) := by omega
              go_wp2_with fail
              go_ret
              exact ⟨ret_bool (by rw [HX.out.2, List.drop_of_length_le (by omega)]; rfl), HB0.out.trans (HX.out.1.mono hz0)⟩
        · have q1 : ((k : Int) == 1) = false := nat_bne (b := 1) h1
          have q2 : ((k : Int) == 2) = false := nat_bne (b := 2) h2
          have q3 : ((k : Int) == 3) = false := nat_bne (b := 3) h3
          have q4 : ((k : Int) == 4) = false := nat_bne (b := 4) h4
          rw [show Rl.hold set (.mk k t ks) = true by simp [Rl.hold, h1, h2, h3, h4]]
          clear h1 h2 h3 h4
          go_enter Tryz.func22, Tryz.ntmps22
          go_wp2_with fail
          go_ret
          exact ⟨rfl, HB0.out⟩
end Go.Proofs.YtleiohccaagalaaGreat
