/-
  recastlaw11.unknown, walked.
-/
import Derived.Test.YtcmnhkopmkaiaaaMth
namespace Go.Proofs.Ytcmnhkopmkaiaaa
open Go.RowKit
attribute [local go_sem ↓] Go.wp_at_zero Go.wp_at_succ
set_option maxRecDepth 100000 in
set_option maxHeartbeats 4000000 in
theorem unk_any (B : BQ) : ∀ t : Ty, ∀ (w : World) (vn vm vk : Value), Prt B w t vn vm vk → Calls Try.prog 10 #[agT t vn vm vk] w fun e w' => e = .returned (.bool t.unk) ∧ Below w.heap.size w w' := by
  refine Ty.ind fun k nm n f ns ms ks ih w vn vm vk hp => ?_
  have HI : Hid (∀ x ∈ ks, ∀ (w : World) (vn vm vk : Value), Prt B w x vn vm vk → Calls Try.prog 10 #[agT x vn vm vk] w fun e w' => e = .returned (.bool x.unk) ∧ Below w.heap.size w w') := ih
  obtain ⟨an, cn, am, cm, ak, ck, rfl, rfl, rfl⟩ := hp.form
  unfold agT
  simp only [Ty.kind, Ty.name, Ty.n, Ty.flag, Ty.names, Ty.marks, Ty.kids, Ty.unk]
  obtain ⟨W0, hW0⟩ : ∃ W0, W0 = w.alloc (.cells #[.int .i64 k, .string nm, .int .i64 n, .bool f, .slice an ns.length cn, .slice am ms.length cm, .slice ak ks.length ck] 26) := ⟨_, rfl⟩
  have hb0 : Below w.heap.size w W0 := by rw [hW0]; exact below_alloc _ _
  have HB0 : Hid (Below w.heap.size w W0) := hb0
  have hz0 := hb0.size
  obtain ⟨a0, c0, e0, hlen, hel⟩ := (hp.kept hb0).ks.open
  obtain ⟨rfl, rfl⟩ : ak = a0 ∧ ck = c0 := by simpa [Ty.kids] using e0
  have HEL : Hid (∀ i (hi : i < ks.length), ∃ b o, ak = some ⟨b, o, none⟩ ∧ b < W0.heap.size ∧ B b ∧ (ks[i]).lies B W0 b (o + i * 7)) := hel
  have hlen : (ks.length : Int) ≤ 9223372036854775807 := hlen
  have HC : Hid (W0.cell? ⟨w.heap.size, 6, none⟩ = some (.slice ak ks.length ck)) := by
    rw [hW0]; exact (bx7 (heap_new w _)).2.2.2.2.2.2
  have HC0 : Hid (W0.cell? ⟨w.heap.size, 0, none⟩ = some (.int .i64 k)) := by
    rw [hW0]; exact (bx7 (heap_new w _)).1
  obtain ⟨R, hR⟩ : ∃ R, R = (unkL ks || decide (k = 0)) := ⟨_, rfl⟩
  rw [← hR]
  have HR : Hid (R = (unkL ks || decide (k = 0))) := hR
  clear ih hp hb0 e0 hel hR
  subst hW0
  go_enter Try.func10, Try.ntmps10
  go_wp2_with fail
  generalize w.alloc (.cells #[.int .i64 k, .string nm, .int .i64 n, .bool f, .slice an ns.length cn, .slice am ms.length cm, .slice ak ks.length ck] 26) = W0 at *
  go_loopg [3] ks.length (fun g u3 wr => ∃ (i : Nat), i ≤ ks.length ∧ ks.length - i ≤ g ∧ u3 = .int .i64 i ∧ Hid (Below W0.heap.size W0 wr ∧ (unkL (ks.drop i) || decide (k = 0)) = R))
  case atStart => exact ⟨0, Nat.zero_le _, Nat.le_refl _, rfl, Below.refl _ _, by rw [HR.out]; rfl⟩
  case round =>
    obtain ⟨i, hi, hg, rfl, HX⟩ := hrel
    have x6 := kept_cell HX.out.1 HC.out
    have x0 := kept_cell HX.out.1 HC0.out
    have HXB : Hid (Below W0.heap.size W0 wr) := HX.out.1
    have HXE : Hid ((unkL (ks.drop i) || decide (k = 0)) = R) := HX.out.2
    clear HX
    by_cases hlt : i < ks.length
    · have z1 : (i : Int) < (ks.length : Int) := by omega
      have z0 : (0 : Int) ≤ (i : Int) := by omega
      obtain ⟨b, o, rfl, _, _, hli⟩ := HEL.out i hlt
      obtain ⟨e0, e1, e2, e3, v4, v5, v6, e4, e5, e6, hpi⟩ := lies_iff.1 hli
      obtain ⟨bn, dn, bm, dm, bk, dk, rfl, rfl, rfl⟩ := hpi.form
      have e0 := kept_cell HXB.out e0
      have e1 := kept_cell HXB.out e1
      have e2 := kept_cell HXB.out e2
      have e3 := kept_cell HXB.out e3
      have e4 := kept_cell HXB.out e4
      have e5 := kept_cell HXB.out e5
      have e6 := kept_cell HXB.out e6
      have hc := HI.out ks[i] (List.getElem_mem _) wr _ _ _ (hpi.kept HXB.out)
      have HD : Hid (unkL (ks.drop i) = ((ks[i]).unk || unkL (ks.drop (i + 1)))) := by
        show _ = _
        rw [List.drop_eq_getElem_cons hlt]; simp only [unkL]
      unfold agT at hc
      clear hli hpi
      generalize (ks[i]).unk = r at *
      generalize (ks[i]).kind = ki at *
      generalize (ks[i]).name = ni at *
      generalize (ks[i]).n = nn at *
      generalize (ks[i]).flag = fi at *
      generalize (ks[i]).names.length = l1 at *
      generalize (ks[i]).marks.length = l2 at *
      generalize (ks[i]).kids.length = l3 at *
      cases r with
      | true =>
        have HE : Hid (R = true) := by show _ = _; rw [← HXE.out, HD.out]; simp
        go_wp2_with (go_at_call 10; refine hc.mono ?_; rintro e w1 ⟨rfl, hb1⟩; have HB1 : Hid (Below W0.heap.size W0 w1) := HXB.out.trans (hb1.mono HXB.out.size); clear hb1 hc)
        go_ret
        exact ⟨by rw [HE.out]; rfl, HB0.out.trans (HB1.out.mono hz0)⟩
      | false =>
        go_wp2_with (go_at_call 10; refine hc.mono ?_; rintro e w1 ⟨rfl, hb1⟩; have HB1 : Hid (Below W0.heap.size W0 w1) := HXB.out.trans (hb1.mono HXB.out.size); clear hb1 hc)
        go_roundg (ks.length - (i + 1))
        case measure => omega
        case rel => exact ⟨i + 1, by omega, Nat.le_refl _, by go_num, HB1.out, by rw [← HXE.out, HD.out]; simp⟩
    · have z1 : ¬ (i : Int) < (ks.length : Int) := by omega
      have HE : Hid (R = (k == 0)) := by
        show _ = _
        rw [← HXE.out, List.drop_of_length_le (by omega)]
        by_cases h0 : k = 0 <;> simp [unkL, h0]
      go_wp2_with fail
      go_ret
      exact ⟨by rw [HE.out]; rfl, HB0.out.trans (HXB.out.mono hz0)⟩
end Go.Proofs.Ytcmnhkopmkaiaaa

