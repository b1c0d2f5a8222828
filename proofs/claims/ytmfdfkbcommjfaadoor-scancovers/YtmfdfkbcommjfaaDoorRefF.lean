/-
  remark of the document's scanner, walked: one up to its line's end.
-/
import Derived.Test.YtmfdfkbcommjfaaDoorRefD
import Derived.Test.YtmfdfkbcommjfaaDoorRefC
import Derived.Test.YtmfdfkbcommjfaaDoorWalkH
namespace Go.Proofs.YtmfdfkbcommjfaaDoor
open Go.RowKit
attribute [local go_sem ↓] Go.wp_at_zero Go.wp_at_succ
theorem quiet_at {P : Program} {f : FuncId} {args : Array Value} {w : World} {n : Nat} {v : Value} (h : Calls P f args (w.drewN n) fun e w' => e = .returned v ∧ ∃ m, w' = (w.drewN n).drewN m) : Calls P f args (w.drewN n) fun e w'' => e = .returned v ∧ ∃ m, w'' = w.drewN m :=
  h.mono fun _ _ ⟨he, m, hm⟩ => ⟨he, n + m, by rw [hm, World.drewN_drewN]⟩
set_option maxRecDepth 100000 in
set_option maxHeartbeats 2000000 in
theorem rshort_any (w : World) (base R : Nat) (S : ByteArray) (s : St) (p : Nat) (h : Sc w base R S p s 0 0) (hp : p ≤ S.size) (hS : S.size ≤ 65536) (hl : s.rems.length ≤ 1000000) (ha : ([47, 47] : List UInt8).isPrefixOf (S.data.toList.drop p) = true) :
    Calls Tryd.prog 38 #[.pointer (some ⟨R, 0, none⟩)] w (RP w base R S s p (.rmk (run notNl (S.data.toList.drop p)) false)) := by
  have c1 := h.cell1
  have hrl := run_le notNl (S.data.toList.drop p)
  rw [List.length_drop, bal] at hrl
  obtain ⟨V, hV⟩ : ∃ V, run notNl (S.data.toList.drop p) = V := ⟨_, rfl⟩
  rw [hV] at hrl ⊢
  have HV : Hid (p + run notNl (S.data.toList.drop p) = p + V) := congrArg (p + ·) hV
  have HH : Hid (Sc w base R S p s 0 0) := h
  have g37 := rat_any w base R S p s 0 0 h ⟨#[47, 47]⟩ hp hS (by decide)
  have e0 : (⟨#[47, 47]⟩ : ByteArray).data.toList = [47, 47] := rfl
  rw [e0, ha] at g37
  obtain ⟨i33, i1, i2, i3, i4⟩ := info33_ex
  have HI : Hid (Tryd.prog.info? 33 = some i33 ∧ i33.zero = some (.agg #[.int .i64 0, .int .i64 0]) ∧ i33.size = 2 ∧ i33.bytes = 16) := ⟨i1, i2, i3, i4⟩
  clear h hV ha e0 i1 i2 i3 i4
  go_enter Tryd.func38, Tryd.ntmps38
  go_wp2_with (go_at_call 37; refine g37.mono ?_; rintro e w1 ⟨rfl, m1, hw1⟩; have HH1 : Hid (Sc w1 base R S p s 0 0) := (by rw [hw1]; exact HH.out.drewN m1); have HB1 : Hid (Below base w w1) := (by rw [hw1]; exact bl_drewN _ _ _); clear hw1)
  go_loopw [] (fun wr => NmR w base R S s notNl p (p + V) wr) (fun wr => S.size - cellI wr R)
  case atStart => exact ⟨p, Nat.le_refl _, hp, HH1.out, HB1.out, HV.out⟩
  case round =>
    obtain ⟨j, hpj, hj, hsc, hbl, hrun⟩ := hrel.ex
    clear hrel c1 g37
    have c0 := hsc.cell0
    have c1 := hsc.cell1
    have f1 := hsc.frz 1
    have HSC : Hid (Sc wr base R S j s 0 0) := hsc
    have HBL : Hid (Below base w wr) := hbl
    have HRUN : Hid (j + run notNl (S.data.toList.drop j) = p + V) := hrun
    have hlt := hsc.lt
    have hle := hsc.le
    have f3 := hsc.frz 3
    obtain ⟨rv, c3, hne, hown, hput⟩ := hsc.open3
    have HT : Hid (wr.ownsRow base 33 2 rv s.rems.length (flS s.rems)) := hown
    have HPut : Hid _ := @hput
    clear hsc hbl hrun hown hput
    have z2 : (0 : Int) ≤ (j : Int) := by omega
    by_cases hjl : j < S.size
    · have z1 : (j : Int) < (S.size : Int) := by omega
      have z3 : IntKind.i64.wrap ((j : Int) + 1) = (j : Int) + 1 := wrap_small _ (by omega) (by omega)
      by_cases q2 : S[j]'hjl = 10
      · have k2 : (((S[j]'hjl).toNat : Int) == 10) = true := by rw [q2]; rfl
        have HE : Hid (j = p + V) := by show j = p + V; have := run_no (f := notNl) hjl (by rw [q2]; rfl); have := HRUN.out; omega
        clear q2
        go_wp2
        go_quiet (fail)
        go_wp2
        have c3' : (wr.drewN nq).cell? ⟨R, 3, none⟩ = some rv := c3
        have c1' : (wr.drewN nq).cell? ⟨R, 1, none⟩ = some (.int .i64 j) := c1
        have f3' : (wr.drewN nq).frozen? ⟨R, 3, none⟩ = false := f3
        have hlt' : R < (wr.drewN nq).heap.size := hlt
        have HT' : Hid ((wr.drewN nq).ownsRow base 33 2 rv s.rems.length (flS s.rems)) := HT.out.below (bl_drewN _ _ _)
        have HB2 : Hid (Below wr.heap.size wr (wr.drewN nq)) := bl_drewN _ _ _
        generalize wr.drewN nq = W at *
        go_region_law
          ((refine step_append_lies _ (by rfl) _ _ _ (by rfl) base 33 i33 _ 2 16 Tryd.underlying30 HI.out.1 HI.out.2.1 HI.out.2.2.1 HI.out.2.2.2 rfl (by omega) rv s.rems.length (flS s.rems) (by rfl) ((HT'.out.drew).alloc _)
                  ⟨W.heap.size, 0, none⟩ 1 1 [.int .i64 p, .int .i64 j] (by rfl) (by rfl) (World.news_of_block (heap_alloc_new W.drew _)) (by simp [Value.oneCell'])
                  (by omega) (by unfold maxLen; omega) (by omega) (by simp; omega) (W.heap.size + 1) (by simp) ?_; intro gg cap w2 hown1 hgrow hat hlt1; have k1 := hgrow.cell_far ⟨R, 3, none⟩ (by simp; omega) (Ne.symm hne); have k2 := hgrow.frozen_far ⟨R, 3, none⟩ (by simp; omega) (Ne.symm hne)))
        all_goals
         go_wp2
         refine bodyPost_end (results_none rfl _ _ _) rfl ?_
         have q := HPut.out (t := (p, j)) (((HB2.out).drew).alloc (by have := HB2.out.size; simp; omega) _) hgrow hown1
         obtain rfl := HE.out
         exact ⟨rfl, q.1, HBL.out.trans q.2⟩
      · have k2 : (((S[j]'hjl).toNat : Int) == 10) = false := nat_bne (b := 10) (fun h => q2 (UInt8.toNat_inj.1 h))
        have HNX : Hid (∀ m, NmR w base R S s notNl p (p + V) ((wr.drewN m).setCell ⟨R, 1, none⟩ (.int .i64 ((j : Int) + 1))) ∧ S.size - cellI ((wr.drewN m).setCell ⟨R, 1, none⟩ (.int .i64 ((j : Int) + 1))) R < S.size - cellI wr R) := fun m => NmR.next hjl hpj HSC.out HBL.out HRUN.out (by simp [notNl, q2])
        clear q2
        go_wp2
        go_quiet (fail)
        go_wp2
        exact HNX.out _
    · have z1 : decide ((j : Int) < (S.size : Int)) = false := decide_eq_false (by omega)
      have HE : Hid (j = p + V) := by show j = p + V; have := run_end (f := notNl) hjl; have := HRUN.out; omega
      go_wp2
      go_quiet (fail)
      go_wp2
      have c3' : (wr.drewN nq).cell? ⟨R, 3, none⟩ = some rv := c3
      have c1' : (wr.drewN nq).cell? ⟨R, 1, none⟩ = some (.int .i64 j) := c1
      have f3' : (wr.drewN nq).frozen? ⟨R, 3, none⟩ = false := f3
      have hlt' : R < (wr.drewN nq).heap.size := hlt
      have HT' : Hid ((wr.drewN nq).ownsRow base 33 2 rv s.rems.length (flS s.rems)) := HT.out.below (bl_drewN _ _ _)
      have HB2 : Hid (Below wr.heap.size wr (wr.drewN nq)) := bl_drewN _ _ _
      generalize wr.drewN nq = W at *
      go_region_law
        ((refine step_append_lies _ (by rfl) _ _ _ (by rfl) base 33 i33 _ 2 16 Tryd.underlying30 HI.out.1 HI.out.2.1 HI.out.2.2.1 HI.out.2.2.2 rfl (by omega) rv s.rems.length (flS s.rems) (by rfl) ((HT'.out.drew).alloc _)
                ⟨W.heap.size, 0, none⟩ 1 1 [.int .i64 p, .int .i64 j] (by rfl) (by rfl) (World.news_of_block (heap_alloc_new W.drew _)) (by simp [Value.oneCell'])
                (by omega) (by unfold maxLen; omega) (by omega) (by simp; omega) (W.heap.size + 1) (by simp) ?_; intro gg cap w2 hown1 hgrow hat hlt1; have k1 := hgrow.cell_far ⟨R, 3, none⟩ (by simp; omega) (Ne.symm hne); have k2 := hgrow.frozen_far ⟨R, 3, none⟩ (by simp; omega) (Ne.symm hne)))
      all_goals
       go_wp2
       refine bodyPost_end (results_none rfl _ _ _) rfl ?_
       have q := HPut.out (t := (p, j)) (((HB2.out).drew).alloc (by have := HB2.out.size; simp; omega) _) hgrow hown1
       obtain rfl := HE.out
       exact ⟨rfl, q.1, HBL.out.trans q.2⟩
end Go.Proofs.YtmfdfkbcommjfaaDoor
