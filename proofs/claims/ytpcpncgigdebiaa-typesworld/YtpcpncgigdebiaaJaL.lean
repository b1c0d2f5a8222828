/-
  recastlaw8.shaped and in, walked.
-/
import Derived.Test.YtpcpncgigdebiaaJaB
import Derived.Test.YtpcpncgigdebiaaRnw
namespace Go.Proofs.Ytpcpncgigdebiaa
open Go.RowKit
attribute [local go_sem ↓] Go.wp_at_zero Go.wp_at_succ
/-- has it what its kind has? -/
structure Ty.Hd (t : Ty) : Prop where
  ptr : t.kind = 10 ∨ t.kind = 11 ∨ t.kind = 12 ∨ t.kind = 9 → t.kids.length = 1
  fn : t.kind = 13 → 0 ≤ t.n ∧ t.n ≤ t.kids.length ∧ (t.flag = true → 1 ≤ t.n ∧ ∃ x, t.kids[(t.n - 1).toNat]? = some x ∧ x.kind = 11)
  str : t.kind = 14 → t.names.length = t.kids.length ∧ t.marks.length = t.kids.length
  ifc : t.kind = 15 → t.names.length = t.kids.length ∧ ∀ x ∈ t.kids, x.kind = 13
  els : t.kind < 9 ∨ 17 < t.kind → t.kids = []
inductive Shp : Ty → Prop
  | mk (t : Ty) : t.Hd → (∀ x ∈ t.kids, Shp x) → Shp t
theorem Shp.hd {t : Ty} (h : Shp t) : t.Hd := by cases h; assumption
theorem Shp.kids {t : Ty} (h : Shp t) : ∀ x ∈ t.kids, Shp x := by cases h; assumption
structure ShQ (w : World) (P : Prop) (e : Ending) (w' : World) : Prop where
  bl : Below w.heap.size w w'
  ex : ∃ b : Bool, e = .returned (.bool b) ∧ (b = true → P)
theorem ShQ.no {w w' : World} {P : Prop} (h : Below w.heap.size w w') : ShQ w P (.returned (.bool false)) w' := ⟨h, false, rfl, fun h => by cases h⟩
theorem ShQ.yes {w w' : World} {P : Prop} (h : Below w.heap.size w w') (hp : P) : ShQ w P (.returned (.bool true)) w' := ⟨h, true, rfl, fun _ => hp⟩
set_option maxRecDepth 100000 in
set_option maxHeartbeats 8000000 in
theorem shaped_any (B : BQ) : ∀ t : Ty, ∀ (w : World) (vn vm vk : Value), Prt B w t vn vm vk → Calls Try.prog 17 #[agT t vn vm vk] w (ShQ w (Shp t)) := by
  refine Ty.ind fun k nm n f ns ms ks ih w vn vm vk hp => ?_
  have HI : Hid (∀ x ∈ ks, ∀ (w : World) (vn vm vk : Value), Prt B w x vn vm vk → Calls Try.prog 17 #[agT x vn vm vk] w (ShQ w (Shp x))) := ih
  obtain ⟨an, cn, am, cm, ak, ck, rfl, rfl, rfl⟩ := hp.form
  unfold agT
  simp only [Ty.kind, Ty.name, Ty.n, Ty.flag, Ty.names, Ty.marks, Ty.kids] at hp ⊢
  obtain ⟨lk, hlk⟩ : ∃ l, l = ks.length := ⟨_, rfl⟩
  obtain ⟨ln, hln⟩ : ∃ l, l = ns.length := ⟨_, rfl⟩
  obtain ⟨lm, hlm⟩ : ∃ l, l = ms.length := ⟨_, rfl⟩
  rw [← hlk, ← hln, ← hlm] at hp ⊢
  have HLK : Hid (lk = ks.length) := hlk
  have HLN : Hid (ln = ns.length) := hln
  have HLM : Hid (lm = ms.length) := hlm
  obtain ⟨W0, hW0⟩ : ∃ W0, W0 = w.alloc (.cells #[.int .i64 k, .string nm, .int .i64 n, .bool f, .slice an ln cn, .slice am lm cm, .slice ak lk ck] 27) := ⟨_, rfl⟩
  have hb0 : Below w.heap.size w W0 := by rw [hW0]; exact below_alloc _ _
  have HB0 : Hid (Below w.heap.size w W0) := hb0
  have hz0 := hb0.size
  obtain ⟨a0, c0, e0, hlen, hel⟩ := (hp.kept hb0).ks.open
  obtain ⟨rfl, hq9, rfl⟩ : ak = a0 ∧ lk = ks.length ∧ ck = c0 := by simpa [Ty.kids] using e0
  have HEL : Hid (∀ i (hi : i < ks.length), ∃ b o, ak = some ⟨b, o, none⟩ ∧ b < W0.heap.size ∧ B b ∧ (ks[i]).lies B W0 b (o + i * 7)) := hel
  have hlen : (lk : Int) ≤ 9223372036854775807 := by rw [hlk]; exact hlen
  have HX0 : Hid (W0.heap[w.heap.size]? = some (.cells #[.int .i64 k, .string nm, .int .i64 n, .bool f, .slice an ln cn, .slice am lm cm, .slice ak lk ck] 27 (0, 0))) := by
    show _ = _
    rw [hW0]; exact heap_new _ _
  have HSH : Hid (Ty.Hd (.mk k nm n f ns ms ks) → (∀ j (h : j < ks.length), Shp ks[j]) → Shp (.mk k nm n f ns ms ks)) := fun h1 h2 => .mk _ h1 fun x hx => by
    obtain ⟨j, hj, rfl⟩ := List.getElem_of_mem hx
    exact h2 j hj
  obtain ⟨P, hP⟩ : ∃ P, P = Shp (.mk k nm n f ns ms ks) := ⟨_, rfl⟩
  rw [← hP] at HSH ⊢
  clear hP ih hp hb0 e0 hel hlk hq9 hln hlm
  obtain ⟨s0, s1, s2, s3, s4, s5, s6⟩ := bx7 HX0.out
  subst hW0
  by_cases c10 : k = 10
  · subst c10
    by_cases h1 : lk = 1
    · subst h1
      have HHD : Hid (Ty.Hd (.mk 10 nm n f ns ms ks)) := ⟨(fun _ => HLK.out.symm), (fun h => by simp [Ty.kind] at h), (fun h => by simp [Ty.kind] at h), (fun h => by simp [Ty.kind] at h), (fun h => by simp [Ty.kind] at h)⟩
      go_enter Try.func17, Try.ntmps17
      go_wp2_with fail
      generalize w.alloc (.cells #[.int .i64 10, .string nm, .int .i64 n, .bool f, .slice an ln cn, .slice am lm cm, .slice ak 1 ck] 27) = W0 at *
      go_loopg [5] 1 (fun g u5 wr => ∃ i : Nat, i ≤ 1 ∧ 1 - i ≤ g ∧ u5 = .int .i64 i ∧ Hid (Below W0.heap.size W0 wr ∧ ∀ j (h1 : j < ks.length), j < i → Shp ks[j]))
      case atStart => exact ⟨0, Nat.zero_le _, Nat.le_refl _, rfl, Below.refl _ _, fun j _ hj => by omega⟩
      case round =>
        obtain ⟨i, hi, hg, rfl, HX⟩ := hrel
        have s6 := (bx7 (blk_kept HX.out.1 HX0.out)).2.2.2.2.2.2
        by_cases hlt : i < 1
        · have z1 : (i : Int) < (1 : Int) := by omega
          have z0 : (0 : Int) ≤ (i : Int) := by omega
          have hlx : i < ks.length := by rw [← HLK.out]; exact hlt
          obtain ⟨b, o, rfl, _, _, hli⟩ := HEL.out i hlx
          obtain ⟨e0, e1, e2, e3, v4, v5, v6, e4, e5, e6, hpi⟩ := lies_iff.1 hli
          obtain ⟨bn, dn, bm, dm, bk, dk, rfl, rfl, rfl⟩ := hpi.form
          have hc := HI.out ks[i] (List.getElem_mem _) wr _ _ _ (hpi.kept HX.out.1)
          have e0 := kept_cell HX.out.1 e0
          have e1 := kept_cell HX.out.1 e1
          have e2 := kept_cell HX.out.1 e2
          have e3 := kept_cell HX.out.1 e3
          have e4 := kept_cell HX.out.1 e4
          have e5 := kept_cell HX.out.1 e5
          have e6 := kept_cell HX.out.1 e6
          have HXB : Hid (Below W0.heap.size W0 wr) := HX.out.1
          have HXE : Hid (∀ j (h1 : j < ks.length), j < i → Shp ks[j]) := HX.out.2
          obtain ⟨PI, hPI⟩ : ∃ PI, PI = Shp ks[i] := ⟨_, rfl⟩
          have HPI : Hid (PI = Shp ks[i]) := hPI
          rw [← hPI] at hc
          unfold agT at hc
          clear hli hpi HX hPI
          generalize (ks[i]).kind = ki at *
          generalize (ks[i]).name = ni at *
          generalize (ks[i]).n = nn at *
          generalize (ks[i]).flag = fi at *
          generalize (ks[i]).names.length = l1 at *
          generalize (ks[i]).marks.length = l2 at *
          generalize (ks[i]).kids.length = l3 at *
          go_wp2_with (go_at_call 17; refine hc.mono ?_; intro e w1 hq; obtain ⟨bb, rfl, hbb⟩ := hq.ex; have HB1 : Hid (Below W0.heap.size W0 w1) := HXB.out.trans (hq.bl.mono HXB.out.size); have HBB : Hid (bb = true → PI) := hbb; clear hq hc hbb; cases bb)
          · go_ret
            exact ShQ.no (HB0.out.trans (HB1.out.mono hz0))
          · go_roundg (1 - (i + 1))
            case measure => omega
            case rel => exact ⟨i + 1, by omega, Nat.le_refl _, by go_num, HB1.out, fun j h1 hj => by
              rcases Nat.lt_or_ge j i with h | h
              · exact HXE.out j h1 h
              · have e : j = i := by omega
                subst e
                rw [← HPI.out]; exact HBB.out (by first | trivial | rfl)⟩
        · have z1 : ¬ (i : Int) < (1 : Int) := by omega
          have HN : Hid P := HSH.out HHD.out (fun j hj => HX.out.2 j hj (by have := HLK.out; omega))
          have HXB : Hid (Below W0.heap.size W0 wr) := HX.out.1
          clear HX
          go_wp2_with fail
          go_ret
          exact ShQ.yes (HB0.out.trans (HXB.out.mono hz0)) HN.out
    · have k1 := nat_bne (b := 1) h1
      go_enter Try.func17, Try.ntmps17
      go_wp2_with fail
      go_ret
      exact ShQ.no HB0.out
  by_cases c11 : k = 11
  · subst c11
    by_cases h1 : lk = 1
    · subst h1
      have HHD : Hid (Ty.Hd (.mk 11 nm n f ns ms ks)) := ⟨(fun _ => HLK.out.symm), (fun h => by simp [Ty.kind] at h), (fun h => by simp [Ty.kind] at h), (fun h => by simp [Ty.kind] at h), (fun h => by simp [Ty.kind] at h)⟩
      go_enter Try.func17, Try.ntmps17
      go_wp2_with fail
      generalize w.alloc (.cells #[.int .i64 11, .string nm, .int .i64 n, .bool f, .slice an ln cn, .slice am lm cm, .slice ak 1 ck] 27) = W0 at *
      go_loopg [5] 1 (fun g u5 wr => ∃ i : Nat, i ≤ 1 ∧ 1 - i ≤ g ∧ u5 = .int .i64 i ∧ Hid (Below W0.heap.size W0 wr ∧ ∀ j (h1 : j < ks.length), j < i → Shp ks[j]))
      case atStart => exact ⟨0, Nat.zero_le _, Nat.le_refl _, rfl, Below.refl _ _, fun j _ hj => by omega⟩
      case round =>
        obtain ⟨i, hi, hg, rfl, HX⟩ := hrel
        have s6 := (bx7 (blk_kept HX.out.1 HX0.out)).2.2.2.2.2.2
        by_cases hlt : i < 1
        · have z1 : (i : Int) < (1 : Int) := by omega
          have z0 : (0 : Int) ≤ (i : Int) := by omega
          have hlx : i < ks.length := by rw [← HLK.out]; exact hlt
          obtain ⟨b, o, rfl, _, _, hli⟩ := HEL.out i hlx
          obtain ⟨e0, e1, e2, e3, v4, v5, v6, e4, e5, e6, hpi⟩ := lies_iff.1 hli
          obtain ⟨bn, dn, bm, dm, bk, dk, rfl, rfl, rfl⟩ := hpi.form
          have hc := HI.out ks[i] (List.getElem_mem _) wr _ _ _ (hpi.kept HX.out.1)
          have e0 := kept_cell HX.out.1 e0
          have e1 := kept_cell HX.out.1 e1
          have e2 := kept_cell HX.out.1 e2
          have e3 := kept_cell HX.out.1 e3
          have e4 := kept_cell HX.out.1 e4
          have e5 := kept_cell HX.out.1 e5
          have e6 := kept_cell HX.out.1 e6
          have HXB : Hid (Below W0.heap.size W0 wr) := HX.out.1
          have HXE : Hid (∀ j (h1 : j < ks.length), j < i → Shp ks[j]) := HX.out.2
          obtain ⟨PI, hPI⟩ : ∃ PI, PI = Shp ks[i] := ⟨_, rfl⟩
          have HPI : Hid (PI = Shp ks[i]) := hPI
          rw [← hPI] at hc
          unfold agT at hc
          clear hli hpi HX hPI
          generalize (ks[i]).kind = ki at *
          generalize (ks[i]).name = ni at *
          generalize (ks[i]).n = nn at *
          generalize (ks[i]).flag = fi at *
          generalize (ks[i]).names.length = l1 at *
          generalize (ks[i]).marks.length = l2 at *
          generalize (ks[i]).kids.length = l3 at *
          go_wp2_with (go_at_call 17; refine hc.mono ?_; intro e w1 hq; obtain ⟨bb, rfl, hbb⟩ := hq.ex; have HB1 : Hid (Below W0.heap.size W0 w1) := HXB.out.trans (hq.bl.mono HXB.out.size); have HBB : Hid (bb = true → PI) := hbb; clear hq hc hbb; cases bb)
          · go_ret
            exact ShQ.no (HB0.out.trans (HB1.out.mono hz0))
          · go_roundg (1 - (i + 1))
            case measure => omega
            case rel => exact ⟨i + 1, by omega, Nat.le_refl _, by go_num, HB1.out, fun j h1 hj => by
              rcases Nat.lt_or_ge j i with h | h
              · exact HXE.out j h1 h
              · have e : j = i := by omega
                subst e
                rw [← HPI.out]; exact HBB.out (by first | trivial | rfl)⟩
        · have z1 : ¬ (i : Int) < (1 : Int) := by omega
          have HN : Hid P := HSH.out HHD.out (fun j hj => HX.out.2 j hj (by have := HLK.out; omega))
          have HXB : Hid (Below W0.heap.size W0 wr) := HX.out.1
          clear HX
          go_wp2_with fail
          go_ret
          exact ShQ.yes (HB0.out.trans (HXB.out.mono hz0)) HN.out
    · have k1 := nat_bne (b := 1) h1
      go_enter Try.func17, Try.ntmps17
      go_wp2_with fail
      go_ret
      exact ShQ.no HB0.out
  by_cases c12 : k = 12
  · subst c12
    by_cases h1 : lk = 1
    · subst h1
      have HHD : Hid (Ty.Hd (.mk 12 nm n f ns ms ks)) := ⟨(fun _ => HLK.out.symm), (fun h => by simp [Ty.kind] at h), (fun h => by simp [Ty.kind] at h), (fun h => by simp [Ty.kind] at h), (fun h => by simp [Ty.kind] at h)⟩
      go_enter Try.func17, Try.ntmps17
      go_wp2_with fail
      generalize w.alloc (.cells #[.int .i64 12, .string nm, .int .i64 n, .bool f, .slice an ln cn, .slice am lm cm, .slice ak 1 ck] 27) = W0 at *
      go_loopg [5] 1 (fun g u5 wr => ∃ i : Nat, i ≤ 1 ∧ 1 - i ≤ g ∧ u5 = .int .i64 i ∧ Hid (Below W0.heap.size W0 wr ∧ ∀ j (h1 : j < ks.length), j < i → Shp ks[j]))
      case atStart => exact ⟨0, Nat.zero_le _, Nat.le_refl _, rfl, Below.refl _ _, fun j _ hj => by omega⟩
      case round =>
        obtain ⟨i, hi, hg, rfl, HX⟩ := hrel
        have s6 := (bx7 (blk_kept HX.out.1 HX0.out)).2.2.2.2.2.2
        by_cases hlt : i < 1
        · have z1 : (i : Int) < (1 : Int) := by omega
          have z0 : (0 : Int) ≤ (i : Int) := by omega
          have hlx : i < ks.length := by rw [← HLK.out]; exact hlt
          obtain ⟨b, o, rfl, _, _, hli⟩ := HEL.out i hlx
          obtain ⟨e0, e1, e2, e3, v4, v5, v6, e4, e5, e6, hpi⟩ := lies_iff.1 hli
          obtain ⟨bn, dn, bm, dm, bk, dk, rfl, rfl, rfl⟩ := hpi.form
          have hc := HI.out ks[i] (List.getElem_mem _) wr _ _ _ (hpi.kept HX.out.1)
          have e0 := kept_cell HX.out.1 e0
          have e1 := kept_cell HX.out.1 e1
          have e2 := kept_cell HX.out.1 e2
          have e3 := kept_cell HX.out.1 e3
          have e4 := kept_cell HX.out.1 e4
          have e5 := kept_cell HX.out.1 e5
          have e6 := kept_cell HX.out.1 e6
          have HXB : Hid (Below W0.heap.size W0 wr) := HX.out.1
          have HXE : Hid (∀ j (h1 : j < ks.length), j < i → Shp ks[j]) := HX.out.2
          obtain ⟨PI, hPI⟩ : ∃ PI, PI = Shp ks[i] := ⟨_, rfl⟩
          have HPI : Hid (PI = Shp ks[i]) := hPI
          rw [← hPI] at hc
          unfold agT at hc
          clear hli hpi HX hPI
          generalize (ks[i]).kind = ki at *
          generalize (ks[i]).name = ni at *
          generalize (ks[i]).n = nn at *
          generalize (ks[i]).flag = fi at *
          generalize (ks[i]).names.length = l1 at *
          generalize (ks[i]).marks.length = l2 at *
          generalize (ks[i]).kids.length = l3 at *
          go_wp2_with (go_at_call 17; refine hc.mono ?_; intro e w1 hq; obtain ⟨bb, rfl, hbb⟩ := hq.ex; have HB1 : Hid (Below W0.heap.size W0 w1) := HXB.out.trans (hq.bl.mono HXB.out.size); have HBB : Hid (bb = true → PI) := hbb; clear hq hc hbb; cases bb)
          · go_ret
            exact ShQ.no (HB0.out.trans (HB1.out.mono hz0))
          · go_roundg (1 - (i + 1))
            case measure => omega
            case rel => exact ⟨i + 1, by omega, Nat.le_refl _, by go_num, HB1.out, fun j h1 hj => by
              rcases Nat.lt_or_ge j i with h | h
              · exact HXE.out j h1 h
              · have e : j = i := by omega
                subst e
                rw [← HPI.out]; exact HBB.out (by first | trivial | rfl)⟩
        · have z1 : ¬ (i : Int) < (1 : Int) := by omega
          have HN : Hid P := HSH.out HHD.out (fun j hj => HX.out.2 j hj (by have := HLK.out; omega))
          have HXB : Hid (Below W0.heap.size W0 wr) := HX.out.1
          clear HX
          go_wp2_with fail
          go_ret
          exact ShQ.yes (HB0.out.trans (HXB.out.mono hz0)) HN.out
    · have k1 := nat_bne (b := 1) h1
      go_enter Try.func17, Try.ntmps17
      go_wp2_with fail
      go_ret
      exact ShQ.no HB0.out
  by_cases c9 : k = 9
  · subst c9
    by_cases h1 : lk = 1
    · subst h1
      have HHD : Hid (Ty.Hd (.mk 9 nm n f ns ms ks)) := ⟨(fun _ => HLK.out.symm), (fun h => by simp [Ty.kind] at h), (fun h => by simp [Ty.kind] at h), (fun h => by simp [Ty.kind] at h), (fun h => by simp [Ty.kind] at h)⟩
      go_enter Try.func17, Try.ntmps17
      go_wp2_with fail
      generalize w.alloc (.cells #[.int .i64 9, .string nm, .int .i64 n, .bool f, .slice an ln cn, .slice am lm cm, .slice ak 1 ck] 27) = W0 at *
      go_loopg [5] 1 (fun g u5 wr => ∃ i : Nat, i ≤ 1 ∧ 1 - i ≤ g ∧ u5 = .int .i64 i ∧ Hid (Below W0.heap.size W0 wr ∧ ∀ j (h1 : j < ks.length), j < i → Shp ks[j]))
      case atStart => exact ⟨0, Nat.zero_le _, Nat.le_refl _, rfl, Below.refl _ _, fun j _ hj => by omega⟩
      case round =>
        obtain ⟨i, hi, hg, rfl, HX⟩ := hrel
        have s6 := (bx7 (blk_kept HX.out.1 HX0.out)).2.2.2.2.2.2
        by_cases hlt : i < 1
        · have z1 : (i : Int) < (1 : Int) := by omega
          have z0 : (0 : Int) ≤ (i : Int) := by omega
          have hlx : i < ks.length := by rw [← HLK.out]; exact hlt
          obtain ⟨b, o, rfl, _, _, hli⟩ := HEL.out i hlx
          obtain ⟨e0, e1, e2, e3, v4, v5, v6, e4, e5, e6, hpi⟩ := lies_iff.1 hli
          obtain ⟨bn, dn, bm, dm, bk, dk, rfl, rfl, rfl⟩ := hpi.form
          have hc := HI.out ks[i] (List.getElem_mem _) wr _ _ _ (hpi.kept HX.out.1)
          have e0 := kept_cell HX.out.1 e0
          have e1 := kept_cell HX.out.1 e1
          have e2 := kept_cell HX.out.1 e2
          have e3 := kept_cell HX.out.1 e3
          have e4 := kept_cell HX.out.1 e4
          have e5 := kept_cell HX.out.1 e5
          have e6 := kept_cell HX.out.1 e6
          have HXB : Hid (Below W0.heap.size W0 wr) := HX.out.1
          have HXE : Hid (∀ j (h1 : j < ks.length), j < i → Shp ks[j]) := HX.out.2
          obtain ⟨PI, hPI⟩ : ∃ PI, PI = Shp ks[i] := ⟨_, rfl⟩
          have HPI : Hid (PI = Shp ks[i]) := hPI
          rw [← hPI] at hc
          unfold agT at hc
          clear hli hpi HX hPI
          generalize (ks[i]).kind = ki at *
          generalize (ks[i]).name = ni at *
          generalize (ks[i]).n = nn at *
          generalize (ks[i]).flag = fi at *
          generalize (ks[i]).names.length = l1 at *
          generalize (ks[i]).marks.length = l2 at *
          generalize (ks[i]).kids.length = l3 at *
          go_wp2_with (go_at_call 17; refine hc.mono ?_; intro e w1 hq; obtain ⟨bb, rfl, hbb⟩ := hq.ex; have HB1 : Hid (Below W0.heap.size W0 w1) := HXB.out.trans (hq.bl.mono HXB.out.size); have HBB : Hid (bb = true → PI) := hbb; clear hq hc hbb; cases bb)
          · go_ret
            exact ShQ.no (HB0.out.trans (HB1.out.mono hz0))
          · go_roundg (1 - (i + 1))
            case measure => omega
            case rel => exact ⟨i + 1, by omega, Nat.le_refl _, by go_num, HB1.out, fun j h1 hj => by
              rcases Nat.lt_or_ge j i with h | h
              · exact HXE.out j h1 h
              · have e : j = i := by omega
                subst e
                rw [← HPI.out]; exact HBB.out (by first | trivial | rfl)⟩
        · have z1 : ¬ (i : Int) < (1 : Int) := by omega
          have HN : Hid P := HSH.out HHD.out (fun j hj => HX.out.2 j hj (by have := HLK.out; omega))
          have HXB : Hid (Below W0.heap.size W0 wr) := HX.out.1
          clear HX
          go_wp2_with fail
          go_ret
          exact ShQ.yes (HB0.out.trans (HXB.out.mono hz0)) HN.out
    · have k1 := nat_bne (b := 1) h1
      go_enter Try.func17, Try.ntmps17
      go_wp2_with fail
      go_ret
      exact ShQ.no HB0.out
  by_cases c13 : k = 13
  · subst c13
    by_cases h1 : n < 0
    · skip
      have k1 : n < 0 := h1
      go_enter Try.func17, Try.ntmps17
      go_wp2_with fail
      go_ret
      exact ShQ.no HB0.out
    by_cases h2 : (lk : Int) < n
    · skip
      go_enter Try.func17, Try.ntmps17
      go_wp2_with fail
      go_ret
      exact ShQ.no HB0.out
    cases f with
    | false =>
      have HHD : Hid (Ty.Hd (.mk 13 nm n false ns ms ks)) := ⟨(fun h => by simp [Ty.kind] at h), (fun _ => ⟨by simp [Ty.n]; omega, by have := HLK.out; simp [Ty.n, Ty.kids]; omega, fun h => by simp [Ty.flag] at h⟩), (fun h => by simp [Ty.kind] at h), (fun h => by simp [Ty.kind] at h), (fun h => by simp [Ty.kind] at h)⟩
      go_enter Try.func17, Try.ntmps17
      go_wp2_with fail
      generalize w.alloc (.cells #[.int .i64 13, .string nm, .int .i64 n, .bool false, .slice an ln cn, .slice am lm cm, .slice ak lk ck] 27) = W0 at *
      go_loopg [5] lk (fun g u5 wr => ∃ i : Nat, i ≤ lk ∧ lk - i ≤ g ∧ u5 = .int .i64 i ∧ Hid (Below W0.heap.size W0 wr ∧ ∀ j (h1 : j < ks.length), j < i → Shp ks[j]))
      case atStart => exact ⟨0, Nat.zero_le _, Nat.le_refl _, rfl, Below.refl _ _, fun j _ hj => by omega⟩
      case round =>
        obtain ⟨i, hi, hg, rfl, HX⟩ := hrel
        have s6 := (bx7 (blk_kept HX.out.1 HX0.out)).2.2.2.2.2.2
        by_cases hlt : i < lk
        · have z1 : (i : Int) < (lk : Int) := by omega
          have z0 : (0 : Int) ≤ (i : Int) := by omega
          have hlx : i < ks.length := by rw [← HLK.out]; exact hlt
          obtain ⟨b, o, rfl, _, _, hli⟩ := HEL.out i hlx
          obtain ⟨e0, e1, e2, e3, v4, v5, v6, e4, e5, e6, hpi⟩ := lies_iff.1 hli
          obtain ⟨bn, dn, bm, dm, bk, dk, rfl, rfl, rfl⟩ := hpi.form
          have hc := HI.out ks[i] (List.getElem_mem _) wr _ _ _ (hpi.kept HX.out.1)
          have e0 := kept_cell HX.out.1 e0
          have e1 := kept_cell HX.out.1 e1
          have e2 := kept_cell HX.out.1 e2
          have e3 := kept_cell HX.out.1 e3
          have e4 := kept_cell HX.out.1 e4
          have e5 := kept_cell HX.out.1 e5
          have e6 := kept_cell HX.out.1 e6
          have HXB : Hid (Below W0.heap.size W0 wr) := HX.out.1
          have HXE : Hid (∀ j (h1 : j < ks.length), j < i → Shp ks[j]) := HX.out.2
          obtain ⟨PI, hPI⟩ : ∃ PI, PI = Shp ks[i] := ⟨_, rfl⟩
          have HPI : Hid (PI = Shp ks[i]) := hPI
          rw [← hPI] at hc
          unfold agT at hc
          clear hli hpi HX hPI
          generalize (ks[i]).kind = ki at *
          generalize (ks[i]).name = ni at *
          generalize (ks[i]).n = nn at *
          generalize (ks[i]).flag = fi at *
          generalize (ks[i]).names.length = l1 at *
          generalize (ks[i]).marks.length = l2 at *
          generalize (ks[i]).kids.length = l3 at *
          go_wp2_with (go_at_call 17; refine hc.mono ?_; intro e w1 hq; obtain ⟨bb, rfl, hbb⟩ := hq.ex; have HB1 : Hid (Below W0.heap.size W0 w1) := HXB.out.trans (hq.bl.mono HXB.out.size); have HBB : Hid (bb = true → PI) := hbb; clear hq hc hbb; cases bb)
          · go_ret
            exact ShQ.no (HB0.out.trans (HB1.out.mono hz0))
          · go_roundg (lk - (i + 1))
            case measure => omega
            case rel => exact ⟨i + 1, by omega, Nat.le_refl _, by go_num, HB1.out, fun j h1 hj => by
              rcases Nat.lt_or_ge j i with h | h
              · exact HXE.out j h1 h
              · have e : j = i := by omega
                subst e
                rw [← HPI.out]; exact HBB.out (by first | trivial | rfl)⟩
        · have z1 : ¬ (i : Int) < (lk : Int) := by omega
          have HN : Hid P := HSH.out HHD.out (fun j hj => HX.out.2 j hj (by have := HLK.out; omega))
          have HXB : Hid (Below W0.heap.size W0 wr) := HX.out.1
          clear HX
          go_wp2_with fail
          go_ret
          exact ShQ.yes (HB0.out.trans (HXB.out.mono hz0)) HN.out
    | true =>
      by_cases h3 : n < 1
      · skip
        go_enter Try.func17, Try.ntmps17
        go_wp2_with fail
        go_ret
        exact ShQ.no HB0.out
      obtain ⟨q, rfl⟩ : ∃ q : Nat, n = (q : Int) + 1 := ⟨(n - 1).toNat, by omega⟩
      have hq : q < ks.length := by have := HLK.out; omega
      obtain ⟨b, o, rfl, hbl, hBb, hli⟩ := HEL.out q hq
      obtain ⟨e0, e1, e2, e3, v4, v5, v6, e4, e5, e6, hpi⟩ := lies_iff.1 hli
      have z0 : (0 : Int) ≤ (q : Int) := by omega
      have z1 : (q : Int) < (lk : Int) := by have := HLK.out; omega
      have kw : IntKind.i64.wrap (q : Int) = (q : Int) := by rw [IntKind.wrap_i64]; omega
      by_cases h4 : (ks[q]).kind = 11
      · have HHD : Hid (Ty.Hd (.mk 13 nm ((q : Int) + 1) true ns ms ks)) := ⟨(fun h => by simp [Ty.kind] at h), (fun _ => ⟨by simp [Ty.n]; omega, by have := HLK.out; simp [Ty.n, Ty.kids]; omega, fun _ => ⟨by simp [Ty.n]; omega, ks[q], by simp [Ty.n, Ty.kids, hq], h4⟩⟩), (fun h => by simp [Ty.kind] at h), (fun h => by simp [Ty.kind] at h), (fun h => by simp [Ty.kind] at h)⟩
        rw [h4] at e0
        clear e1 e2 e3 e4 e5 e6 hpi hli h4 hBb hbl
        go_enter Try.func17, Try.ntmps17
        go_wp2_with fail
        generalize w.alloc (.cells #[.int .i64 13, .string nm, .int .i64 ((q : Int) + 1), .bool true, .slice an ln cn, .slice am lm cm, .slice (some ⟨b, o, none⟩) lk ck] 27) = W0 at *
        go_loopg [5] lk (fun g u5 wr => ∃ i : Nat, i ≤ lk ∧ lk - i ≤ g ∧ u5 = .int .i64 i ∧ Hid (Below W0.heap.size W0 wr ∧ ∀ j (h1 : j < ks.length), j < i → Shp ks[j]))
        case atStart => exact ⟨0, Nat.zero_le _, Nat.le_refl _, rfl, Below.refl _ _, fun j _ hj => by omega⟩
        case round =>
          obtain ⟨i, hi, hg, rfl, HX⟩ := hrel
          have s6 := (bx7 (blk_kept HX.out.1 HX0.out)).2.2.2.2.2.2
          by_cases hlt : i < lk
          · have z1 : (i : Int) < (lk : Int) := by omega
            have z0 : (0 : Int) ≤ (i : Int) := by omega
            have hlx : i < ks.length := by rw [← HLK.out]; exact hlt
            obtain ⟨b2, o2, hbo, _, _, hli⟩ := HEL.out i hlx
            obtain ⟨rfl, rfl⟩ : b = b2 ∧ o = o2 := by simpa using hbo
            clear hbo
            obtain ⟨e0, e1, e2, e3, v4, v5, v6, e4, e5, e6, hpi⟩ := lies_iff.1 hli
            obtain ⟨bn, dn, bm, dm, bk, dk, rfl, rfl, rfl⟩ := hpi.form
            have hc := HI.out ks[i] (List.getElem_mem _) wr _ _ _ (hpi.kept HX.out.1)
            have e0 := kept_cell HX.out.1 e0
            have e1 := kept_cell HX.out.1 e1
            have e2 := kept_cell HX.out.1 e2
            have e3 := kept_cell HX.out.1 e3
            have e4 := kept_cell HX.out.1 e4
            have e5 := kept_cell HX.out.1 e5
            have e6 := kept_cell HX.out.1 e6
            have HXB : Hid (Below W0.heap.size W0 wr) := HX.out.1
            have HXE : Hid (∀ j (h1 : j < ks.length), j < i → Shp ks[j]) := HX.out.2
            obtain ⟨PI, hPI⟩ : ∃ PI, PI = Shp ks[i] := ⟨_, rfl⟩
            have HPI : Hid (PI = Shp ks[i]) := hPI
            rw [← hPI] at hc
            unfold agT at hc
            clear hli hpi HX hPI
            generalize (ks[i]).kind = ki at *
            generalize (ks[i]).name = ni at *
            generalize (ks[i]).n = nn at *
            generalize (ks[i]).flag = fi at *
            generalize (ks[i]).names.length = l1 at *
            generalize (ks[i]).marks.length = l2 at *
            generalize (ks[i]).kids.length = l3 at *
            go_wp2_with (go_at_call 17; refine hc.mono ?_; intro e w1 hq; obtain ⟨bb, rfl, hbb⟩ := hq.ex; have HB1 : Hid (Below W0.heap.size W0 w1) := HXB.out.trans (hq.bl.mono HXB.out.size); have HBB : Hid (bb = true → PI) := hbb; clear hq hc hbb; cases bb)
            · go_ret
              exact ShQ.no (HB0.out.trans (HB1.out.mono hz0))
            · go_roundg (lk - (i + 1))
              case measure => omega
              case rel => exact ⟨i + 1, by omega, Nat.le_refl _, by go_num, HB1.out, fun j h1 hj => by
                rcases Nat.lt_or_ge j i with h | h
                · exact HXE.out j h1 h
                · have e : j = i := by omega
                  subst e
                  rw [← HPI.out]; exact HBB.out (by first | trivial | rfl)⟩
          · have z1 : ¬ (i : Int) < (lk : Int) := by omega
            have HN : Hid P := HSH.out HHD.out (fun j hj => HX.out.2 j hj (by have := HLK.out; omega))
            have HXB : Hid (Below W0.heap.size W0 wr) := HX.out.1
            clear HX
            go_wp2_with fail
            go_ret
            exact ShQ.yes (HB0.out.trans (HXB.out.mono hz0)) HN.out
      · have k4 : ¬ (ks[q]).kind = 11 := h4
        generalize (ks[q]).kind = kq at *
        go_enter Try.func17, Try.ntmps17
        go_wp2_with fail
        go_ret
        exact ShQ.no HB0.out
  by_cases c14 : k = 14
  · subst c14
    by_cases h1 : ln = lk
    · by_cases h2 : lm = lk
      · have HHD : Hid (Ty.Hd (.mk 14 nm n f ns ms ks)) := ⟨(fun h => by simp [Ty.kind] at h), (fun h => by simp [Ty.kind] at h), (fun _ => ⟨by simp only [Ty.names, Ty.kids]; rw [← HLN.out, ← HLK.out, h1], by simp only [Ty.marks, Ty.kids]; rw [← HLM.out, ← HLK.out, h2]⟩), (fun h => by simp [Ty.kind] at h), (fun h => by simp [Ty.kind] at h)⟩
        subst h1
        subst h2
        go_enter Try.func17, Try.ntmps17
        go_wp2_with fail
        generalize w.alloc (.cells #[.int .i64 14, .string nm, .int .i64 n, .bool f, .slice an lm cn, .slice am lm cm, .slice ak lm ck] 27) = W0 at *
        go_loopg [5] lm (fun g u5 wr => ∃ i : Nat, i ≤ lm ∧ lm - i ≤ g ∧ u5 = .int .i64 i ∧ Hid (Below W0.heap.size W0 wr ∧ ∀ j (h1 : j < ks.length), j < i → Shp ks[j]))
        case atStart => exact ⟨0, Nat.zero_le _, Nat.le_refl _, rfl, Below.refl _ _, fun j _ hj => by omega⟩
        case round =>
          obtain ⟨i, hi, hg, rfl, HX⟩ := hrel
          have s6 := (bx7 (blk_kept HX.out.1 HX0.out)).2.2.2.2.2.2
          by_cases hlt : i < lm
          · have z1 : (i : Int) < (lm : Int) := by omega
            have z0 : (0 : Int) ≤ (i : Int) := by omega
            have hlx : i < ks.length := by rw [← HLK.out]; exact hlt
            obtain ⟨b, o, rfl, _, _, hli⟩ := HEL.out i hlx
            obtain ⟨e0, e1, e2, e3, v4, v5, v6, e4, e5, e6, hpi⟩ := lies_iff.1 hli
            obtain ⟨bn, dn, bm, dm, bk, dk, rfl, rfl, rfl⟩ := hpi.form
            have hc := HI.out ks[i] (List.getElem_mem _) wr _ _ _ (hpi.kept HX.out.1)
            have e0 := kept_cell HX.out.1 e0
            have e1 := kept_cell HX.out.1 e1
            have e2 := kept_cell HX.out.1 e2
            have e3 := kept_cell HX.out.1 e3
            have e4 := kept_cell HX.out.1 e4
            have e5 := kept_cell HX.out.1 e5
            have e6 := kept_cell HX.out.1 e6
            have HXB : Hid (Below W0.heap.size W0 wr) := HX.out.1
            have HXE : Hid (∀ j (h1 : j < ks.length), j < i → Shp ks[j]) := HX.out.2
            obtain ⟨PI, hPI⟩ : ∃ PI, PI = Shp ks[i] := ⟨_, rfl⟩
            have HPI : Hid (PI = Shp ks[i]) := hPI
            rw [← hPI] at hc
            unfold agT at hc
            clear hli hpi HX hPI
            generalize (ks[i]).kind = ki at *
            generalize (ks[i]).name = ni at *
            generalize (ks[i]).n = nn at *
            generalize (ks[i]).flag = fi at *
            generalize (ks[i]).names.length = l1 at *
            generalize (ks[i]).marks.length = l2 at *
            generalize (ks[i]).kids.length = l3 at *
            go_wp2_with (go_at_call 17; refine hc.mono ?_; intro e w1 hq; obtain ⟨bb, rfl, hbb⟩ := hq.ex; have HB1 : Hid (Below W0.heap.size W0 w1) := HXB.out.trans (hq.bl.mono HXB.out.size); have HBB : Hid (bb = true → PI) := hbb; clear hq hc hbb; cases bb)
            · go_ret
              exact ShQ.no (HB0.out.trans (HB1.out.mono hz0))
            · go_roundg (lm - (i + 1))
              case measure => omega
              case rel => exact ⟨i + 1, by omega, Nat.le_refl _, by go_num, HB1.out, fun j h1 hj => by
                rcases Nat.lt_or_ge j i with h | h
                · exact HXE.out j h1 h
                · have e : j = i := by omega
                  subst e
                  rw [← HPI.out]; exact HBB.out (by first | trivial | rfl)⟩
          · have z1 : ¬ (i : Int) < (lm : Int) := by omega
            have HN : Hid P := HSH.out HHD.out (fun j hj => HX.out.2 j hj (by have := HLK.out; omega))
            have HXB : Hid (Below W0.heap.size W0 wr) := HX.out.1
            clear HX
            go_wp2_with fail
            go_ret
            exact ShQ.yes (HB0.out.trans (HXB.out.mono hz0)) HN.out
      · have k2 := nat_bne h2
        subst h1
        go_enter Try.func17, Try.ntmps17
        go_wp2_with fail
        go_ret
        exact ShQ.no HB0.out
    · have k1 := nat_bne h1
      go_enter Try.func17, Try.ntmps17
      go_wp2_with fail
      go_ret
      exact ShQ.no HB0.out
  by_cases c15 : k = 15
  · subst c15
    by_cases h1 : ln = lk
    · subst h1
      go_enter Try.func17, Try.ntmps17
      go_wp2_with fail
      generalize w.alloc (.cells #[.int .i64 15, .string nm, .int .i64 n, .bool f, .slice an ln cn, .slice am lm cm, .slice ak ln ck] 27) = W0 at *
      go_loopg [4] ln (fun g u4 wr => ∃ i : Nat, i ≤ ln ∧ ln - i ≤ g ∧ u4 = .int .i64 i ∧ wr = W0 ∧ Hid (∀ j (h1 : j < ks.length), j < i → (ks[j]).kind = 13))
      case atStart => exact ⟨0, Nat.zero_le _, Nat.le_refl _, rfl, rfl, fun j _ hj => by omega⟩
      case round =>
        obtain ⟨i, hi, hg, rfl, hw, HX⟩ := hrel
        obtain rfl := hw.symm
        clear hw
        by_cases hlt : i < ln
        · have z1 : (i : Int) < (ln : Int) := by omega
          have z0 : (0 : Int) ≤ (i : Int) := by omega
          have hlx : i < ks.length := by rw [← HLK.out]; exact hlt
          obtain ⟨b, o, rfl, _, _, hli⟩ := HEL.out i hlx
          obtain ⟨e0, e1, e2, e3, v4, v5, v6, e4, e5, e6, hpi⟩ := lies_iff.1 hli
          have s6 := (bx7 HX0.out).2.2.2.2.2.2
          clear e1 e2 e3 e4 e5 e6 hpi hli
          by_cases h4 : (ks[i]).kind = 13
          · rw [h4] at e0
            have HK4 : Hid ((ks[i]).kind = 13) := h4
            clear h4
            go_wp2_with fail
            go_roundg (ln - (i + 1))
            case measure => omega
            case rel => exact ⟨i + 1, by omega, Nat.le_refl _, by go_num, rfl, fun j h1 hj => by
              rcases Nat.lt_or_ge j i with h | h
              · exact HX.out j h1 h
              · have e : j = i := by omega
                subst e; exact HK4.out⟩
          · have k4 : ¬ (ks[i]).kind = 13 := h4
            generalize (ks[i]).kind = kq at *
            go_wp2_with fail
            go_ret
            exact ShQ.no HB0.out
        · have z1 : ¬ (i : Int) < (ln : Int) := by omega
          have HHD : Hid (Ty.Hd (.mk 15 nm n f ns ms ks)) := ⟨(fun h => by simp [Ty.kind] at h), (fun h => by simp [Ty.kind] at h), (fun h => by simp [Ty.kind] at h), (fun _ => ⟨by simp [Ty.names, Ty.kids]; rw [← HLN.out, ← HLK.out], fun x hx => by
              obtain ⟨j, hj, rfl⟩ := List.getElem_of_mem hx
              exact HX.out j hj (by have := HLK.out; simp [Ty.kids] at hj; omega)⟩), (fun h => by simp [Ty.kind] at h)⟩
          clear HX
          go_wp2_with fail
          go_loopg [5] ln (fun g u5 wr => ∃ i : Nat, i ≤ ln ∧ ln - i ≤ g ∧ u5 = .int .i64 i ∧ Hid (Below W0.heap.size W0 wr ∧ ∀ j (h1 : j < ks.length), j < i → Shp ks[j]))
          case atStart => exact ⟨0, Nat.zero_le _, Nat.le_refl _, rfl, Below.refl _ _, fun j _ hj => by omega⟩
          case round =>
            obtain ⟨i, hi, hg, rfl, HX⟩ := hrel
            have s6 := (bx7 (blk_kept HX.out.1 HX0.out)).2.2.2.2.2.2
            by_cases hlt : i < ln
            · have z1 : (i : Int) < (ln : Int) := by omega
              have z0 : (0 : Int) ≤ (i : Int) := by omega
              have hlx : i < ks.length := by rw [← HLK.out]; exact hlt
              obtain ⟨b, o, rfl, _, _, hli⟩ := HEL.out i hlx
              obtain ⟨e0, e1, e2, e3, v4, v5, v6, e4, e5, e6, hpi⟩ := lies_iff.1 hli
              obtain ⟨bn, dn, bm, dm, bk, dk, rfl, rfl, rfl⟩ := hpi.form
              have hc := HI.out ks[i] (List.getElem_mem _) wr _ _ _ (hpi.kept HX.out.1)
              have e0 := kept_cell HX.out.1 e0
              have e1 := kept_cell HX.out.1 e1
              have e2 := kept_cell HX.out.1 e2
              have e3 := kept_cell HX.out.1 e3
              have e4 := kept_cell HX.out.1 e4
              have e5 := kept_cell HX.out.1 e5
              have e6 := kept_cell HX.out.1 e6
              have HXB : Hid (Below W0.heap.size W0 wr) := HX.out.1
              have HXE : Hid (∀ j (h1 : j < ks.length), j < i → Shp ks[j]) := HX.out.2
              obtain ⟨PI, hPI⟩ : ∃ PI, PI = Shp ks[i] := ⟨_, rfl⟩
              have HPI : Hid (PI = Shp ks[i]) := hPI
              rw [← hPI] at hc
              unfold agT at hc
              clear hli hpi HX hPI
              generalize (ks[i]).kind = ki at *
              generalize (ks[i]).name = ni at *
              generalize (ks[i]).n = nn at *
              generalize (ks[i]).flag = fi at *
              generalize (ks[i]).names.length = l1 at *
              generalize (ks[i]).marks.length = l2 at *
              generalize (ks[i]).kids.length = l3 at *
              go_wp2_with (go_at_call 17; refine hc.mono ?_; intro e w1 hq; obtain ⟨bb, rfl, hbb⟩ := hq.ex; have HB1 : Hid (Below W0.heap.size W0 w1) := HXB.out.trans (hq.bl.mono HXB.out.size); have HBB : Hid (bb = true → PI) := hbb; clear hq hc hbb; cases bb)
              · go_ret
                exact ShQ.no (HB0.out.trans (HB1.out.mono hz0))
              · go_roundg (ln - (i + 1))
                case measure => omega
                case rel => exact ⟨i + 1, by omega, Nat.le_refl _, by go_num, HB1.out, fun j h1 hj => by
                  rcases Nat.lt_or_ge j i with h | h
                  · exact HXE.out j h1 h
                  · have e : j = i := by omega
                    subst e
                    rw [← HPI.out]; exact HBB.out (by first | trivial | rfl)⟩
            · have z1 : ¬ (i : Int) < (ln : Int) := by omega
              have HN : Hid P := HSH.out HHD.out (fun j hj => HX.out.2 j hj (by have := HLK.out; omega))
              have HXB : Hid (Below W0.heap.size W0 wr) := HX.out.1
              clear HX
              go_wp2_with fail
              go_ret
              exact ShQ.yes (HB0.out.trans (HXB.out.mono hz0)) HN.out
    · have k1 := nat_bne h1
      go_enter Try.func17, Try.ntmps17
      go_wp2_with fail
      go_ret
      exact ShQ.no HB0.out
  by_cases c16 : k = 16
  · subst c16
    have HHD : Hid (Ty.Hd (.mk 16 nm n f ns ms ks)) := ⟨(fun h => by simp [Ty.kind] at h), (fun h => by simp [Ty.kind] at h), (fun h => by simp [Ty.kind] at h), (fun h => by simp [Ty.kind] at h), (fun h => by simp [Ty.kind] at h)⟩
    go_enter Try.func17, Try.ntmps17
    go_wp2_with fail
    generalize w.alloc (.cells #[.int .i64 16, .string nm, .int .i64 n, .bool f, .slice an ln cn, .slice am lm cm, .slice ak lk ck] 27) = W0 at *
    go_loopg [5] lk (fun g u5 wr => ∃ i : Nat, i ≤ lk ∧ lk - i ≤ g ∧ u5 = .int .i64 i ∧ Hid (Below W0.heap.size W0 wr ∧ ∀ j (h1 : j < ks.length), j < i → Shp ks[j]))
    case atStart => exact ⟨0, Nat.zero_le _, Nat.le_refl _, rfl, Below.refl _ _, fun j _ hj => by omega⟩
    case round =>
      obtain ⟨i, hi, hg, rfl, HX⟩ := hrel
      have s6 := (bx7 (blk_kept HX.out.1 HX0.out)).2.2.2.2.2.2
      by_cases hlt : i < lk
      · have z1 : (i : Int) < (lk : Int) := by omega
        have z0 : (0 : Int) ≤ (i : Int) := by omega
        have hlx : i < ks.length := by rw [← HLK.out]; exact hlt
        obtain ⟨b, o, rfl, _, _, hli⟩ := HEL.out i hlx
        obtain ⟨e0, e1, e2, e3, v4, v5, v6, e4, e5, e6, hpi⟩ := lies_iff.1 hli
        obtain ⟨bn, dn, bm, dm, bk, dk, rfl, rfl, rfl⟩ := hpi.form
        have hc := HI.out ks[i] (List.getElem_mem _) wr _ _ _ (hpi.kept HX.out.1)
        have e0 := kept_cell HX.out.1 e0
        have e1 := kept_cell HX.out.1 e1
        have e2 := kept_cell HX.out.1 e2
        have e3 := kept_cell HX.out.1 e3
        have e4 := kept_cell HX.out.1 e4
        have e5 := kept_cell HX.out.1 e5
        have e6 := kept_cell HX.out.1 e6
        have HXB : Hid (Below W0.heap.size W0 wr) := HX.out.1
        have HXE : Hid (∀ j (h1 : j < ks.length), j < i → Shp ks[j]) := HX.out.2
        obtain ⟨PI, hPI⟩ : ∃ PI, PI = Shp ks[i] := ⟨_, rfl⟩
        have HPI : Hid (PI = Shp ks[i]) := hPI
        rw [← hPI] at hc
        unfold agT at hc
        clear hli hpi HX hPI
        generalize (ks[i]).kind = ki at *
        generalize (ks[i]).name = ni at *
        generalize (ks[i]).n = nn at *
        generalize (ks[i]).flag = fi at *
        generalize (ks[i]).names.length = l1 at *
        generalize (ks[i]).marks.length = l2 at *
        generalize (ks[i]).kids.length = l3 at *
        go_wp2_with (go_at_call 17; refine hc.mono ?_; intro e w1 hq; obtain ⟨bb, rfl, hbb⟩ := hq.ex; have HB1 : Hid (Below W0.heap.size W0 w1) := HXB.out.trans (hq.bl.mono HXB.out.size); have HBB : Hid (bb = true → PI) := hbb; clear hq hc hbb; cases bb)
        · go_ret
          exact ShQ.no (HB0.out.trans (HB1.out.mono hz0))
        · go_roundg (lk - (i + 1))
          case measure => omega
          case rel => exact ⟨i + 1, by omega, Nat.le_refl _, by go_num, HB1.out, fun j h1 hj => by
            rcases Nat.lt_or_ge j i with h | h
            · exact HXE.out j h1 h
            · have e : j = i := by omega
              subst e
              rw [← HPI.out]; exact HBB.out (by first | trivial | rfl)⟩
      · have z1 : ¬ (i : Int) < (lk : Int) := by omega
        have HN : Hid P := HSH.out HHD.out (fun j hj => HX.out.2 j hj (by have := HLK.out; omega))
        have HXB : Hid (Below W0.heap.size W0 wr) := HX.out.1
        clear HX
        go_wp2_with fail
        go_ret
        exact ShQ.yes (HB0.out.trans (HXB.out.mono hz0)) HN.out
  by_cases c17 : k = 17
  · subst c17
    have HHD : Hid (Ty.Hd (.mk 17 nm n f ns ms ks)) := ⟨(fun h => by simp [Ty.kind] at h), (fun h => by simp [Ty.kind] at h), (fun h => by simp [Ty.kind] at h), (fun h => by simp [Ty.kind] at h), (fun h => by simp [Ty.kind] at h)⟩
    go_enter Try.func17, Try.ntmps17
    go_wp2_with fail
    generalize w.alloc (.cells #[.int .i64 17, .string nm, .int .i64 n, .bool f, .slice an ln cn, .slice am lm cm, .slice ak lk ck] 27) = W0 at *
    go_loopg [5] lk (fun g u5 wr => ∃ i : Nat, i ≤ lk ∧ lk - i ≤ g ∧ u5 = .int .i64 i ∧ Hid (Below W0.heap.size W0 wr ∧ ∀ j (h1 : j < ks.length), j < i → Shp ks[j]))
    case atStart => exact ⟨0, Nat.zero_le _, Nat.le_refl _, rfl, Below.refl _ _, fun j _ hj => by omega⟩
    case round =>
      obtain ⟨i, hi, hg, rfl, HX⟩ := hrel
      have s6 := (bx7 (blk_kept HX.out.1 HX0.out)).2.2.2.2.2.2
      by_cases hlt : i < lk
      · have z1 : (i : Int) < (lk : Int) := by omega
        have z0 : (0 : Int) ≤ (i : Int) := by omega
        have hlx : i < ks.length := by rw [← HLK.out]; exact hlt
        obtain ⟨b, o, rfl, _, _, hli⟩ := HEL.out i hlx
        obtain ⟨e0, e1, e2, e3, v4, v5, v6, e4, e5, e6, hpi⟩ := lies_iff.1 hli
        obtain ⟨bn, dn, bm, dm, bk, dk, rfl, rfl, rfl⟩ := hpi.form
        have hc := HI.out ks[i] (List.getElem_mem _) wr _ _ _ (hpi.kept HX.out.1)
        have e0 := kept_cell HX.out.1 e0
        have e1 := kept_cell HX.out.1 e1
        have e2 := kept_cell HX.out.1 e2
        have e3 := kept_cell HX.out.1 e3
        have e4 := kept_cell HX.out.1 e4
        have e5 := kept_cell HX.out.1 e5
        have e6 := kept_cell HX.out.1 e6
        have HXB : Hid (Below W0.heap.size W0 wr) := HX.out.1
        have HXE : Hid (∀ j (h1 : j < ks.length), j < i → Shp ks[j]) := HX.out.2
        obtain ⟨PI, hPI⟩ : ∃ PI, PI = Shp ks[i] := ⟨_, rfl⟩
        have HPI : Hid (PI = Shp ks[i]) := hPI
        rw [← hPI] at hc
        unfold agT at hc
        clear hli hpi HX hPI
        generalize (ks[i]).kind = ki at *
        generalize (ks[i]).name = ni at *
        generalize (ks[i]).n = nn at *
        generalize (ks[i]).flag = fi at *
        generalize (ks[i]).names.length = l1 at *
        generalize (ks[i]).marks.length = l2 at *
        generalize (ks[i]).kids.length = l3 at *
        go_wp2_with (go_at_call 17; refine hc.mono ?_; intro e w1 hq; obtain ⟨bb, rfl, hbb⟩ := hq.ex; have HB1 : Hid (Below W0.heap.size W0 w1) := HXB.out.trans (hq.bl.mono HXB.out.size); have HBB : Hid (bb = true → PI) := hbb; clear hq hc hbb; cases bb)
        · go_ret
          exact ShQ.no (HB0.out.trans (HB1.out.mono hz0))
        · go_roundg (lk - (i + 1))
          case measure => omega
          case rel => exact ⟨i + 1, by omega, Nat.le_refl _, by go_num, HB1.out, fun j h1 hj => by
            rcases Nat.lt_or_ge j i with h | h
            · exact HXE.out j h1 h
            · have e : j = i := by omega
              subst e
              rw [← HPI.out]; exact HBB.out (by first | trivial | rfl)⟩
      · have z1 : ¬ (i : Int) < (lk : Int) := by omega
        have HN : Hid P := HSH.out HHD.out (fun j hj => HX.out.2 j hj (by have := HLK.out; omega))
        have HXB : Hid (Below W0.heap.size W0 wr) := HX.out.1
        clear HX
        go_wp2_with fail
        go_ret
        exact ShQ.yes (HB0.out.trans (HXB.out.mono hz0)) HN.out
  by_cases h1 : lk = 0
  · subst h1
    have HHD : Hid (Ty.Hd (.mk k nm n f ns ms ks)) := ⟨(fun h => by simp [Ty.kind] at h; omega), (fun h => absurd h c13), (fun h => absurd h c14), (fun h => absurd h c15), (fun _ => List.eq_nil_of_length_eq_zero HLK.out.symm)⟩
    go_enter Try.func17, Try.ntmps17
    go_wp2_with fail
    generalize w.alloc (.cells #[.int .i64 k, .string nm, .int .i64 n, .bool f, .slice an ln cn, .slice am lm cm, .slice ak 0 ck] 27) = W0 at *
    go_loopg [5] 0 (fun g u5 wr => u5 = .int .i64 0 ∧ wr = W0)
    case atStart => exact ⟨rfl, rfl⟩
    case round =>
      obtain ⟨rfl, hw⟩ := hrel
      obtain rfl := hw.symm
      clear hw
      have HN : Hid P := HSH.out HHD.out (fun j hj => by have := HLK.out; omega)
      go_wp2_with fail
      go_ret
      exact ShQ.yes HB0.out HN.out
  · have k1 := nat_bne (b := 0) h1
    go_enter Try.func17, Try.ntmps17
    go_wp2_with fail
    go_ret
    exact ShQ.no HB0.out
end Go.Proofs.Ytpcpncgigdebiaa

/-
  recastlaw8.in, walked.
-/
namespace Go.Proofs.Ytpcpncgigdebiaa
open Go.RowKit
attribute [local go_sem ↓] Go.wp_at_zero Go.wp_at_succ
/-- is a type looked at? -/
def Lkd (x : Ty) : Prop := x.tsz 120 ≤ 120 ∧ Shp x
set_option maxRecDepth 100000 in
set_option maxHeartbeats 4000000 in
theorem in_any {B : BQ} {w : World} {a : Option Addr} {lk ck : Nat} {ks : List Ty} (h : SlT B w (.slice a lk ck) ks) : Calls Try.prog 5 #[.slice a lk ck] w (ShQ w (∀ x ∈ ks, Lkd x)) := by
  obtain ⟨a0, c0, e0, hlen, hel⟩ := h.open
  obtain ⟨rfl, hq9, rfl⟩ : a = a0 ∧ lk = ks.length ∧ ck = c0 := by simpa using e0
  have HLK : Hid (lk = ks.length) := hq9
  have hlen : (lk : Int) ≤ 9223372036854775807 := by rw [hq9]; exact hlen
  have HEL : Hid (∀ i (hi : i < ks.length), ∃ b o, a = some ⟨b, o, none⟩ ∧ b < w.heap.size ∧ B b ∧ (ks[i]).lies B w b (o + i * 7)) := hel
  obtain ⟨P, hP⟩ : ∃ P, P = ∀ x ∈ ks, Lkd x := ⟨_, rfl⟩
  rw [← hP]
  have HP : Hid ((∀ j (h : j < ks.length), Lkd ks[j]) → P) := fun h2 => by
    rw [hP]; intro x hx
    obtain ⟨j, hj, rfl⟩ := List.getElem_of_mem hx
    exact h2 j hj
  clear h e0 hel hq9 hP
  go_enter Try.func5, Try.ntmps5
  go_wp2_with fail
  go_loopg [3] lk (fun g u3 wr => ∃ i : Nat, i ≤ lk ∧ lk - i ≤ g ∧ u3 = .int .i64 i ∧ Hid (Below w.heap.size w wr ∧ ∀ j (h1 : j < ks.length), j < i → Lkd ks[j]))
  case atStart => exact ⟨0, Nat.zero_le _, Nat.le_refl _, rfl, Below.refl _ _, fun j _ hj => by omega⟩
  case round =>
    obtain ⟨i, hi, hg, rfl, HX⟩ := hrel
    by_cases hlt : i < lk
    · have z1 : (i : Int) < (lk : Int) := by omega
      have z0 : (0 : Int) ≤ (i : Int) := by omega
      have hlx : i < ks.length := by rw [← HLK.out]; exact hlt
      obtain ⟨b, o, rfl, _, _, hli⟩ := HEL.out i hlx
      obtain ⟨e0, e1, e2, e3, v4, v5, v6, e4, e5, e6, hpi⟩ := lies_iff.1 hli
      obtain ⟨bn, dn, bm, dm, bk, dk, rfl, rfl, rfl⟩ := hpi.form
      have hc := tsz_any B ks[i] 120 (by omega) (by omega) wr _ _ _ (hpi.kept HX.out.1)
      have HC2 : Hid (∀ W, Below w.heap.size w W → Calls Try.prog 17 #[agT ks[i] (.slice bn (ks[i]).names.length dn) (.slice bm (ks[i]).marks.length dm) (.slice bk (ks[i]).kids.length dk)] W (ShQ W (Shp ks[i]))) := fun W h => shaped_any B ks[i] W _ _ _ (hpi.kept h)
      have HKP : Hid (∀ W, Below w.heap.size w W → W.cell? ⟨b, o + i * 7, none⟩ = some (.int .i64 (ks[i]).kind) ∧ W.cell? ⟨b, o + i * 7 + 1, none⟩ = some (.string (ks[i]).name) ∧ W.cell? ⟨b, o + i * 7 + 2, none⟩ = some (.int .i64 (ks[i]).n) ∧ W.cell? ⟨b, o + i * 7 + 3, none⟩ = some (.bool (ks[i]).flag) ∧ W.cell? ⟨b, o + i * 7 + 4, none⟩ = some (.slice bn (ks[i]).names.length dn) ∧ W.cell? ⟨b, o + i * 7 + 5, none⟩ = some (.slice bm (ks[i]).marks.length dm) ∧ W.cell? ⟨b, o + i * 7 + 6, none⟩ = some (.slice bk (ks[i]).kids.length dk)) := fun W h => ⟨kept_cell h e0, kept_cell h e1, kept_cell h e2, kept_cell h e3, kept_cell h e4, kept_cell h e5, kept_cell h e6⟩
      have HXB : Hid (Below w.heap.size w wr) := HX.out.1
      have HXE : Hid (∀ j (h1 : j < ks.length), j < i → Lkd ks[j]) := HX.out.2
      obtain ⟨PI, hPI⟩ : ∃ PI, PI = Shp ks[i] := ⟨_, rfl⟩
      obtain ⟨ts, hts⟩ : ∃ ts, ts = (ks[i]).tsz 120 := ⟨_, rfl⟩
      have HPI : Hid (PI → ts ≤ 120 → Lkd ks[i]) := fun h1 h2 => ⟨by rw [← hts]; exact h2, by rw [← hPI]; exact h1⟩
      rw [← hPI] at HC2
      rw [← hts] at hc
      unfold agT at hc HC2
      clear hli hpi HX hPI hts e0 e1 e2 e3 e4 e5 e6
      obtain ⟨e0, e1, e2, e3, e4, e5, e6⟩ := HKP.out wr HXB.out
      generalize (ks[i]).kind = ki at *
      generalize (ks[i]).name = ni at *
      generalize (ks[i]).n = nn at *
      generalize (ks[i]).flag = fi at *
      generalize (ks[i]).names.length = l1 at *
      generalize (ks[i]).marks.length = l2 at *
      generalize (ks[i]).kids.length = l3 at *
      by_cases h120 : ts ≤ 120
      · have k120 : ¬ (120 : Int) < ts := by omega
        go_wp2_with (first
          | (go_at_call 16; refine hc.mono ?_; rintro e w1 ⟨rfl, hb1⟩; have HB1 : Hid (Below w.heap.size w w1) := HXB.out.trans (hb1.mono HXB.out.size); clear hb1 hc e0 e1 e2 e3 e4 e5 e6; obtain ⟨e0, e1, e2, e3, e4, e5, e6⟩ := HKP.out w1 HB1.out; have hc2 := HC2.out w1 HB1.out)
          | (go_at_call 17; refine hc2.mono ?_; intro e w2 hq; obtain ⟨bb, rfl, hbb⟩ := hq.ex; have HB2 : Hid (Below w.heap.size w w2) := HB1.out.trans (hq.bl.mono HB1.out.size); have HBB : Hid (bb = true → PI) := hbb; clear hq hc2 hbb; cases bb))
        · go_ret
          exact ShQ.no HB2.out
        · go_roundg (lk - (i + 1))
          case measure => omega
          case rel => exact ⟨i + 1, by omega, Nat.le_refl _, by go_num, HB2.out, fun j h1 hj => by
            rcases Nat.lt_or_ge j i with h | h
            · exact HXE.out j h1 h
            · have e : j = i := by omega
              subst e
              exact HPI.out (HBB.out (by first | trivial | rfl)) h120⟩
      · have k120 : (120 : Int) < ts := by omega
        go_wp2_with (go_at_call 16; refine hc.mono ?_; rintro e w1 ⟨rfl, hb1⟩; have HB1 : Hid (Below w.heap.size w w1) := HXB.out.trans (hb1.mono HXB.out.size); clear hb1 hc)
        go_ret
        exact ShQ.no HB1.out
    · have z1 : ¬ (i : Int) < (lk : Int) := by omega
      have HN : Hid P := HP.out (fun j hj => HX.out.2 j hj (by have := HLK.out; omega))
      have HXB : Hid (Below w.heap.size w wr) := HX.out.1
      clear HX
      go_wp2_with fail
      go_ret
      exact ShQ.yes HXB.out HN.out
end Go.Proofs.Ytpcpncgigdebiaa

/-
  recastlaw8.world, walked.
-/
namespace Go.Proofs.Ytpcpncgigdebiaa
open Go.RowKit
attribute [local go_sem ↓] Go.wp_at_zero Go.wp_at_succ
/-- is a declared type looked at? -/
def OkN (t : Nmd) : Prop := t.under.tsz 120 ≤ 120 ∧ ∀ m ∈ t.mths, m.sig.tsz 120 ≤ 120
set_option maxRecDepth 100000 in
set_option maxHeartbeats 16000000 in
theorem world_any {B : BQ} {w : World} {v : Value} {l : List Nmd} (h : SlN B w v l) : Calls Try.prog 4 #[v] w (ShQ w (l.length ≤ 120 ∧ ∀ t ∈ l, OkN t)) := by
  obtain ⟨a, c, rfl, hlen, hel⟩ := h.open
  have HEL : Hid (∀ i (hi : i < l.length), ∃ b o, a = some ⟨b, o, none⟩ ∧ b < w.heap.size ∧ B b ∧ (l[i]).lies B w b (o + i * 9)) := hel
  obtain ⟨P, hP⟩ : ∃ P, P = (l.length ≤ 120 ∧ ∀ t ∈ l, OkN t) := ⟨_, rfl⟩
  rw [← hP]
  have HP : Hid ((l.length : Int) ≤ 120 → (∀ j (h : j < l.length), OkN l[j]) → P) := fun h1 h2 => by
    rw [hP]
    refine ⟨by omega, fun x hx => ?_⟩
    obtain ⟨j, hj, rfl⟩ := List.getElem_of_mem hx
    exact h2 j hj
  clear h hel hP
  go_enter Try.func4, Try.ntmps4
  go_wp2_with fail
  go_loopg [3, 4] l.length (fun g u3 u4 wr => ∃ (i : Nat) (n : Int), i ≤ l.length ∧ l.length - i ≤ g ∧ u3 = .int .i64 n ∧ u4 = .int .i64 i ∧ (l.length : Int) ≤ n ∧ Hid (Below w.heap.size w wr ∧ (n ≤ 120 → ∀ j (h1 : j < l.length), j < i → OkN l[j]))
  )
  case atStart => exact ⟨0, l.length, Nat.zero_le _, Nat.le_refl _, rfl, rfl, Int.le_refl _, Below.refl _ _, fun _ j _ hj => by omega⟩
  case round =>
    obtain ⟨i, n, hi, hg, rfl, rfl, hn, HX⟩ := hrel
    by_cases hlt : i < l.length
    · have z1 : (i : Int) < (l.length : Int) := by omega
      have z0 : (0 : Int) ≤ (i : Int) := by omega
      by_cases hn2 : n ≤ 120
      · obtain ⟨b, o, rfl, _, _, hli⟩ := HEL.out i hlt
        obtain ⟨_, hun, xs, k8, hms⟩ := hli
        obtain ⟨k1, k2, k3, k4, xn, xm, xk, k5, k6, k7, hpr⟩ := lies_iff.1 hun
        obtain ⟨a1, c1, a2, c2, a3, c3, rfl, rfl, rfl⟩ := hpr.form
        obtain ⟨sa, sc, rfl, hsl8, hsx⟩ := hms.open
        have HKP : Hid (∀ W, Below w.heap.size w W → W.cell? ⟨b, o + i * 9 + 1, none⟩ = some (.int .i64 (l[i]).under.kind) ∧ W.cell? ⟨b, o + i * 9 + 2, none⟩ = some (.string (l[i]).under.name) ∧ W.cell? ⟨b, o + i * 9 + 3, none⟩ = some (.int .i64 (l[i]).under.n) ∧ W.cell? ⟨b, o + i * 9 + 4, none⟩ = some (.bool (l[i]).under.flag) ∧ W.cell? ⟨b, o + i * 9 + 5, none⟩ = some (.slice a1 (l[i]).under.names.length c1) ∧ W.cell? ⟨b, o + i * 9 + 6, none⟩ = some (.slice a2 (l[i]).under.marks.length c2) ∧ W.cell? ⟨b, o + i * 9 + 7, none⟩ = some (.slice a3 (l[i]).under.kids.length c3) ∧ W.cell? ⟨b, o + i * 9 + 8, none⟩ = some (.slice sa (l[i]).mths.length sc)) := fun W h => ⟨kept_cell h k1, kept_cell h k2, kept_cell h k3, kept_cell h k4, kept_cell h k5, kept_cell h k6, kept_cell h k7, kept_cell h k8⟩
        have HSX : Hid (∀ j (hj : j < (l[i]).mths.length), ∃ b o, sa = some ⟨b, o, none⟩ ∧ b < w.heap.size ∧ ((l[i]).mths[j]).lies B w b (o + j * 9)) := hsx
        have hc := tsz_any B (l[i]).under 120 (by omega) (by omega) wr _ _ _ (hpr.kept HX.out.1)
        have HC2 : Hid (∀ W, Below w.heap.size w W → Calls Try.prog 17 #[agT (l[i]).under (.slice a1 (l[i]).under.names.length c1) (.slice a2 (l[i]).under.marks.length c2) (.slice a3 (l[i]).under.kids.length c3)] W (ShQ W (Shp (l[i]).under))) := fun W h => shaped_any B (l[i]).under W _ _ _ (hpr.kept h)
        have HXB : Hid (Below w.heap.size w wr) := HX.out.1
        have HXE : Hid (∀ j (h1 : j < l.length), j < i → OkN l[j]) := HX.out.2 hn2
        have hle := tsz_le (l[i]).under 120 (by omega)
        have HUT : Hid ((l[i]).under.tsz 120 ≤ 120 → (∀ j (hj : j < (l[i]).mths.length), ((l[i]).mths[j]).sig.tsz 120 ≤ 120) → ∀ j (h1 : j < l.length), j < i + 1 → OkN l[j]) := fun h1 h2 j hj hji => by
          by_cases e : j = i
          · subst e
            refine ⟨h1, fun m hm => ?_⟩
            obtain ⟨q, hq, rfl⟩ := List.getElem_of_mem hm
            exact h2 q hq
          · exact HXE.out j hj (by omega)
        have HKEEP : Hid (∀ j (h1 : j < l.length), j < i → OkN l[j]) := HXE.out
        unfold agT at hc HC2
        clear hun hpr hms k1 k2 k3 k4 k5 k6 k7 k8 hsx HX
        obtain ⟨e1, e2, e3, e4, e5, e6, e7, e8⟩ := HKP.out wr HXB.out
        have hmb : ((l[i]).mths.length : Int) ≤ 9223372036854775807 := hsl8
        have hn0 : (0 : Int) ≤ n := by omega
        generalize (l[i]).under.tsz 120 = ts at *
        by_cases h120 : n + ts ≤ 120
        · have k120 : ¬ (120 : Int) < n + ts := by omega
          go_wp2_with (first
            | (go_at_call 16; refine hc.mono ?_; rintro e w1 ⟨rfl, hb1⟩; have HB1 : Hid (Below w.heap.size w w1) := HXB.out.trans (hb1.mono HXB.out.size); clear hb1 hc e1 e2 e3 e4 e5 e6 e7 e8; obtain ⟨e1, e2, e3, e4, e5, e6, e7, e8⟩ := HKP.out w1 HB1.out; have hc2 := HC2.out w1 HB1.out)
            | (go_at_call 17; refine hc2.mono ?_; intro e w2 hq; obtain ⟨bb, rfl, hbb⟩ := hq.ex; have HB2 : Hid (Below w.heap.size w w2) := HB1.out.trans (hq.bl.mono HB1.out.size); clear hq hc2 hbb; cases bb))
          · go_ret
            exact ShQ.no HB2.out
          · obtain ⟨wc, hwc⟩ : ∃ wc, wc = w2 := ⟨_, rfl⟩
            subst hwc
            have HN1 : Hid (ts ≤ 120) := by show ts ≤ 120; omega
            clear e1 e2 e3 e4 e5 e6 e7 e8
            go_loopg [3, 5] (l[i]).mths.length (fun g u3 u5 wr => ∃ (k : Nat) (m : Int), k ≤ (l[i]).mths.length ∧ (l[i]).mths.length - k ≤ g ∧ u3 = .int .i64 m ∧ u5 = .int .i64 k ∧ (l.length : Int) ≤ m ∧ m ≤ 120 ∧ Hid (Below w.heap.size w wr ∧ ∀ j (hj : j < (l[i]).mths.length), j < k → ((l[i]).mths[j]).sig.tsz 120 ≤ 120))
            case atStart => exact ⟨0, n + ts, Nat.zero_le _, Nat.le_refl _, by go_num, rfl, by omega, h120, HB2.out, fun j _ hj => by omega⟩
            case round =>
              obtain ⟨k, m, hk, hgk, rfl, rfl, hm1, hm2, HY⟩ := hrel
              obtain ⟨e1, e2, e3, e4, e5, e6, e7, e8⟩ := HKP.out wr HY.out.1
              by_cases hkl : k < (l[i]).mths.length
              · have y1 : (k : Int) < ((l[i]).mths.length : Int) := by omega
                have y0 : (0 : Int) ≤ (k : Int) := by omega
                obtain ⟨b2, o2, rfl, hb2, hlj⟩ := HSX.out k hkl
                obtain ⟨_, _, hsg⟩ := hlj
                obtain ⟨m1, m2, m3, m4, yn, ym, yk, m5, m6, m7, hps⟩ := lies_iff.1 hsg
                obtain ⟨d1, f1, d2, f2, d3, f3, rfl, rfl, rfl⟩ := hps.form
                have HKS : Hid (∀ W, Below w.heap.size w W → W.cell? ⟨b2, o2 + k * 9 + 2, none⟩ = some (.int .i64 ((l[i]).mths[k]).sig.kind) ∧ W.cell? ⟨b2, o2 + k * 9 + 3, none⟩ = some (.string ((l[i]).mths[k]).sig.name) ∧ W.cell? ⟨b2, o2 + k * 9 + 4, none⟩ = some (.int .i64 ((l[i]).mths[k]).sig.n) ∧ W.cell? ⟨b2, o2 + k * 9 + 5, none⟩ = some (.bool ((l[i]).mths[k]).sig.flag) ∧ W.cell? ⟨b2, o2 + k * 9 + 6, none⟩ = some (.slice d1 ((l[i]).mths[k]).sig.names.length f1) ∧ W.cell? ⟨b2, o2 + k * 9 + 7, none⟩ = some (.slice d2 ((l[i]).mths[k]).sig.marks.length f2) ∧ W.cell? ⟨b2, o2 + k * 9 + 8, none⟩ = some (.slice d3 ((l[i]).mths[k]).sig.kids.length f3)) := fun W h => ⟨kept_cell h m1, kept_cell h m2, kept_cell h m3, kept_cell h m4, kept_cell h m5, kept_cell h m6, kept_cell h m7⟩
                have hcs := tsz_any B ((l[i]).mths[k]).sig 120 (by omega) (by omega) wr _ _ _ (hps.kept HY.out.1)
                have HCS : Hid (∀ W, Below w.heap.size w W → Calls Try.prog 17 #[agT ((l[i]).mths[k]).sig (.slice d1 ((l[i]).mths[k]).sig.names.length f1) (.slice d2 ((l[i]).mths[k]).sig.marks.length f2) (.slice d3 ((l[i]).mths[k]).sig.kids.length f3)] W (ShQ W (Shp ((l[i]).mths[k]).sig))) := fun W h => shaped_any B ((l[i]).mths[k]).sig W _ _ _ (hps.kept h)
                have HYB : Hid (Below w.heap.size w wr) := HY.out.1
                have HYE : Hid (∀ j (hj : j < (l[i]).mths.length), j < k → ((l[i]).mths[j]).sig.tsz 120 ≤ 120) := HY.out.2
                have hlq := tsz_le ((l[i]).mths[k]).sig 120 (by omega)
                have HKT : Hid (((l[i]).mths[k]).sig.tsz 120 ≤ 120 → ∀ j (hj : j < (l[i]).mths.length), j < k + 1 → ((l[i]).mths[j]).sig.tsz 120 ≤ 120) := fun h j hj hjk => by
                  by_cases e : j = k
                  · subst e; exact h
                  · exact HYE.out j hj (by omega)
                unfold agT at hcs HCS
                clear hsg hps m1 m2 m3 m4 m5 m6 m7 HY
                obtain ⟨n1, n2, n3, n4, n5, n6, n7⟩ := HKS.out wr HYB.out
                have hm0 : (0 : Int) ≤ m := by omega
                generalize ((l[i]).mths[k]).sig.tsz 120 = tq at *
                by_cases hq120 : m + tq ≤ 120
                · have k121 : ¬ (120 : Int) < m + tq := by omega
                  have HN2 : Hid (tq ≤ 120) := by show tq ≤ 120; omega
                  generalize ((l[i]).mths[k]).sig.kind = kd at *
                  by_cases h13 : kd = 13
                  · subst h13
                    go_wp2_with (first
                      | (go_at_call 16; refine hcs.mono ?_; rintro e w5 ⟨rfl, hb5⟩; have HB5 : Hid (Below w.heap.size w w5) := HYB.out.trans (hb5.mono HYB.out.size); clear hb5 hcs e1 e2 e3 e4 e5 e6 e7 e8 n1 n2 n3 n4 n5 n6 n7; obtain ⟨e1, e2, e3, e4, e5, e6, e7, e8⟩ := HKP.out w5 HB5.out; obtain ⟨n1, n2, n3, n4, n5, n6, n7⟩ := HKS.out w5 HB5.out; have hcs2 := HCS.out w5 HB5.out)
                      | (go_at_call 17; refine hcs2.mono ?_; intro e w6 hq; obtain ⟨bb, rfl, hbb⟩ := hq.ex; have HB6 : Hid (Below w.heap.size w w6) := HB5.out.trans (hq.bl.mono HB5.out.size); clear hq hcs2 hbb; cases bb))
                    · go_ret
                      exact ShQ.no HB6.out
                    · go_roundg ((l[i]).mths.length - (k + 1))
                      case measure => omega
                      case rel => exact ⟨k + 1, m + tq, by omega, Nat.le_refl _, by go_num, by go_num, by omega, hq120, HB6.out, HKT.out HN2.out⟩
                  · have r13 : (kd != 13) = true := by simp [h13]
                    have r13b := int_bne h13
                    go_wp2_with (go_at_call 16; refine hcs.mono ?_; rintro e w5 ⟨rfl, hb5⟩; have HB5 : Hid (Below w.heap.size w w5) := HYB.out.trans (hb5.mono HYB.out.size); clear hb5 hcs e1 e2 e3 e4 e5 e6 e7 e8 n1 n2 n3 n4 n5 n6 n7; obtain ⟨e1, e2, e3, e4, e5, e6, e7, e8⟩ := HKP.out w5 HB5.out; obtain ⟨n1, n2, n3, n4, n5, n6, n7⟩ := HKS.out w5 HB5.out)
                    go_ret
                    exact ShQ.no HB5.out
                · have k121 : (120 : Int) < m + tq := by omega
                  go_wp2_with (go_at_call 16; refine hcs.mono ?_; rintro e w5 ⟨rfl, hb5⟩; have HB5 : Hid (Below w.heap.size w w5) := HYB.out.trans (hb5.mono HYB.out.size); clear hb5 hcs e1 e2 e3 e4 e5 e6 e7 e8 n1 n2 n3 n4 n5 n6 n7; obtain ⟨e1, e2, e3, e4, e5, e6, e7, e8⟩ := HKP.out w5 HB5.out)
                  go_ret
                  exact ShQ.no HB5.out
              · have y1 : ¬ (k : Int) < ((l[i]).mths.length : Int) := by omega
                have HYB : Hid (Below w.heap.size w wr) := HY.out.1
                have HALL : Hid (∀ j (h1 : j < l.length), j < i + 1 → OkN l[j]) := HUT.out HN1.out (fun j hj => HY.out.2 j hj (by omega))
                clear HY
                go_wp2_with fail
                go_roundg (l.length - (i + 1))
                case measure => omega
                case rel => exact ⟨i + 1, m, by omega, Nat.le_refl _, rfl, by go_num, by omega, HYB.out, fun _ => HALL.out⟩
        · have k120 : (120 : Int) < n + ts := by omega
          go_wp2_with (go_at_call 16; refine hc.mono ?_; rintro e w1 ⟨rfl, hb1⟩; have HB1 : Hid (Below w.heap.size w w1) := HXB.out.trans (hb1.mono HXB.out.size); clear hb1 hc)
          go_ret
          exact ShQ.no HB1.out
      · have z2 : ¬ n ≤ 120 := hn2
        have HXB : Hid (Below w.heap.size w wr) := HX.out.1
        clear HX
        go_wp2_with fail
        go_ret
        exact ShQ.no HXB.out
    · have z1 : ¬ (i : Int) < (l.length : Int) := by omega
      have HXB : Hid (Below w.heap.size w wr) := HX.out.1
      have HXE : Hid (n ≤ 120 → ∀ j (h1 : j < l.length), j < i → OkN l[j]) := HX.out.2
      clear HX
      by_cases hn2 : n ≤ 120
      · have HN : Hid P := HP.out (by omega) (fun j hj => HXE.out hn2 j hj (by omega))
        go_wp2_with fail
        go_ret
        exact ShQ.yes HXB.out HN.out
      · have z2 : ¬ n ≤ 120 := hn2
        go_wp2_with fail
        go_ret
        exact ShQ.no HXB.out
end Go.Proofs.Ytpcpncgigdebiaa

