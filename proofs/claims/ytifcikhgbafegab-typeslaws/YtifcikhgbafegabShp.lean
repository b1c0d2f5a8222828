/-
  recastlaw8.shaped and in, walked.
-/
import Derived.Test.YtifcikhgbafegabTsz
import Derived.Test.YtifcikhgbafegabTys
namespace Go.Proofs.Ytifcikhgbafegab
open Go.RowKit
attribute [local go_sem ↓] Go.wp_at_zero Go.wp_at_succ
/-- has it what its kind has? -/
structure Ty.Hd (t : Ty) : Prop where
  ptr : t.kind = 10 ∨ t.kind = 11 ∨ t.kind = 12 ∨ t.kind = 9 → t.kids.length = 1
  fn : t.kind = 13 → 0 ≤ t.n ∧ t.n ≤ t.kids.length ∧ (t.flag = true → 1 ≤ t.n ∧ ∃ x, t.kids[(t.n - 1).toNat]? = some x ∧ x.kind = 11)
  str : t.kind = 14 → t.names.length = t.kids.length ∧ t.marks.length = t.kids.length
  ifc : t.kind = 15 → t.names.length = t.kids.length ∧ ∀ x ∈ t.kids, x.kind = 13
  els : t.kind < 9 ∨ 17 < t.kind → t.kids = []
inductive Shp : Ty → Prop
  | mk (t : Ty) : t.Hd → (∀ x ∈ t.kids, Shp x) → Shp t
theorem Shp.hd {t : Ty} (h : Shp t) : t.Hd := by cases h; assumption
theorem Shp.kids {t : Ty} (h : Shp t) : ∀ x ∈ t.kids, Shp x := by cases h; assumption
structure ShQ (w : World) (P : Prop) (e : Ending) (w' : World) : Prop where
  bl : Below w.heap.size w w'
  ex : ∃ b : Bool, e = .returned (.bool b) ∧ (b = true → P)
theorem ShQ.no {w w' : World} {P : Prop} (h : Below w.heap.size w w') : ShQ w P (.returned (.bool false)) w' := ⟨h, false, rfl, fun h => by cases h⟩
theorem ShQ.yes {w w' : World} {P : Prop} (h : Below w.heap.size w w') (hp : P) : ShQ w P (.returned (.bool true)) w' := ⟨h, true, rfl, fun _ => hp⟩
set_option maxRecDepth 100000 in
set_option maxHeartbeats 8000000 in
theorem shaped_any (B : BQ) : ∀ t : Ty, ∀ (w : World) (vn vm vk : Value), Prt B w t vn vm vk → Calls Try.prog 11 #[agT t vn vm vk] w (ShQ w (Shp t)) := by
  refine Ty.ind fun k nm n f ns ms ks ih w vn vm vk hp => ?_
  have HI : Hid (∀ x ∈ ks, ∀ (w : World) (vn vm vk : Value), Prt B w x vn vm vk → Calls Try.prog 11 #[agT x vn vm vk] w (ShQ w (Shp x))) := ih
  obtain ⟨an, cn, am, cm, ak, ck, rfl, rfl, rfl⟩ := hp.form
  unfold agT
  simp only [Ty.kind, Ty.name, Ty.n, Ty.flag, Ty.names, Ty.marks, Ty.kids] at hp ⊢
  obtain ⟨lk, hlk⟩ : ∃ l, l = ks.length := ⟨_, rfl⟩
  obtain ⟨ln, hln⟩ : ∃ l, l = ns.length := ⟨_, rfl⟩
  obtain ⟨lm, hlm⟩ : ∃ l, l = ms.length := ⟨_, rfl⟩
  rw [← hlk, ← hln, ← hlm] at hp ⊢
  have HLK : Hid (lk = ks.length) := hlk
  have HLN : Hid (ln = ns.length) := hln
  have HLM : Hid (lm = ms.length) := hlm
  obtain ⟨W0, hW0⟩ : ∃ W0, W0 = w.alloc (.cells #[.int .i64 k, .string nm, .int .i64 n, .bool f, .slice an ln cn, .slice am lm cm, .slice ak lk ck] 26) := ⟨_, rfl⟩
  have hb0 : Below w.heap.size w W0 := by rw [hW0]; exact below_alloc _ _
  have HB0 : Hid (Below w.heap.size w W0) := hb0
  have hz0 := hb0.size
  obtain ⟨a0, c0, e0, hlen, hel⟩ := (hp.kept hb0).ks.open
  obtain ⟨rfl, hq9, rfl⟩ : ak = a0 ∧ lk = ks.length ∧ ck = c0 := by simpa [Ty.kids] using e0
  have HEL : Hid (∀ i (hi : i < ks.length), ∃ b o, ak = some ⟨b, o, none⟩ ∧ b < W0.heap.size ∧ B b ∧ (ks[i]).lies B W0 b (o + i * 7)) := hel
  have hlen : (lk : Int) ≤ 9223372036854775807 := by rw [hlk]; exact hlen
  have HX0 : Hid (W0.heap[w.heap.size]? = some (.cells #[.int .i64 k, .string nm, .int .i64 n, .bool f, .slice an ln cn, .slice am lm cm, .slice ak lk ck] 26 (0, 0))) := by
    show _ = _
    rw [hW0]; exact heap_new _ _
  have HSH : Hid (Ty.Hd (.mk k nm n f ns ms ks) → (∀ j (h : j < ks.length), Shp ks[j]) → Shp (.mk k nm n f ns ms ks)) := fun h1 h2 => .mk _ h1 fun x hx => by
    obtain ⟨j, hj, rfl⟩ := List.getElem_of_mem hx
    exact h2 j hj
  obtain ⟨P, hP⟩ : ∃ P, P = Shp (.mk k nm n f ns ms ks) := ⟨_, rfl⟩
  rw [← hP] at HSH ⊢
  clear hP ih hp hb0 e0 hel hlk hq9 hln hlm
  obtain ⟨s0, s1, s2, s3, s4, s5, s6⟩ := bx7 HX0.out
  subst hW0
  by_cases c10 : k = 10
  · subst c10
    by_cases h1 : lk = 1
    · subst h1
      have HHD : Hid (Ty.Hd (.mk 10 nm n f ns ms ks)) := ⟨(fun _ => HLK.out.symm), (fun h => by simp [Ty.kind] at h), (fun h => by simp [Ty.kind] at h), (fun h => by simp [Ty.kind] at h), (fun h => by simp [Ty.kind] at h)⟩
      go_enter Try.func11, Try.ntmps11
      go_wp2_with fail
      generalize w.alloc (.cells #[.int .i64 10, .string nm, .int .i64 n, .bool f, .slice an ln cn, .slice am lm cm, .slice ak 1 ck] 26) = W0 at *
      go_loopg [5] 1 (fun g u5 wr => ∃ i : Nat, i ≤ 1 ∧ 1 - i ≤ g ∧ u5 = .int .i64 i ∧ Hid (Below W0.heap.size W0 wr ∧ ∀ j (h1 : j < ks.length), j < i → Shp ks[j]))
      case atStart => exact ⟨0, Nat.zero_le _, Nat.le_refl _, rfl, Below.refl _ _, fun j _ hj => by omega⟩
      case round =>
        obtain ⟨i, hi, hg, rfl, HX⟩ := hrel
        have s6 := (bx7 (blk_kept HX.out.1 HX0.out)).2.2.2.2.2.2
        by_cases hlt : i < 1
        · have z1 : (i : Int) < (1 : Int) := by omega
          have z0 : (0 : Int) ≤ (i : Int) := by omega
          have hlx : i < ks.length := by rw [← HLK.out]; exact hlt
          obtain ⟨b, o, rfl, _, _, hli⟩ := HEL.out i hlx
          obtain ⟨e0, e1, e2, e3, v4, v5, v6, e4, e5, e6, hpi⟩ := lies_iff.1 hli
          obtain ⟨bn, dn, bm, dm, bk, dk, rfl, rfl, rfl⟩ := hpi.form
          have hc := HI.out ks[i] (List.getElem_mem _) wr _ _ _ (hpi.kept HX.out.1)
          have e0 := kept_cell HX.out.1 e0
          have e1 := kept_cell HX.out.1 e1
          have e2 := kept_cell HX.out.1 e2
          have e3 := kept_cell HX.out.1 e3
          have e4 := kept_cell HX.out.1 e4
          have e5 := kept_cell HX.out.1 e5
          have e6 := kept_cell HX.out.1 e6
          have HXB : Hid (Below W0.heap.size W0 wr) := HX.out.1
          have HXE : Hid (∀ j (h1 : j < ks.length), j < i → Shp ks[j]) := HX.out.2
          obtain ⟨PI, hPI⟩ : ∃ PI, PI = Shp ks[i] := ⟨_, rfl⟩
          have HPI : Hid (PI = Shp ks[i]) := hPI
          rw [← hPI] at hc
          unfold agT at hc
          clear hli hpi HX hPI
          generalize (ks[i]).kind = ki at *
          generalize (ks[i]).name = ni at *
          generalize (ks[i]).n = nn at *
          generalize (ks[i]).flag = fi at *
          generalize (ks[i]).names.length = l1 at *
          generalize (ks[i]).marks.length = l2 at *
          generalize (ks[i]).kids.length = l3 at *
          go_wp2_with (go_at_call 11; refine hc.mono ?_; intro e w1 hq; obtain ⟨bb, rfl, hbb⟩ := hq.ex; have HB1 : Hid (Below W0.heap.size W0 w1) := HXB.out.trans (hq.bl.mono HXB.out.size); have HBB : Hid (bb = true → PI) := hbb; clear hq hc hbb; cases bb)
          · go_ret
            exact ShQ.no (HB0.out.trans (HB1.out.mono hz0))
          · go_roundg (1 - (i + 1))
            case measure => omega
            case rel => exact ⟨i + 1, by omega, Nat.le_refl _, by go_num, HB1.out, fun j h1 hj => by
              rcases Nat.lt_or_ge j i with h | h
              · exact HXE.out j h1 h
              · have e : j = i := by omega
                subst e
                rw [← HPI.out]; exact HBB.out (by first | trivial | rfl)⟩
        · have z1 : ¬ (i : Int) < (1 : Int) := by omega
          have HN : Hid P := HSH.out HHD.out (fun j hj => HX.out.2 j hj (by have := HLK.out; omega))
          have HXB : Hid (Below W0.heap.size W0 wr) := HX.out.1
          clear HX
          go_wp2_with fail
          go_ret
          exact ShQ.yes (HB0.out.trans (HXB.out.mono hz0)) HN.out
    · have k1 := nat_bne (b := 1) h1
      go_enter Try.func11, Try.ntmps11
      go_wp2_with fail
      go_ret
      exact ShQ.no HB0.out
  by_cases c11 : k = 11
  · subst c11
    by_cases h1 : lk = 1
    · subst h1
      have HHD : Hid (Ty.Hd (.mk 11 nm n f ns ms ks)) := ⟨(fun _ => HLK.out.symm), (fun h => by simp [Ty.kind] at h), (fun h => by simp [Ty.kind] at h), (fun h => by simp [Ty.kind] at h), (fun h => by simp [Ty.kind] at h)⟩
      go_enter Try.func11, Try.ntmps11
      go_wp2_with fail
      generalize w.alloc (.cells #[.int .i64 11, .string nm, .int .i64 n, .bool f, .slice an ln cn, .slice am lm cm, .slice ak 1 ck] 26) = W0 at *
      go_loopg [5] 1 (fun g u5 wr => ∃ i : Nat, i ≤ 1 ∧ 1 - i ≤ g ∧ u5 = .int .i64 i ∧ Hid (Below W0.heap.size W0 wr ∧ ∀ j (h1 : j < ks.length), j < i → Shp ks[j]))
      case atStart => exact ⟨0, Nat.zero_le _, Nat.le_refl _, rfl, Below.refl _ _, fun j _ hj => by omega⟩
      case round =>
        obtain ⟨i, hi, hg, rfl, HX⟩ := hrel
        have s6 := (bx7 (blk_kept HX.out.1 HX0.out)).2.2.2.2.2.2
        by_cases hlt : i < 1
        · have z1 : (i : Int) < (1 : Int) := by omega
          have z0 : (0 : Int) ≤ (i : Int) := by omega
          have hlx : i < ks.length := by rw [← HLK.out]; exact hlt
          obtain ⟨b, o, rfl, _, _, hli⟩ := HEL.out i hlx
          obtain ⟨e0, e1, e2, e3, v4, v5, v6, e4, e5, e6, hpi⟩ := lies_iff.1 hli
          obtain ⟨bn, dn, bm, dm, bk, dk, rfl, rfl, rfl⟩ := hpi.form
          have hc := HI.out ks[i] (List.getElem_mem _) wr _ _ _ (hpi.kept HX.out.1)
          have e0 := kept_cell HX.out.1 e0
          have e1 := kept_cell HX.out.1 e1
          have e2 := kept_cell HX.out.1 e2
          have e3 := kept_cell HX.out.1 e3
          have e4 := kept_cell HX.out.1 e4
          have e5 := kept_cell HX.out.1 e5
          have e6 := kept_cell HX.out.1 e6
          have HXB : Hid (Below W0.heap.size W0 wr) := HX.out.1
          have HXE : Hid (∀ j (h1 : j < ks.length), j < i → Shp ks[j]) := HX.out.2
          obtain ⟨PI, hPI⟩ : ∃ PI, PI = Shp ks[i] := ⟨_, rfl⟩
          have HPI : Hid (PI = Shp ks[i]) := hPI
          rw [← hPI] at hc
          unfold agT at hc
          clear hli hpi HX hPI
          generalize (ks[i]).kind = ki at *
          generalize (ks[i]).name = ni at *
          generalize (ks[i]).n = nn at *
          generalize (ks[i]).flag = fi at *
          generalize (ks[i]).names.length = l1 at *
          generalize (ks[i]).marks.length = l2 at *
          generalize (ks[i]).kids.length = l3 at *
          go_wp2_with (go_at_call 11; refine hc.mono ?_; intro e w1 hq; obtain ⟨bb, rfl, hbb⟩ := hq.ex; have HB1 : Hid (Below W0.heap.size W0 w1) := HXB.out.trans (hq.bl.mono HXB.out.size); have HBB : Hid (bb = true → PI) := hbb; clear hq hc hbb; cases bb)
          · go_ret
            exact ShQ.no (HB0.out.trans (HB1.out.mono hz0))
          · go_roundg (1 - (i + 1))
            case measure => omega
            case rel => exact ⟨i + 1, by omega, Nat.le_refl _, by go_num, HB1.out, fun j h1 hj => by
              rcases Nat.lt_or_ge j i with h | h
              · exact HXE.out j h1 h
              · have e : j = i := by omega
                subst e
                rw [← HPI.out]; exact HBB.out (by first | trivial | rfl)⟩
        · have z1 : ¬ (i : Int) < (1 : Int) := by omega
          have HN : Hid P := HSH.out HHD.out (fun j hj => HX.out.2 j hj (by have := HLK.out; omega))
          have HXB : Hid (Below W0.heap.size W0 wr) := HX.out.1
          clear HX
          go_wp2_with fail
          go_ret
          exact ShQ.yes (HB0.out.trans (HXB.out.mono hz0)) HN.out
    · have k1 := nat_bne (b := 1) h1
      go_enter Try.func11, Try.ntmps11
      go_wp2_with fail
      go_ret
      exact ShQ.no HB0.out
  by_cases c12 : k = 12
  · subst c12
    by_cases h1 : lk = 1
    · subst h1
      have HHD : Hid (Ty.Hd (.mk 12 nm n f ns ms ks)) := ⟨(fun _ => HLK.out.symm), (fun h => by simp [Ty.kind] at h), (fun h => by simp [Ty.kind] at h), (fun h => by simp [Ty.kind] at h), (fun h => by simp [Ty.kind] at h)⟩
      go_enter Try.func11, Try.ntmps11
      go_wp2_with fail
      generalize w.alloc (.cells #[.int .i64 12, .string nm, .int .i64 n, .bool f, .slice an ln cn, .slice am lm cm, .slice ak 1 ck] 26) = W0 at *
      go_loopg [5] 1 (fun g u5 wr => ∃ i : Nat, i ≤ 1 ∧ 1 - i ≤ g ∧ u5 = .int .i64 i ∧ Hid (Below W0.heap.size W0 wr ∧ ∀ j (h1 : j < ks.length), j < i → Shp ks[j]))
      case atStart => exact ⟨0, Nat.zero_le _, Nat.le_refl _, rfl, Below.refl _ _, fun j _ hj => by omega⟩
      case round =>
        obtain ⟨i, hi, hg, rfl, HX⟩ := hrel
        have s6 := (bx7 (blk_kept HX.out.1 HX0.out)).2.2.2.2.2.2
        by_cases hlt : i < 1
        · have z1 : (i : Int) < (1 : Int) := by omega
          have z0 : (0 : Int) ≤ (i : Int) := by omega
          have hlx : i < ks.length := by rw [← HLK.out]; exact hlt
          obtain ⟨b, o, rfl, _, _, hli⟩ := HEL.out i hlx
          obtain ⟨e0, e1, e2, e3, v4, v5, v6, e4, e5, e6, hpi⟩ := lies_iff.1 hli
          obtain ⟨bn, dn, bm, dm, bk, dk, rfl, rfl, rfl⟩ := hpi.form
          have hc := HI.out ks[i] (List.getElem_mem _) wr _ _ _ (hpi.kept HX.out.1)
          have e0 := kept_cell HX.out.1 e0
          have e1 := kept_cell HX.out.1 e1
          have e2 := kept_cell HX.out.1 e2
          have e3 := kept_cell HX.out.1 e3
          have e4 := kept_cell HX.out.1 e4
          have e5 := kept_cell HX.out.1 e5
          have e6 := kept_cell HX.out.1 e6
          have HXB : Hid (Below W0.heap.size W0 wr) := HX.out.1
          have HXE : Hid (∀ j (h1 : j < ks.length), j < i → Shp ks[j]) := HX.out.2
          obtain ⟨PI, hPI⟩ : ∃ PI, PI = Shp ks[i] := ⟨_, rfl⟩
          have HPI : Hid (PI = Shp ks[i]) := hPI
          rw [← hPI] at hc
          unfold agT at hc
          clear hli hpi HX hPI
          generalize (ks[i]).kind = ki at *
          generalize (ks[i]).name = ni at *
          generalize (ks[i]).n = nn at *
          generalize (ks[i]).flag = fi at *
          generalize (ks[i]).names.length = l1 at *
          generalize (ks[i]).marks.length = l2 at *
          generalize (ks[i]).kids.length = l3 at *
          go_wp2_with (go_at_call 11; refine hc.mono ?_; intro e w1 hq; obtain ⟨bb, rfl, hbb⟩ := hq.ex; have HB1 : Hid (Below W0.heap.size W0 w1) := HXB.out.trans (hq.bl.mono HXB.out.size); have HBB : Hid (bb = true → PI) := hbb; clear hq hc hbb; cases bb)
          · go_ret
            exact ShQ.no (HB0.out.trans (HB1.out.mono hz0))
          · go_roundg (1 - (i + 1))
            case measure => omega
            case rel => exact ⟨i + 1, by omega, Nat.le_refl _, by go_num, HB1.out, fun j h1 hj => by
              rcases Nat.lt_or_ge j i with h | h
              · exact HXE.out j h1 h
              · have e : j = i := by omega
                subst e
                rw [← HPI.out]; exact HBB.out (by first | trivial | rfl)⟩
        · have z1 : ¬ (i : Int) < (1 : Int) := by omega
          have HN : Hid P := HSH.out HHD.out (fun j hj => HX.out.2 j hj (by have := HLK.out; omega))
          have HXB : Hid (Below W0.heap.size W0 wr) := HX.out.1
          clear HX
          go_wp2_with fail
          go_ret
          exact ShQ.yes (HB0.out.trans (HXB.out.mono hz0)) HN.out
    · have k1 := nat_bne (b := 1) h1
      go_enter Try.func11, Try.ntmps11
      go_wp2_with fail
      go_ret
      exact ShQ.no HB0.out
  by_cases c9 : k = 9
  · subst c9
    by_cases h1 : lk = 1
    · subst h1
      have HHD : Hid (Ty.Hd (.mk 9 nm n f ns ms ks)) := ⟨(fun _ => HLK.out.symm), (fun h => by simp [Ty.kind] at h), (fun h => by simp [Ty.kind] at h), (fun h => by simp [Ty.kind] at h), (fun h => by simp [Ty.kind] at h)⟩
      go_enter Try.func11, Try.ntmps11
      go_wp2_with fail
      generalize w.alloc (.cells #[.int .i64 9, .string nm, .int .i64 n, .bool f, .slice an ln cn, .slice am lm cm, .slice ak 1 ck] 26) = W0 at *
      go_loopg [5] 1 (fun g u5 wr => ∃ i : Nat, i ≤ 1 ∧ 1 - i ≤ g ∧ u5 = .int .i64 i ∧ Hid (Below W0.heap.size W0 wr ∧ ∀ j (h1 : j < ks.length), j < i → Shp ks[j]))
      case atStart => exact ⟨0, Nat.zero_le _, Nat.le_refl _, rfl, Below.refl _ _, fun j _ hj => by omega⟩
      case round =>
        obtain ⟨i, hi, hg, rfl, HX⟩ := hrel
        have s6 := (bx7 (blk_kept HX.out.1 HX0.out)).2.2.2.2.2.2
        by_cases hlt : i < 1
        · have z1 : (i : Int) < (1 : Int) := by omega
          have z0 : (0 : Int) ≤ (i : Int) := by omega
          have hlx : i < ks.length := by rw [← HLK.out]; exact hlt
          obtain ⟨b, o, rfl, _, _, hli⟩ := HEL.out i hlx
          obtain ⟨e0, e1, e2, e3, v4, v5, v6, e4, e5, e6, hpi⟩ := lies_iff.1 hli
          obtain ⟨bn, dn, bm, dm, bk, dk, rfl, rfl, rfl⟩ := hpi.form
          have hc := HI.out ks[i] (List.getElem_mem _) wr _ _ _ (hpi.kept HX.out.1)
          have e0 := kept_cell HX.out.1 e0
          have e1 := kept_cell HX.out.1 e1
          have e2 := kept_cell HX.out.1 e2
          have e3 := kept_cell HX.out.1 e3
          have e4 := kept_cell HX.out.1 e4
          have e5 := kept_cell HX.out.1 e5
          have e6 := kept_cell HX.out.1 e6
          have HXB : Hid (Below W0.heap.size W0 wr) := HX.out.1
          have HXE : Hid (∀ j (h1 : j < ks.length), j < i → Shp ks[j]) := HX.out.2
          obtain ⟨PI, hPI⟩ : ∃ PI, PI = Shp ks[i] := ⟨_, rfl⟩
          have HPI : Hid (PI = Shp ks[i]) := hPI
          rw [← hPI] at hc
          unfold agT at hc
          clear hli hpi HX hPI
          generalize (ks[i]).kind = ki at *
          generalize (ks[i]).name = ni at *
          generalize (ks[i]).n = nn at *
          generalize (ks[i]).flag = fi at *
          generalize (ks[i]).names.length = l1 at *
          generalize (ks[i]).marks.length = l2 at *
          generalize (ks[i]).kids.length = l3 at *
          go_wp2_with (go_at_call 11; refine hc.mono ?_; intro e w1 hq; obtain ⟨bb, rfl, hbb⟩ := hq.ex; have HB1 : Hid (Below W0.heap.size W0 w1) := HXB.out.trans (hq.bl.mono HXB.out.size); have HBB : Hid (bb = true → PI) := hbb; clear hq hc hbb; cases bb)
          · go_ret
            exact ShQ.no (HB0.out.trans (HB1.out.mono hz0))
          · go_roundg (1 - (i + 1))
            case measure => omega
            case rel => exact ⟨i + 1, by omega, Nat.le_refl _, by go_num, HB1.out, fun j h1 hj => by
              rcases Nat.lt_or_ge j i with h | h
              · exact HXE.out j h1 h
              · have e : j = i := by omega
                subst e
                rw [← HPI.out]; exact HBB.out (by first | trivial | rfl)⟩
        · have z1 : ¬ (i : Int) < (1 : Int) := by omega
          have HN : Hid P := HSH.out HHD.out (fun j hj => HX.out.2 j hj (by have := HLK.out; omega))
          have HXB : Hid (Below W0.heap.size W0 wr) := HX.out.1
          clear HX
          go_wp2_with fail
          go_ret
          exact ShQ.yes (HB0.out.trans (HXB.out.mono hz0)) HN.out
    · have k1 := nat_bne (b := 1) h1
      go_enter Try.func11, Try.ntmps11
      go_wp2_with fail
      go_ret
      exact ShQ.no HB0.out
  by_cases c13 : k = 13
  · subst c13
    by_cases h1 : n < 0
    · skip
      have k1 : n < 0 := h1
      go_enter Try.func11, Try.ntmps11
      go_wp2_with fail
      go_ret
      exact ShQ.no HB0.out
    by_cases h2 : (lk : Int) < n
    · skip
      go_enter Try.func11, Try.ntmps11
      go_wp2_with fail
      go_ret
      exact ShQ.no HB0.out
    cases f with
    | false =>
      have HHD : Hid (Ty.Hd (.mk 13 nm n false ns ms ks)) := ⟨(fun h => by simp [Ty.kind] at h), (fun _ => ⟨by simp [Ty.n]; omega, by have := HLK.out; simp [Ty.n, Ty.kids]; omega, fun h => by simp [Ty.flag] at h⟩), (fun h => by simp [Ty.kind] at h), (fun h => by simp [Ty.kind] at h), (fun h => by simp [Ty.kind] at h)⟩
      go_enter Try.func11, Try.ntmps11
      go_wp2_with fail
      generalize w.alloc (.cells #[.int .i64 13, .string nm, .int .i64 n, .bool false, .slice an ln cn, .slice am lm cm, .slice ak lk ck] 26) = W0 at *
      go_loopg [5] lk (fun g u5 wr => ∃ i : Nat, i ≤ lk ∧ lk - i ≤ g ∧ u5 = .int .i64 i ∧ Hid (Below W0.heap.size W0 wr ∧ ∀ j (h1 : j < ks.length), j < i → Shp ks[j]))
      case atStart => exact ⟨0, Nat.zero_le _, Nat.le_refl _, rfl, Below.refl _ _, fun j _ hj => by omega⟩
      case round =>
        obtain ⟨i, hi, hg, rfl, HX⟩ := hrel
        have s6 := (bx7 (blk_kept HX.out.1 HX0.out)).2.2.2.2.2.2
        by_cases hlt : i < lk
        · have z1 : (i : Int) < (lk : Int) := by omega
          have z0 : (0 : Int) ≤ (i : Int) := by omega
          have hlx : i < ks.length := by rw [← HLK.out]; exact hlt
          obtain ⟨b, o, rfl, _, _, hli⟩ := HEL.out i hlx
          obtain ⟨e0, e1, e2, e3, v4, v5, v6, e4, e5, e6, hpi⟩ := lies_iff.1 hli
          obtain ⟨bn, dn, bm, dm, bk, dk, rfl, rfl, rfl⟩ := hpi.form
          have hc := HI.out ks[i] (List.getElem_mem _) wr _ _ _ (hpi.kept HX.out.1)
          have e0 := kept_cell HX.out.1 e0
          have e1 := kept_cell HX.out.1 e1
          have e2 := kept_cell HX.out.1 e2
          have e3 := kept_cell HX.out.1 e3
          have e4 := kept_cell HX.out.1 e4
          have e5 := kept_cell HX.out.1 e5
          have e6 := kept_cell HX.out.1 e6
          have HXB : Hid (Below W0.heap.size W0 wr) := HX.out.1
          have HXE : Hid (∀ j (h1 : j < ks.length), j < i → Shp ks[j]) := HX.out.2
          obtain ⟨PI, hPI⟩ : ∃ PI, PI = Shp ks[i] := ⟨_, rfl⟩
          have HPI : Hid (PI = Shp ks[i]) := hPI
          rw [← hPI] at hc
          unfold agT at hc
          clear hli hpi HX hPI
          generalize (ks[i]).kind = ki at *
          generalize (ks[i]).name = ni at *
          generalize (ks[i]).n = nn at *
          generalize (ks[i]).flag = fi at *
          generalize (ks[i]).names.length = l1 at *
          generalize (ks[i]).marks.length = l2 at *
          generalize (ks[i]).kids.length = l3 at *
          go_wp2_with (go_at_call 11; refine hc.mono ?_; intro e w1 hq; obtain ⟨bb, rfl, hbb⟩ := hq.ex; have HB1 : Hid (Below W0.heap.size W0 w1) := HXB.out.trans (hq.bl.mono HXB.out.size); have HBB : Hid (bb = true → PI) := hbb; clear hq hc hbb; cases bb)
          · go_ret
            exact ShQ.no (HB0.out.trans (HB1.out.mono hz0))
          · go_roundg (lk - (i + 1))
            case measure => omega
            case rel => exact ⟨i + 1, by omega, Nat.le_refl _, by go_num, HB1.out, fun j h1 hj => by
              rcases Nat.lt_or_ge j i with h | h
              · exact HXE.out j h1 h
              · have e : j = i := by omega
                subst e
                rw [← HPI.out]; exact HBB.out (by first | trivial | rfl)⟩
        · have z1 : ¬ (i : Int) < (lk : Int) := by omega
          have HN : Hid P := HSH.out HHD.out (fun j hj => HX.out.2 j hj (by have := HLK.out; omega))
          have HXB : Hid (Below W0.heap.size W0 wr) := HX.out.1
          clear HX
          go_wp2_with fail
          go_ret
          exact ShQ.yes (HB0.out.trans (HXB.out.mono hz0)) HN.out
    | true =>
      by_cases h3 : n < 1
      · skip
        go_enter Try.func11, Try.ntmps11
        go_wp2_with fail
        go_ret
        exact ShQ.no HB0.out
      obtain ⟨q, rfl⟩ : ∃ q : Nat, n = (q : Int) + 1 := ⟨(n - 1).toNat, by omega⟩
      have hq : q < ks.length := by have := HLK.out; omega
      obtain ⟨b, o, rfl, hbl, hBb, hli⟩ := HEL.out q hq
      obtain ⟨e0, e1, e2, e3, v4, v5, v6, e4, e5, e6, hpi⟩ := lies_iff.1 hli
      have z0 : (0 : Int) ≤ (q : Int) := by omega
      have z1 : (q : Int) < (lk : Int) := by have := HLK.out; omega
      have kw : IntKind.i64.wrap (q : Int) = (q : Int) := by rw [IntKind.wrap_i64]; omega
      by_cases h4 : (ks[q]).kind = 11
      · have HHD : Hid (Ty.Hd (.mk 13 nm ((q : Int) + 1) true ns ms ks)) := ⟨(fun h => by simp [Ty.kind] at h), (fun _ => ⟨by simp [Ty.n]; omega, by have := HLK.out; simp [Ty.n, Ty.kids]; omega, fun _ => ⟨by simp [Ty.n]; omega, ks[q], by simp [Ty.n, Ty.kids, hq], h4⟩⟩), (fun h => by simp [Ty.kind] at h), (fun h => by simp [Ty.kind] at h), (fun h => by simp [Ty.kind] at h)⟩
        rw [h4] at e0
        clear e1 e2 e3 e4 e5 e6 hpi hli h4 hBb hbl
        go_enter Try.func11, Try.ntmps11
        go_wp2_with fail
        generalize w.alloc (.cells #[.int .i64 13, .string nm, .int .i64 ((q : Int) + 1), .bool true, .slice an ln cn, .slice am lm cm, .slice (some ⟨b, o, none⟩) lk ck] 26) = W0 at *
        go_loopg [5] lk (fun g u5 wr => ∃ i : Nat, i ≤ lk ∧ lk - i ≤ g ∧ u5 = .int .i64 i ∧ Hid (Below W0.heap.size W0 wr ∧ ∀ j (h1 : j < ks.length), j < i → Shp ks[j]))
        case atStart => exact ⟨0, Nat.zero_le _, Nat.le_refl _, rfl, Below.refl _ _, fun j _ hj => by omega⟩
        case round =>
          obtain ⟨i, hi, hg, rfl, HX⟩ := hrel
          have s6 := (bx7 (blk_kept HX.out.1 HX0.out)).2.2.2.2.2.2
          by_cases hlt : i < lk
          · have z1 : (i : Int) < (lk : Int) := by omega
            have z0 : (0 : Int) ≤ (i : Int) := by omega
            have hlx : i < ks.length := by rw [← HLK.out]; exact hlt
            obtain ⟨b2, o2, hbo, _, _, hli⟩ := HEL.out i hlx
            obtain ⟨rfl, rfl⟩ : b = b2 ∧ o = o2 := by simpa using hbo
            clear hbo
            obtain ⟨e0, e1, e2, e3, v4, v5, v6, e4, e5, e6, hpi⟩ := lies_iff.1 hli
            obtain ⟨bn, dn, bm, dm, bk, dk, rfl, rfl, rfl⟩ := hpi.form
            have hc := HI.out ks[i] (List.getElem_mem _) wr _ _ _ (hpi.kept HX.out.1)
            have e0 := kept_cell HX.out.1 e0
            have e1 := kept_cell HX.out.1 e1
            have e2 := kept_cell HX.out.1 e2
            have e3 := kept_cell HX.out.1 e3
            have e4 := kept_cell HX.out.1 e4
            have e5 := kept_cell HX.out.1 e5
            have e6 := kept_cell HX.out.1 e6
            have HXB : Hid (Below W0.heap.size W0 wr) := HX.out.1
            have HXE : Hid (∀ j (h1 : j < ks.length), j < i → Shp ks[j]) := HX.out.2
            obtain ⟨PI, hPI⟩ : ∃ PI, PI = Shp ks[i] := ⟨_, rfl⟩
            have HPI : Hid (PI = Shp ks[i]) := hPI
            rw [← hPI] at hc
            unfold agT at hc
            clear hli hpi HX hPI
            generalize (ks[i]).kind = ki at *
            generalize (ks[i]).name = ni at *
            generalize (ks[i]).n = nn at *
            generalize (ks[i]).flag = fi at *
            generalize (ks[i]).names.length = l1 at *
            generalize (ks[i]).marks.length = l2 at *
            generalize (ks[i]).kids.length = l3 at *
            go_wp2_with (go_at_call 11; refine hc.mono ?_; intro e w1 hq; obtain ⟨bb, rfl, hbb⟩ := hq.ex; have HB1 : Hid (Below W0.heap.size W0 w1) := HXB.out.trans (hq.bl.mono HXB.out.size); have HBB : Hid (bb = true → PI) := hbb; clear hq hc hbb; cases bb)
            · go_ret
              exact ShQ.no (HB0.out.trans (HB1.out.mono hz0))
            · go_roundg (lk - (i + 1))
              case measure => omega
              case rel => exact ⟨i + 1, by omega, Nat.le_refl _, by go_num, HB1.out, fun j h1 hj => by
                rcases Nat.lt_or_ge j i with h | h
                · exact HXE.out j h1 h
                · have e : j = i := by omega
                  subst e
                  rw [← HPI.out]; exact HBB.out (by first | trivial | rfl)⟩
          · have z1 : ¬ (i : Int) < (lk : Int) := by omega
            have HN : Hid P := HSH.out HHD.out (fun j hj => HX.out.2 j hj (by have := HLK.out; omega))
            have HXB : Hid (Below W0.heap.size W0 wr) := HX.out.1
            clear HX
            go_wp2_with fail
            go_ret
            exact ShQ.yes (HB0.out.trans (HXB.out.mono hz0)) HN.out
      · have k4 : ¬ (ks[q]).kind = 11 := h4
        generalize (ks[q]).kind = kq at *
        go_enter Try.func11, Try.ntmps11
        go_wp2_with fail
        go_ret
        exact ShQ.no HB0.out
  by_cases c14 : k = 14
  · subst c14
    by_cases h1 : ln = lk
    · by_cases h2 : lm = lk
      · have HHD : Hid (Ty.Hd (.mk 14 nm n f ns ms ks)) := ⟨(fun h => by simp [Ty.kind] at h), (fun h => by simp [Ty.kind] at h), (fun _ => ⟨by simp only [Ty.names, Ty.kids]; rw [← HLN.out, ← HLK.out, h1], by simp only [Ty.marks, Ty.kids]; rw [← HLM.out, ← HLK.out, h2]⟩), (fun h => by simp [Ty.kind] at h), (fun h => by simp [Ty.kind] at h)⟩
        subst h1
        subst h2
        go_enter Try.func11, Try.ntmps11
        go_wp2_with fail
        generalize w.alloc (.cells #[.int .i64 14, .string nm, .int .i64 n, .bool f, .slice an lm cn, .slice am lm cm, .slice ak lm ck] 26) = W0 at *
        go_loopg [5] lm (fun g u5 wr => ∃ i : Nat, i ≤ lm ∧ lm - i ≤ g ∧ u5 = .int .i64 i ∧ Hid (Below W0.heap.size W0 wr ∧ ∀ j (h1 : j < ks.length), j < i → Shp ks[j]))
        case atStart => exact ⟨0, Nat.zero_le _, Nat.le_refl _, rfl, Below.refl _ _, fun j _ hj => by omega⟩
        case round =>
          obtain ⟨i, hi, hg, rfl, HX⟩ := hrel
          have s6 := (bx7 (blk_kept HX.out.1 HX0.out)).2.2.2.2.2.2
          by_cases hlt : i < lm
          · have z1 : (i : Int) < (lm : Int) := by omega
            have z0 : (0 : Int) ≤ (i : Int) := by omega
            have hlx : i < ks.length := by rw [← HLK.out]; exact hlt
            obtain ⟨b, o, rfl, _, _, hli⟩ := HEL.out i hlx
            obtain ⟨e0, e1, e2, e3, v4, v5, v6, e4, e5, e6, hpi⟩ := lies_iff.1 hli
            obtain ⟨bn, dn, bm, dm, bk, dk, rfl, rfl, rfl⟩ := hpi.form
            have hc := HI.out ks[i] (List.getElem_mem _) wr _ _ _ (hpi.kept HX.out.1)
            have e0 := kept_cell HX.out.1 e0
            have e1 := kept_cell HX.out.1 e1
            have e2 := kept_cell HX.out.1 e2
            have e3 := kept_cell HX.out.1 e3
            have e4 := kept_cell HX.out.1 e4
            have e5 := kept_cell HX.out.1 e5
            have e6 := kept_cell HX.out.1 e6
            have HXB : Hid (Below W0.heap.size W0 wr) := HX.out.1
            have HXE : Hid (∀ j (h1 : j < ks.length), j < i → Shp ks[j]) := HX.out.2
            obtain ⟨PI, hPI⟩ : ∃ PI, PI = Shp ks[i] := ⟨_, rfl⟩
            have HPI : Hid (PI = Shp ks[i]) := hPI
            rw [← hPI] at hc
            unfold agT at hc
            clear hli hpi HX hPI
            generalize (ks[i]).kind = ki at *
            generalize (ks[i]).name = ni at *
            generalize (ks[i]).n = nn at *
            generalize (ks[i]).flag = fi at *
            generalize (ks[i]).names.length = l1 at *
            generalize (ks[i]).marks.length = l2 at *
            generalize (ks[i]).kids.length = l3 at *
            go_wp2_with (go_at_call 11; refine hc.mono ?_; intro e w1 hq; obtain ⟨bb, rfl, hbb⟩ := hq.ex; have HB1 : Hid (Below W0.heap.size W0 w1) := HXB.out.trans (hq.bl.mono HXB.out.size); have HBB : Hid (bb = true → PI) := hbb; clear hq hc hbb; cases bb)
            · go_ret
              exact ShQ.no (HB0.out.trans (HB1.out.mono hz0))
            · go_roundg (lm - (i + 1))
              case measure => omega
              case rel => exact ⟨i + 1, by omega, Nat.le_refl _, by go_num, HB1.out, fun j h1 hj => by
                rcases Nat.lt_or_ge j i with h | h
                · exact HXE.out j h1 h
                · have e : j = i := by omega
                  subst e
                  rw [← HPI.out]; exact HBB.out (by first | trivial | rfl)⟩
          · have z1 : ¬ (i : Int) < (lm : Int) := by omega
            have HN : Hid P := HSH.out HHD.out (fun j hj => HX.out.2 j hj (by have := HLK.out; omega))
            have HXB : Hid (Below W0.heap.size W0 wr) := HX.out.1
            clear HX
            go_wp2_with fail
            go_ret
            exact ShQ.yes (HB0.out.trans (HXB.out.mono hz0)) HN.out
      · have k2 := nat_bne h2
        subst h1
        go_enter Try.func11, Try.ntmps11
        go_wp2_with fail
        go_ret
        exact ShQ.no HB0.out
    · have k1 := nat_bne h1
      go_enter Try.func11, Try.ntmps11
      go_wp2_with fail
      go_ret
      exact ShQ.no HB0.out
  by_cases c15 : k = 15
  · subst c15
    by_cases h1 : ln = lk
    · subst h1
      go_enter Try.func11, Try.ntmps11
      go_wp2_with fail
      generalize w.alloc (.cells #[.int .i64 15, .string nm, .int .i64 n, .bool f, .slice an ln cn, .slice am lm cm, .slice ak ln ck] 26) = W0 at *
      go_loopg [4] ln (fun g u4 wr => ∃ i : Nat, i ≤ ln ∧ ln - i ≤ g ∧ u4 = .int .i64 i ∧ wr = W0 ∧ Hid (∀ j (h1 : j < ks.length), j < i → (ks[j]).kind = 13))
      case atStart => exact ⟨0, Nat.zero_le _, Nat.le_refl _, rfl, rfl, fun j _ hj => by omega⟩
      case round =>
        obtain ⟨i, hi, hg, rfl, hw, HX⟩ := hrel
        obtain rfl := hw.symm
        clear hw
        by_cases hlt : i < ln
        · have z1 : (i : Int) < (ln : Int) := by omega
          have z0 : (0 : Int) ≤ (i : Int) := by omega
          have hlx : i < ks.length := by rw [← HLK.out]; exact hlt
          obtain ⟨b, o, rfl, _, _, hli⟩ := HEL.out i hlx
          obtain ⟨e0, e1, e2, e3, v4, v5, v6, e4, e5, e6, hpi⟩ := lies_iff.1 hli
          have s6 := (bx7 HX0.out).2.2.2.2.2.2
          clear e1 e2 e3 e4 e5 e6 hpi hli
          by_cases h4 : (ks[i]).kind = 13
          · rw [h4] at e0
            have HK4 : Hid ((ks[i]).kind = 13) := h4
            clear h4
            go_wp2_with fail
            go_roundg (ln - (i + 1))
            case measure => omega
            case rel => exact ⟨i + 1, by omega, Nat.le_refl _, by go_num, rfl, fun j h1 hj => by
              rcases Nat.lt_or_ge j i with h | h
              · exact HX.out j h1 h
              · have e : j = i := by omega
                subst e; exact HK4.out⟩
          · have k4 : ¬ (ks[i]).kind = 13 := h4
            generalize (ks[i]).kind = kq at *
            go_wp2_with fail
            go_ret
            exact ShQ.no HB0.out
        · have z1 : ¬ (i : Int) < (ln : Int) := by omega
          have HHD : Hid (Ty.Hd (.mk 15 nm n f ns ms ks)) := ⟨(fun h => by simp [Ty.kind] at h), (fun h => by simp [Ty.kind] at h), (fun h => by simp [Ty.kind] at h), (fun _ => ⟨by simp [Ty.names, Ty.kids]; rw [← HLN.out, ← HLK.out], fun x hx => by
              obtain ⟨j, hj, rfl⟩ := List.getElem_of_mem hx
              exact HX.out j hj (by have := HLK.out; simp [Ty.kids] at hj; omega)⟩), (fun h => by simp [Ty.kind] at h)⟩
          clear HX
          go_wp2_with fail
          go_loopg [5] ln (fun g u5 wr => ∃ i : Nat, i ≤ ln ∧ ln - i ≤ g ∧ u5 = .int .i64 i ∧ Hid (Below W0.heap.size W0 wr ∧ ∀ j (h1 : j < ks.length), j < i → Shp ks[j]))
          case atStart => exact ⟨0, Nat.zero_le _, Nat.le_refl _, rfl, Below.refl _ _, fun j _ hj => by omega⟩
          case round =>
            obtain ⟨i, hi, hg, rfl, HX⟩ := hrel
            have s6 := (bx7 (blk_kept HX.out.1 HX0.out)).2.2.2.2.2.2
            by_cases hlt : i < ln
            · have z1 : (i : Int) < (ln : Int) := by omega
              have z0 : (0 : Int) ≤ (i : Int) := by omega
              have hlx : i < ks.length := by rw [← HLK.out]; exact hlt
              obtain ⟨b, o, rfl, _, _, hli⟩ := HEL.out i hlx
              obtain ⟨e0, e1, e2, e3, v4, v5, v6, e4, e5, e6, hpi⟩ := lies_iff.1 hli
              obtain ⟨bn, dn, bm, dm, bk, dk, rfl, rfl, rfl⟩ := hpi.form
              have hc := HI.out ks[i] (List.getElem_mem _) wr _ _ _ (hpi.kept HX.out.1)
              have e0 := kept_cell HX.out.1 e0
              have e1 := kept_cell HX.out.1 e1
              have e2 := kept_cell HX.out.1 e2
              have e3 := kept_cell HX.out.1 e3
              have e4 := kept_cell HX.out.1 e4
              have e5 := kept_cell HX.out.1 e5
              have e6 := kept_cell HX.out.1 e6
              have HXB : Hid (Below W0.heap.size W0 wr) := HX.out.1
              have HXE : Hid (∀ j (h1 : j < ks.length), j < i → Shp ks[j]) := HX.out.2
              obtain ⟨PI, hPI⟩ : ∃ PI, PI = Shp ks[i] := ⟨_, rfl⟩
              have HPI : Hid (PI = Shp ks[i]) := hPI
              rw [← hPI] at hc
              unfold agT at hc
              clear hli hpi HX hPI
              generalize (ks[i]).kind = ki at *
              generalize (ks[i]).name = ni at *
              generalize (ks[i]).n = nn at *
              generalize (ks[i]).flag = fi at *
              generalize (ks[i]).names.length = l1 at *
              generalize (ks[i]).marks.length = l2 at *
              generalize (ks[i]).kids.length = l3 at *
              go_wp2_with (go_at_call 11; refine hc.mono ?_; intro e w1 hq; obtain ⟨bb, rfl, hbb⟩ := hq.ex; have HB1 : Hid (Below W0.heap.size W0 w1) := HXB.out.trans (hq.bl.mono HXB.out.size); have HBB : Hid (bb = true → PI) := hbb; clear hq hc hbb; cases bb)
              · go_ret
                exact ShQ.no (HB0.out.trans (HB1.out.mono hz0))
              · go_roundg (ln - (i + 1))
                case measure => omega
                case rel => exact ⟨i + 1, by omega, Nat.le_refl _, by go_num, HB1.out, fun j h1 hj => by
                  rcases Nat.lt_or_ge j i with h | h
                  · exact HXE.out j h1 h
                  · have e : j = i := by omega
                    subst e
                    rw [← HPI.out]; exact HBB.out (by first | trivial | rfl)⟩
            · have z1 : ¬ (i : Int) < (ln : Int) := by omega
              have HN : Hid P := HSH.out HHD.out (fun j hj => HX.out.2 j hj (by have := HLK.out; omega))
              have HXB : Hid (Below W0.heap.size W0 wr) := HX.out.1
              clear HX
              go_wp2_with fail
              go_ret
              exact ShQ.yes (HB0.out.trans (HXB.out.mono hz0)) HN.out
    · have k1 := nat_bne h1
      go_enter Try.func11, Try.ntmps11
      go_wp2_with fail
      go_ret
      exact ShQ.no HB0.out
  by_cases c16 : k = 16
  · subst c16
    have HHD : Hid (Ty.Hd (.mk 16 nm n f ns ms ks)) := ⟨(fun h => by simp [Ty.kind] at h), (fun h => by simp [Ty.kind] at h), (fun h => by simp [Ty.kind] at h), (fun h => by simp [Ty.kind] at h), (fun h => by simp [Ty.kind] at h)⟩
    go_enter Try.func11, Try.ntmps11
    go_wp2_with fail
    generalize w.alloc (.cells #[.int .i64 16, .string nm, .int .i64 n, .bool f, .slice an ln cn, .slice am lm cm, .slice ak lk ck] 26) = W0 at *
    go_loopg [5] lk (fun g u5 wr => ∃ i : Nat, i ≤ lk ∧ lk - i ≤ g ∧ u5 = .int .i64 i ∧ Hid (Below W0.heap.size W0 wr ∧ ∀ j (h1 : j < ks.length), j < i → Shp ks[j]))
    case atStart => exact ⟨0, Nat.zero_le _, Nat.le_refl _, rfl, Below.refl _ _, fun j _ hj => by omega⟩
    case round =>
      obtain ⟨i, hi, hg, rfl, HX⟩ := hrel
      have s6 := (bx7 (blk_kept HX.out.1 HX0.out)).2.2.2.2.2.2
      by_cases hlt : i < lk
      · have z1 : (i : Int) < (lk : Int) := by omega
        have z0 : (0 : Int) ≤ (i : Int) := by omega
        have hlx : i < ks.length := by rw [← HLK.out]; exact hlt
        obtain ⟨b, o, rfl, _, _, hli⟩ := HEL.out i hlx
        obtain ⟨e0, e1, e2, e3, v4, v5, v6, e4, e5, e6, hpi⟩ := lies_iff.1 hli
        obtain ⟨bn, dn, bm, dm, bk, dk, rfl, rfl, rfl⟩ := hpi.form
        have hc := HI.out ks[i] (List.getElem_mem _) wr _ _ _ (hpi.kept HX.out.1)
        have e0 := kept_cell HX.out.1 e0
        have e1 := kept_cell HX.out.1 e1
        have e2 := kept_cell HX.out.1 e2
        have e3 := kept_cell HX.out.1 e3
        have e4 := kept_cell HX.out.1 e4
        have e5 := kept_cell HX.out.1 e5
        have e6 := kept_cell HX.out.1 e6
        have HXB : Hid (Below W0.heap.size W0 wr) := HX.out.1
        have HXE : Hid (∀ j (h1 : j < ks.length), j < i → Shp ks[j]) := HX.out.2
        obtain ⟨PI, hPI⟩ : ∃ PI, PI = Shp ks[i] := ⟨_, rfl⟩
        have HPI : Hid (PI = Shp ks[i]) := hPI
        rw [← hPI] at hc
        unfold agT at hc
        clear hli hpi HX hPI
        generalize (ks[i]).kind = ki at *
        generalize (ks[i]).name = ni at *
        generalize (ks[i]).n = nn at *
        generalize (ks[i]).flag = fi at *
        generalize (ks[i]).names.length = l1 at *
        generalize (ks[i]).marks.length = l2 at *
        generalize (ks[i]).kids.length = l3 at *
        go_wp2_with (go_at_call 11; refine hc.mono ?_; intro e w1 hq; obtain ⟨bb, rfl, hbb⟩ := hq.ex; have HB1 : Hid (Below W0.heap.size W0 w1) := HXB.out.trans (hq.bl.mono HXB.out.size); have HBB : Hid (bb = true → PI) := hbb; clear hq hc hbb; cases bb)
        · go_ret
          exact ShQ.no (HB0.out.trans (HB1.out.mono hz0))
        · go_roundg (lk - (i + 1))
          case measure => omega
          case rel => exact ⟨i + 1, by omega, Nat.le_refl _, by go_num, HB1.out, fun j h1 hj => by
            rcases Nat.lt_or_ge j i with h | h
            · exact HXE.out j h1 h
            · have e : j = i := by omega
              subst e
              rw [← HPI.out]; exact HBB.out (by first | trivial | rfl)⟩
      · have z1 : ¬ (i : Int) < (lk : Int) := by omega
        have HN : Hid P := HSH.out HHD.out (fun j hj => HX.out.2 j hj (by have := HLK.out; omega))
        have HXB : Hid (Below W0.heap.size W0 wr) := HX.out.1
        clear HX
        go_wp2_with fail
        go_ret
        exact ShQ.yes (HB0.out.trans (HXB.out.mono hz0)) HN.out
  by_cases c17 : k = 17
  · subst c17
    have HHD : Hid (Ty.Hd (.mk 17 nm n f ns ms ks)) := ⟨(fun h => by simp [Ty.kind] at h), (fun h => by simp [Ty.kind] at h), (fun h => by simp [Ty.kind] at h), (fun h => by simp [Ty.kind] at h), (fun h => by simp [Ty.kind] at h)⟩
    go_enter Try.func11, Try.ntmps11
    go_wp2_with fail
    generalize w.alloc (.cells #[.int .i64 17, .string nm, .int .i64 n, .bool f, .slice an ln cn, .slice am lm cm, .slice ak lk ck] 26) = W0 at *
    go_loopg [5] lk (fun g u5 wr => ∃ i : Nat, i ≤ lk ∧ lk - i ≤ g ∧ u5 = .int .i64 i ∧ Hid (Below W0.heap.size W0 wr ∧ ∀ j (h1 : j < ks.length), j < i → Shp ks[j]))
    case atStart => exact ⟨0, Nat.zero_le _, Nat.le_refl _, rfl, Below.refl _ _, fun j _ hj => by omega⟩
    case round =>
      obtain ⟨i, hi, hg, rfl, HX⟩ := hrel
      have s6 := (bx7 (blk_kept HX.out.1 HX0.out)).2.2.2.2.2.2
      by_cases hlt : i < lk
      · have z1 : (i : Int) < (lk : Int) := by omega
        have z0 : (0 : Int) ≤ (i : Int) := by omega
        have hlx : i < ks.length := by rw [← HLK.out]; exact hlt
        obtain ⟨b, o, rfl, _, _, hli⟩ := HEL.out i hlx
        obtain ⟨e0, e1, e2, e3, v4, v5, v6, e4, e5, e6, hpi⟩ := lies_iff.1 hli
        obtain ⟨bn, dn, bm, dm, bk, dk, rfl, rfl, rfl⟩ := hpi.form
        have hc := HI.out ks[i] (List.getElem_mem _) wr _ _ _ (hpi.kept HX.out.1)
        have e0 := kept_cell HX.out.1 e0
        have e1 := kept_cell HX.out.1 e1
        have e2 := kept_cell HX.out.1 e2
        have e3 := kept_cell HX.out.1 e3
        have e4 := kept_cell HX.out.1 e4
        have e5 := kept_cell HX.out.1 e5
        have e6 := kept_cell HX.out.1 e6
        have HXB : Hid (Below W0.heap.size W0 wr) := HX.out.1
        have HXE : Hid (∀ j (h1 : j < ks.length), j < i → Shp ks[j]) := HX.out.2
        obtain ⟨PI, hPI⟩ : ∃ PI, PI = Shp ks[i] := ⟨_, rfl⟩
        have HPI : Hid (PI = Shp ks[i]) := hPI
        rw [← hPI] at hc
        unfold agT at hc
        clear hli hpi HX hPI
        generalize (ks[i]).kind = ki at *
        generalize (ks[i]).name = ni at *
        generalize (ks[i]).n = nn at *
        generalize (ks[i]).flag = fi at *
        generalize (ks[i]).names.length = l1 at *
        generalize (ks[i]).marks.length = l2 at *
        generalize (ks[i]).kids.length = l3 at *
        go_wp2_with (go_at_call 11; refine hc.mono ?_; intro e w1 hq; obtain ⟨bb, rfl, hbb⟩ := hq.ex; have HB1 : Hid (Below W0.heap.size W0 w1) := HXB.out.trans (hq.bl.mono HXB.out.size); have HBB : Hid (bb = true → PI) := hbb; clear hq hc hbb; cases bb)
        · go_ret
          exact ShQ.no (HB0.out.trans (HB1.out.mono hz0))
        · go_roundg (lk - (i + 1))
          case measure => omega
          case rel => exact ⟨i + 1, by omega, Nat.le_refl _, by go_num, HB1.out, fun j h1 hj => by
            rcases Nat.lt_or_ge j i with h | h
            · exact HXE.out j h1 h
            · have e : j = i := by omega
              subst e
              rw [← HPI.out]; exact HBB.out (by first | trivial | rfl)⟩
      · have z1 : ¬ (i : Int) < (lk : Int) := by omega
        have HN : Hid P := HSH.out HHD.out (fun j hj => HX.out.2 j hj (by have := HLK.out; omega))
        have HXB : Hid (Below W0.heap.size W0 wr) := HX.out.1
        clear HX
        go_wp2_with fail
        go_ret
        exact ShQ.yes (HB0.out.trans (HXB.out.mono hz0)) HN.out
  by_cases h1 : lk = 0
  · subst h1
    have HHD : Hid (Ty.Hd (.mk k nm n f ns ms ks)) := ⟨(fun h => by simp [Ty.kind] at h; omega), (fun h => absurd h c13), (fun h => absurd h c14), (fun h => absurd h c15), (fun _ => List.eq_nil_of_length_eq_zero HLK.out.symm)⟩
    go_enter Try.func11, Try.ntmps11
    go_wp2_with fail
    generalize w.alloc (.cells #[.int .i64 k, .string nm, .int .i64 n, .bool f, .slice an ln cn, .slice am lm cm, .slice ak 0 ck] 26) = W0 at *
    go_loopg [5] 0 (fun g u5 wr => u5 = .int .i64 0 ∧ wr = W0)
    case atStart => exact ⟨rfl, rfl⟩
    case round =>
      obtain ⟨rfl, hw⟩ := hrel
      obtain rfl := hw.symm
      clear hw
      have HN : Hid P := HSH.out HHD.out (fun j hj => by have := HLK.out; omega)
      go_wp2_with fail
      go_ret
      exact ShQ.yes HB0.out HN.out
  · have k1 := nat_bne (b := 0) h1
    go_enter Try.func11, Try.ntmps11
    go_wp2_with fail
    go_ret
    exact ShQ.no HB0.out
end Go.Proofs.Ytifcikhgbafegab

