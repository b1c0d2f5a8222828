/-
  konst's Unary, walked.
-/
import Derived.Test.YtfkkhabpnnealaaGreatDoorKpC
import Derived.Test.YtfkkhabpnnealaaGreatDoorKpD
import Derived.Test.YtfkkhabpnnealaaGreatDoorKonA
import Derived.Test.YtfkkhabpnnealaaGreatDoorWlkP
namespace Go.Proofs.YtfkkhabpnnealaaGreatDoor
open Go.RowKit
attribute [local go_sem ↓] Go.wp_at_zero Go.wp_at_succ
set_option maxRecDepth 100000 in
set_option maxHeartbeats 8000000 in
theorem kunary_any (op : ByteArray) (k : Int) (s : Bool) (ao : Option Addr) (n cap : Nat) (l : List Nat) (t : ByteArray) (b : Bool) (w : World) (hl : Sl w ao n cap l) (hn : n ≤ 1000) :
    Calls Tryz.prog 6 #[.string op, cnV k s ao n cap t b] w (AnsQ w (unR op k s (vl 4294967296 l) b)) := by
  obtain ⟨q, hq⟩ : ∃ q, sgB (!s) (vl 4294967296 l) = q := ⟨_, rfl⟩
  have HNG : Hid (∀ W, Below w.heap.size w W → Calls Tryz.prog 25 #[.agg #[.bool s, .slice ao n cap]] W fun e w' => ∃ v, e = .returned v ∧ IntR w' W.heap.size v q (vl 4294967296 l) ∧ Below W.heap.size W w') := fun W hb => by
    have := neg_any s ao n cap l W (hl.below hb (Nat.le_refl _)) hn
    rwa [hq] at this
  have HB2 : Hid (Below w.heap.size w ((w.alloc (.cells #[.int .i64 k, .bool s, .slice ao n cap, .string t, .bool b] 26)).alloc (.cells #[.int .i64 0, .bool false, .slice none 0 0, .string ⟨#[]⟩, .bool false] 26))) := two_below w _ _
  have HZ2 : Hid (((w.alloc (.cells #[.int .i64 k, .bool s, .slice ao n cap, .string t, .bool b] 26)).alloc (.cells #[.int .i64 0, .bool false, .slice none 0 0, .string ⟨#[]⟩, .bool false] 26)).heap[w.heap.size + 1]? = some (.cells #[.int .i64 0, .bool false, .slice none 0 0, .string ⟨#[]⟩, .bool false] 26 (0, 0))) := two_new _ _
  have HA2 : Hid (((w.alloc (.cells #[.int .i64 k, .bool s, .slice ao n cap, .string t, .bool b] 26)).alloc (.cells #[.int .i64 0, .bool false, .slice none 0 0, .string ⟨#[]⟩, .bool false] 26)).heap[w.heap.size]? = some (.cells #[.int .i64 k, .bool s, .slice ao n cap, .string t, .bool b] 26 (0, 0))) := kept5 ((Below.refl _ _).alloc (Nat.le_refl _) _) (new_blk w _)
  have HI : Hid (∀ (ks : List Int) (U : Bool), decide (k ∈ ks) = U → ks.length ≤ 3 → Calls Tryz.prog 23 #[cnV k s ao n cap t b, .slice (some ⟨w.heap.size + 1 + 1, 0, none⟩) ks.length ks.length] (((w.alloc (.cells #[.int .i64 k, .bool s, .slice ao n cap, .string t, .bool b] 26)).alloc (.cells #[.int .i64 0, .bool false, .slice none 0 0, .string ⟨#[]⟩, .bool false] 26)).alloc (.cells (ks.map (Value.int .i64)).toArray 3)) fun e w' => e = .returned (.bool U) ∧ Below ((w.alloc (.cells #[.int .i64 k, .bool s, .slice ao n cap, .string t, .bool b] 26)).alloc (.cells #[.int .i64 0, .bool false, .slice none 0 0, .string ⟨#[]⟩, .bool false] 26)).heap.size ((w.alloc (.cells #[.int .i64 k, .bool s, .slice ao n cap, .string t, .bool b] 26)).alloc (.cells #[.int .i64 0, .bool false, .slice none 0 0, .string ⟨#[]⟩, .bool false] 26)) w') := fun ks U hu h => by
    have hz : ((w.alloc (.cells #[.int .i64 k, .bool s, .slice ao n cap, .string t, .bool b] 26)).alloc (.cells #[.int .i64 0, .bool false, .slice none 0 0, .string ⟨#[]⟩, .bool false] 26)).heap.size = w.heap.size + 1 + 1 := by simp
    have hli := lit_one ((w.alloc (.cells #[.int .i64 k, .bool s, .slice ao n cap, .string t, .bool b] 26)).alloc (.cells #[.int .i64 0, .bool false, .slice none 0 0, .string ⟨#[]⟩, .bool false] 26)) ks
    rw [hz] at hli
    have hbl := (Below.refl ((w.alloc (.cells #[.int .i64 k, .bool s, .slice ao n cap, .string t, .bool b] 26)).alloc (.cells #[.int .i64 0, .bool false, .slice none 0 0, .string ⟨#[]⟩, .bool false] 26)).heap.size ((w.alloc (.cells #[.int .i64 k, .bool s, .slice ao n cap, .string t, .bool b] 26)).alloc (.cells #[.int .i64 0, .bool false, .slice none 0 0, .string ⟨#[]⟩, .bool false] 26))).alloc (Nat.le_refl _) (.cells (ks.map (Value.int .i64)).toArray 3)
    exact (is_any ks (by omega) k s ao n cap t b _ _ hli).mono fun e w' ⟨he, hb⟩ => ⟨hu ▸ he, hbl.trans (hb.mono hbl.size)⟩
  obtain ⟨U, hU⟩ : ∃ U, unR op k s (vl 4294967296 l) b = U := ⟨_, rfl⟩
  rw [hU]
  unfold unR at hU
  rw [hq] at hU
  clear hl hn hq
  by_cases h1 : op.toList = [45]
  · have z3 : (op.toList == [33]) = false := by rw [h1]; rfl
    by_cases k1 : k = 1
    · have HU : Hid (U = ⟨1, q, vl 4294967296 l, ⟨#[]⟩, false, 0⟩) := by show _ = _; rw [← hU]; simp [h1, k1]
      have HD : Hid (decide (k ∈ [1]) = true) := by show _ = _; simp [k1]
      clear hU k1
      go_enter Tryz.func6, Tryz.ntmps6
      go_wp2_with fail
      refine (HI.out [1] true HD.out (by decide)).mono ?_
      rintro e x1 ⟨rfl, hb⟩
      have HZ : Hid (x1.heap[w.heap.size + 1]? = some (.cells #[.int .i64 0, .bool false, .slice none 0 0, .string ⟨#[]⟩, .bool false] 26 (0, 0))) := kept5 hb HZ2.out
      have H0 : Hid (x1.heap[w.heap.size]? = some (.cells #[.int .i64 k, .bool s, .slice ao n cap, .string t, .bool b] 26 (0, 0))) := kept5 hb HA2.out
      have HB : Hid (Below w.heap.size w x1) := HB2.out.trans (hb.mono HB2.out.size)
      have HS : Hid (w.heap.size + 2 ≤ x1.heap.size) := by
        have := (Array.getElem?_eq_some_iff.1 HZ.out).1
        show _ ≤ _
        omega
      clear hb
      have a5 := bx5 H0.out
      have k5 := bx5 HZ.out
      have k5f := bx5f HZ.out
      go_wp2_with fail
      refine (HNG.out _ HB.out).mono ?_
      rintro e x2 ⟨x, rfl, hx, hb⟩
      obtain ⟨aq, m, cq, r, rfl, -, -, -, -⟩ := hx.ex
      have HZX : Hid (x2.heap[w.heap.size + 1]? = some (.cells #[.int .i64 0, .bool false, .slice none 0 0, .string ⟨#[]⟩, .bool false] 26 (0, 0))) := kept5 hb HZ.out
      have HBX : Hid (Below w.heap.size w x2) := HB.out.trans (hb.mono HB.out.size)
      have HX : Hid (IntR x2 (w.heap.size + 2) (.agg #[.bool q, .slice aq m cq]) q (vl 4294967296 l)) := hx.mono HS.out
      clear hx hb a5 k5 k5f
      go_wp2_with fail
      refine (knum_any q aq m cq _).mono ?_
      rintro e x3 ⟨rfl, hb⟩
      have HZY : Hid (x3.heap[w.heap.size + 1]? = some (.cells #[.int .i64 0, .bool false, .slice none 0 0, .string ⟨#[]⟩, .bool false] 26 (0, 0))) := kept5 hb HZX.out
      have HBY : Hid (Below w.heap.size w x3) := HBX.out.trans (hb.mono HBX.out.size)
      have HXY : Hid (IntR x3 (w.heap.size + 2) (.agg #[.bool q, .slice aq m cq]) q (vl 4294967296 l)) := HX.out.below hb (Nat.le_refl _)
      clear hb
      have k5 := bx5 HZY.out
      have k5f := bx5f HZY.out
      go_wp2_with fail
      have hm := set5 (a' := .int .i64 1) (b' := .bool q) (c' := .slice aq m cq) (d' := .string ⟨#[]⟩) (e' := .bool false) HZY.out
      have hb5 := below5 (B := w.heap.size + 1) (a := .int .i64 1) (b := .bool q) (c := .slice aq m cq) (d := .string ⟨#[]⟩) (e := .bool false) HBY.out (by omega)
      have hi := HXY.out.set5 (B := w.heap.size + 1) (a := .int .i64 1) (b := .bool q) (c := .slice aq m cq) (d := .string ⟨#[]⟩) (e := .bool false) (by omega)
      exact bodyPost_ret (v := .tuple #[.agg #[.int .i64 1, .bool q, .slice aq m cq, .string ⟨#[]⟩, .bool false], .int .i64 0]) (res_ct rfl rfl rfl (resC hm)) rfl (by rw [HU.out]; exact ⟨⟨_, rfl, _, _, _, rfl, hi.mono (base' := w.heap.size) (by omega)⟩, hb5⟩)
    · have HU : Hid (U = noA 6) := by show _ = _; rw [← hU]; simp [h1, k1]
      have HD : Hid (decide (k ∈ [1]) = false) := by show _ = _; simp [k1]
      clear hU k1
      go_enter Tryz.func6, Tryz.ntmps6
      go_wp2_with fail
      refine (HI.out [1] false HD.out (by decide)).mono ?_
      rintro e x1 ⟨rfl, hb⟩
      have HZ : Hid (x1.heap[w.heap.size + 1]? = some (.cells #[.int .i64 0, .bool false, .slice none 0 0, .string ⟨#[]⟩, .bool false] 26 (0, 0))) := kept5 hb HZ2.out
      have H0 : Hid (x1.heap[w.heap.size]? = some (.cells #[.int .i64 k, .bool s, .slice ao n cap, .string t, .bool b] 26 (0, 0))) := kept5 hb HA2.out
      have HB : Hid (Below w.heap.size w x1) := HB2.out.trans (hb.mono HB2.out.size)
      have HS : Hid (w.heap.size + 2 ≤ x1.heap.size) := by
        have := (Array.getElem?_eq_some_iff.1 HZ.out).1
        show _ ≤ _
        omega
      clear hb
      have a5 := bx5 H0.out
      have k5 := bx5 HZ.out
      have k5f := bx5f HZ.out
      go_wp2_with fail
      have hm := set5 (a' := .int .i64 0) (b' := .bool false) (c' := .slice none 0 0) (d' := .string ⟨#[]⟩) (e' := .bool false) HZ.out
      have hb5 := below5 (B := w.heap.size + 1) (a := .int .i64 0) (b := .bool false) (c := .slice none 0 0) (d := .string ⟨#[]⟩) (e := .bool false) HB.out (by omega)
      exact bodyPost_ret (v := .tuple #[.agg #[.int .i64 0, .bool false, .slice none 0 0, .string ⟨#[]⟩, .bool false], .int .i64 6]) (res_ct rfl rfl rfl (resC hm)) rfl (by rw [HU.out]; exact ⟨⟨_, rfl, _, _, _, rfl, zero_num _ _⟩, hb5⟩)
  have z1 : (op.toList == [45]) = false := by simpa using h1
  by_cases h3 : op.toList = [33]
  · by_cases k3 : k = 3
    · have HU : Hid (U = ⟨3, false, 0, ⟨#[]⟩, !b, 0⟩) := by show _ = _; rw [← hU]; simp [h3, k3]
      have HD : Hid (decide (k ∈ [3]) = true) := by show _ = _; simp [k3]
      clear hU k3
      go_enter Tryz.func6, Tryz.ntmps6
      go_wp2_with fail
      refine (HI.out [3] true HD.out (by decide)).mono ?_
      rintro e x1 ⟨rfl, hb⟩
      have HZ : Hid (x1.heap[w.heap.size + 1]? = some (.cells #[.int .i64 0, .bool false, .slice none 0 0, .string ⟨#[]⟩, .bool false] 26 (0, 0))) := kept5 hb HZ2.out
      have H0 : Hid (x1.heap[w.heap.size]? = some (.cells #[.int .i64 k, .bool s, .slice ao n cap, .string t, .bool b] 26 (0, 0))) := kept5 hb HA2.out
      have HB : Hid (Below w.heap.size w x1) := HB2.out.trans (hb.mono HB2.out.size)
      have HS : Hid (w.heap.size + 2 ≤ x1.heap.size) := by
        have := (Array.getElem?_eq_some_iff.1 HZ.out).1
        show _ ≤ _
        omega
      clear hb
      have a5 := bx5 H0.out
      have k5 := bx5 HZ.out
      have k5f := bx5f HZ.out
      go_wp2_with fail
      refine (kbool_any (!b) _).mono ?_
      rintro e x2 ⟨rfl, hb⟩
      have HZX : Hid (x2.heap[w.heap.size + 1]? = some (.cells #[.int .i64 0, .bool false, .slice none 0 0, .string ⟨#[]⟩, .bool false] 26 (0, 0))) := kept5 hb HZ.out
      have HBX : Hid (Below w.heap.size w x2) := HB.out.trans (hb.mono HB.out.size)
      clear hb a5 k5 k5f
      have k5 := bx5 HZX.out
      have k5f := bx5f HZX.out
      go_wp2_with fail
      have hm := set5 (a' := .int .i64 3) (b' := .bool false) (c' := .slice none 0 0) (d' := .string ⟨#[]⟩) (e' := .bool (!b)) HZX.out
      have hb5 := below5 (B := w.heap.size + 1) (a := .int .i64 3) (b := .bool false) (c := .slice none 0 0) (d := .string ⟨#[]⟩) (e := .bool (!b)) HBX.out (by omega)
      exact bodyPost_ret (v := .tuple #[.agg #[.int .i64 3, .bool false, .slice none 0 0, .string ⟨#[]⟩, .bool (!b)], .int .i64 0]) (res_ct rfl rfl rfl (resC hm)) rfl (by rw [HU.out]; exact ⟨⟨_, rfl, _, _, _, rfl, zero_num _ _⟩, hb5⟩)
    · have HU : Hid (U = noA 6) := by show _ = _; rw [← hU]; simp [h3, k3]
      have HD : Hid (decide (k ∈ [3]) = false) := by show _ = _; simp [k3]
      clear hU k3
      go_enter Tryz.func6, Tryz.ntmps6
      go_wp2_with fail
      refine (HI.out [3] false HD.out (by decide)).mono ?_
      rintro e x1 ⟨rfl, hb⟩
      have HZ : Hid (x1.heap[w.heap.size + 1]? = some (.cells #[.int .i64 0, .bool false, .slice none 0 0, .string ⟨#[]⟩, .bool false] 26 (0, 0))) := kept5 hb HZ2.out
      have H0 : Hid (x1.heap[w.heap.size]? = some (.cells #[.int .i64 k, .bool s, .slice ao n cap, .string t, .bool b] 26 (0, 0))) := kept5 hb HA2.out
      have HB : Hid (Below w.heap.size w x1) := HB2.out.trans (hb.mono HB2.out.size)
      have HS : Hid (w.heap.size + 2 ≤ x1.heap.size) := by
        have := (Array.getElem?_eq_some_iff.1 HZ.out).1
        show _ ≤ _
        omega
      clear hb
      have a5 := bx5 H0.out
      have k5 := bx5 HZ.out
      have k5f := bx5f HZ.out
      go_wp2_with fail
      have hm := set5 (a' := .int .i64 0) (b' := .bool false) (c' := .slice none 0 0) (d' := .string ⟨#[]⟩) (e' := .bool false) HZ.out
      have hb5 := below5 (B := w.heap.size + 1) (a := .int .i64 0) (b := .bool false) (c := .slice none 0 0) (d := .string ⟨#[]⟩) (e := .bool false) HB.out (by omega)
      exact bodyPost_ret (v := .tuple #[.agg #[.int .i64 0, .bool false, .slice none 0 0, .string ⟨#[]⟩, .bool false], .int .i64 6]) (res_ct rfl rfl rfl (resC hm)) rfl (by rw [HU.out]; exact ⟨⟨_, rfl, _, _, _, rfl, zero_num _ _⟩, hb5⟩)
  have z3 : (op.toList == [33]) = false := by simpa using h3
  have HU : Hid (U = noA 6) := by show _ = _; rw [← hU]; simp [h1, h3]
  clear hU
  have k5 := bx5 HZ2.out
  go_enter Tryz.func6, Tryz.ntmps6
  go_wp2_with fail
  exact bodyPost_ret (v := .tuple #[.agg #[.int .i64 0, .bool false, .slice none 0 0, .string ⟨#[]⟩, .bool false], .int .i64 6]) (res_ct rfl rfl rfl (resC HZ2.out)) rfl (by rw [HU.out]; exact ⟨⟨_, rfl, _, _, _, rfl, zero_num _ _⟩, HB2.out⟩)
end Go.Proofs.YtfkkhabpnnealaaGreatDoor

