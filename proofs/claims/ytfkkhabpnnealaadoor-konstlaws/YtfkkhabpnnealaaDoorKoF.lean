/-
  The document's Binary at texts, walked.
-/
import Derived.Test.YtfkkhabpnnealaaDoorKoE
namespace Go.Proofs.YtfkkhabpnnealaaDoor
open Go.RowKit
attribute [local go_sem ↓] Go.wp_at_zero Go.wp_at_succ
set_option maxRecDepth 100000 in
set_option maxHeartbeats 2000000 in
theorem rknown_2 (w : World) : Calls Tryd.prog 23 #[.int .i64 2] w fun e w' => e = .returned (.bool true) ∧ w' = w := by
  go_enter Tryd.func23, Tryd.ntmps23
  go_wp2_with fail
  go_ret
  exact ⟨rfl, rfl⟩
set_option maxRecDepth 100000 in
set_option maxHeartbeats 8000000 in
theorem rbin_2 (op : ByteArray) (E : Bool) (A : Ans) (s1 s2 : Bool) (ao : Option Addr) (n cap : Nat) (ap : Option Addr) (m capb : Nat) (t1 t2 : ByteArray) (b1 b2 : Bool) (N1 N2 : Nat) (w : World) (hs2 : t2.size ≤ 1000000)
    (heq : ∀ W, Below w.heap.size w W → Calls Tryd.prog 25 #[cnV 2 s1 ao n cap t1 b1, cnV 2 s2 ap m capb t2 b2] W fun e w' => e = .returned (.bool E) ∧ Below W.heap.size W w')
    (hcm : ∀ W, Below w.heap.size w W → Calls Tryd.prog 26 #[.string op, cnV 2 s1 ao n cap t1 b1, cnV 2 s2 ap m capb t2 b2] W (AnsQ W A)) :
    Calls Tryd.prog 10 #[.string op, cnV 2 s1 ao n cap t1 b1, cnV 2 s2 ap m capb t2 b2] w (AnsQ w (biA op 2 E A s1 N1 t1 b1 s2 N2 t2 b2)) := by
  have HEQ : Hid (∀ W, Below w.heap.size w W → Calls Tryd.prog 25 #[cnV 2 s1 ao n cap t1 b1, cnV 2 s2 ap m capb t2 b2] W fun e w' => e = .returned (.bool E) ∧ Below W.heap.size W w') := heq
  have HCM : Hid (∀ W, Below w.heap.size w W → Calls Tryd.prog 26 #[.string op, cnV 2 s1 ao n cap t1 b1, cnV 2 s2 ap m capb t2 b2] W (AnsQ W A)) := hcm
  have HB3 : Hid (Below w.heap.size w (((w.alloc (.cells #[.int .i64 2, .bool s1, .slice ao n cap, .string t1, .bool b1] 26)).alloc (.cells #[.int .i64 2, .bool s2, .slice ap m capb, .string t2, .bool b2] 26)).alloc (.cells #[.int .i64 0, .bool false, .slice none 0 0, .string ⟨#[]⟩, .bool false] 26))) := three_below w _ _ _
  have HZ3 : Hid ((((w.alloc (.cells #[.int .i64 2, .bool s1, .slice ao n cap, .string t1, .bool b1] 26)).alloc (.cells #[.int .i64 2, .bool s2, .slice ap m capb, .string t2, .bool b2] 26)).alloc (.cells #[.int .i64 0, .bool false, .slice none 0 0, .string ⟨#[]⟩, .bool false] 26)).heap[w.heap.size + 1 + 1]? = some (.cells #[.int .i64 0, .bool false, .slice none 0 0, .string ⟨#[]⟩, .bool false] 26 (0, 0))) := three_new _ _ _
  have HS3 : Hid ((((w.alloc (.cells #[.int .i64 2, .bool s1, .slice ao n cap, .string t1, .bool b1] 26)).alloc (.cells #[.int .i64 2, .bool s2, .slice ap m capb, .string t2, .bool b2] 26)).alloc (.cells #[.int .i64 0, .bool false, .slice none 0 0, .string ⟨#[]⟩, .bool false] 26)).heap.size = w.heap.size + 3) := by show _ = _; simp
  obtain ⟨U, hU⟩ : ∃ U, biA op 2 E A s1 N1 t1 b1 s2 N2 t2 b2 = U := ⟨_, rfl⟩
  rw [hU]
  have HUU : Hid (biA op 2 E A s1 N1 t1 b1 s2 N2 t2 b2 = U) := hU
  clear hU heq hcm
  by_cases h_eq : op.toList = [61, 61]
  · have HU : Hid (U = ⟨3, false, 0, ⟨#[]⟩, E, 0⟩) := by show _ = _; rw [← HUU.out]; simp [biA, h_eq]
    clear HUU
    go_enter Tryd.func10, Tryd.ntmps10
    go_wp2_with fail
    refine (rknown_2 _).mono ?_
    rintro e y0 ⟨rfl, hy0⟩
    obtain rfl := hy0.symm
    clear hy0
    go_wp2_with fail
    refine (HEQ.out _ HB3.out).mono ?_
    rintro e x1 ⟨rfl, hb⟩
    have HBX : Hid (Below w.heap.size w x1) := HB3.out.trans (hb.mono HB3.out.size)
    have HZX : Hid (x1.heap[w.heap.size + 1 + 1]? = some (.cells #[.int .i64 0, .bool false, .slice none 0 0, .string ⟨#[]⟩, .bool false] 26 (0, 0))) := kept5 hb HZ3.out
    clear hb
    go_wp2_with fail
    refine (rbool_any E _).mono ?_
    rintro e y1 ⟨rfl, hb⟩
    have HZ : Hid (y1.heap[w.heap.size + 1 + 1]? = some (.cells #[.int .i64 0, .bool false, .slice none 0 0, .string ⟨#[]⟩, .bool false] 26 (0, 0))) := kept5 hb HZX.out
    have k5 := bx5 HZ.out
    have k5f := bx5f HZ.out
    have HB : Hid (Below w.heap.size w y1) := HBX.out.trans (hb.mono HBX.out.size)
    clear hb
    go_wp2_with fail
    have hm := set5 (a' := .int .i64 3) (b' := .bool false) (c' := .slice none 0 0) (d' := .string ⟨#[]⟩) (e' := .bool E) HZ.out
    have hb5 := below5 (B := w.heap.size + 1 + 1) (a := .int .i64 3) (b := .bool false) (c := .slice none 0 0) (d := .string ⟨#[]⟩) (e := .bool E) HB.out (by omega)
    exact bodyPost_ret (v := .tuple #[.agg #[.int .i64 3, .bool false, .slice none 0 0, .string ⟨#[]⟩, .bool E], .int .i64 0]) (res_ct rfl rfl rfl (resC hm)) rfl (by rw [HU.out]; exact ⟨⟨_, rfl, _, _, _, rfl, zero_num _ _⟩, hb5⟩)
  by_cases h_ne : op.toList = [33, 61]
  · have zz_eq : (op.toList == [61, 61]) = false := by simpa using h_eq
    have HU : Hid (U = ⟨3, false, 0, ⟨#[]⟩, !E, 0⟩) := by show _ = _; rw [← HUU.out]; simp [biA, h_ne]
    clear HUU
    go_enter Tryd.func10, Tryd.ntmps10
    go_wp2_with fail
    refine (rknown_2 _).mono ?_
    rintro e y0 ⟨rfl, hy0⟩
    obtain rfl := hy0.symm
    clear hy0
    go_wp2_with fail
    refine (HEQ.out _ HB3.out).mono ?_
    rintro e x1 ⟨rfl, hb⟩
    have HBX : Hid (Below w.heap.size w x1) := HB3.out.trans (hb.mono HB3.out.size)
    have HZX : Hid (x1.heap[w.heap.size + 1 + 1]? = some (.cells #[.int .i64 0, .bool false, .slice none 0 0, .string ⟨#[]⟩, .bool false] 26 (0, 0))) := kept5 hb HZ3.out
    clear hb
    go_wp2_with fail
    refine (rbool_any (!E) _).mono ?_
    rintro e y1 ⟨rfl, hb⟩
    have HZ : Hid (y1.heap[w.heap.size + 1 + 1]? = some (.cells #[.int .i64 0, .bool false, .slice none 0 0, .string ⟨#[]⟩, .bool false] 26 (0, 0))) := kept5 hb HZX.out
    have k5 := bx5 HZ.out
    have k5f := bx5f HZ.out
    have HB : Hid (Below w.heap.size w y1) := HBX.out.trans (hb.mono HBX.out.size)
    clear hb
    go_wp2_with fail
    have hm := set5 (a' := .int .i64 3) (b' := .bool false) (c' := .slice none 0 0) (d' := .string ⟨#[]⟩) (e' := .bool (!E)) HZ.out
    have hb5 := below5 (B := w.heap.size + 1 + 1) (a := .int .i64 3) (b := .bool false) (c := .slice none 0 0) (d := .string ⟨#[]⟩) (e := .bool (!E)) HB.out (by omega)
    exact bodyPost_ret (v := .tuple #[.agg #[.int .i64 3, .bool false, .slice none 0 0, .string ⟨#[]⟩, .bool (!E)], .int .i64 0]) (res_ct rfl rfl rfl (resC hm)) rfl (by rw [HU.out]; exact ⟨⟨_, rfl, _, _, _, rfl, zero_num _ _⟩, hb5⟩)
  by_cases h_an : op.toList = [38, 38]
  · have zz_eq : (op.toList == [61, 61]) = false := by simpa using h_eq
    have zz_ne : (op.toList == [33, 61]) = false := by simpa using h_ne
    have HU : Hid (U = noA 6) := by show _ = _; rw [← HUU.out]; simp [biA, h_an]
    clear HUU
    go_enter Tryd.func10, Tryd.ntmps10
    go_wp2_with fail
    refine (rknown_2 _).mono ?_
    rintro e y0 ⟨rfl, hy0⟩
    obtain rfl := hy0.symm
    clear hy0
    go_wp2_with fail
    exact bodyPost_ret (v := .tuple #[.agg #[.int .i64 0, .bool false, .slice none 0 0, .string ⟨#[]⟩, .bool false], .int .i64 6]) (res_ct rfl rfl rfl (resC HZ3.out)) rfl (by rw [HU.out]; exact ⟨⟨_, rfl, _, _, _, rfl, zero_num _ _⟩, HB3.out⟩)
  by_cases h_or : op.toList = [124, 124]
  · have zz_eq : (op.toList == [61, 61]) = false := by simpa using h_eq
    have zz_ne : (op.toList == [33, 61]) = false := by simpa using h_ne
    have zz_an : (op.toList == [38, 38]) = false := by simpa using h_an
    have HU : Hid (U = noA 6) := by show _ = _; rw [← HUU.out]; simp [biA, h_or]
    clear HUU
    go_enter Tryd.func10, Tryd.ntmps10
    go_wp2_with fail
    refine (rknown_2 _).mono ?_
    rintro e y0 ⟨rfl, hy0⟩
    obtain rfl := hy0.symm
    clear hy0
    go_wp2_with fail
    exact bodyPost_ret (v := .tuple #[.agg #[.int .i64 0, .bool false, .slice none 0 0, .string ⟨#[]⟩, .bool false], .int .i64 6]) (res_ct rfl rfl rfl (resC HZ3.out)) rfl (by rw [HU.out]; exact ⟨⟨_, rfl, _, _, _, rfl, zero_num _ _⟩, HB3.out⟩)
  by_cases h_lt : op.toList = [60]
  · have zz_eq : (op.toList == [61, 61]) = false := by simpa using h_eq
    have zz_ne : (op.toList == [33, 61]) = false := by simpa using h_ne
    have zz_an : (op.toList == [38, 38]) = false := by simpa using h_an
    have zz_or : (op.toList == [124, 124]) = false := by simpa using h_or
    have HU : Hid (U = A) := by show _ = _; rw [← HUU.out]; simp [biA, h_lt]
    clear HUU
    go_enter Tryd.func10, Tryd.ntmps10
    go_wp2_with fail
    refine (rknown_2 _).mono ?_
    rintro e y0 ⟨rfl, hy0⟩
    obtain rfl := hy0.symm
    clear hy0
    go_wp2_with fail
    refine (HCM.out _ HB3.out).mono ?_
    intro e x1 hq
    obtain ⟨v, rfl, aq, nq, cq, rfl, hI⟩ := hq.ex
    have HZ : Hid (x1.heap[w.heap.size + 1 + 1]? = some (.cells #[.int .i64 0, .bool false, .slice none 0 0, .string ⟨#[]⟩, .bool false] 26 (0, 0))) := kept5 hq.bl HZ3.out
    have k5 := bx5 HZ.out
    have k5f := bx5f HZ.out
    have HB : Hid (Below w.heap.size w x1) := HB3.out.trans (hq.bl.mono HB3.out.size)
    have HI : Hid (IntR x1 (w.heap.size + 3) (.agg #[.bool A.s, .slice aq nq cq]) A.s A.N) := HS3.out ▸ hI
    clear hq hI
    go_wp2_with fail
    have hm := set5 (a' := .int .i64 A.k) (b' := .bool A.s) (c' := .slice aq nq cq) (d' := .string A.t) (e' := .bool A.b) HZ.out
    have hi := HI.out.set5 (B := w.heap.size + 1 + 1) (a := .int .i64 A.k) (b := .bool A.s) (c := .slice aq nq cq) (d := .string A.t) (e := .bool A.b) (by omega)
    have hb5 := below5 (B := w.heap.size + 1 + 1) (a := .int .i64 A.k) (b := .bool A.s) (c := .slice aq nq cq) (d := .string A.t) (e := .bool A.b) HB.out (by omega)
    exact bodyPost_ret (v := .tuple #[.agg #[.int .i64 A.k, .bool A.s, .slice aq nq cq, .string A.t, .bool A.b], .int .i64 A.e]) (res_ct rfl rfl rfl (resC hm)) rfl (by rw [HU.out]; exact ⟨⟨_, rfl, _, _, _, rfl, hi.mono (base' := w.heap.size) (by omega)⟩, hb5⟩)
  by_cases h_le : op.toList = [60, 61]
  · have zz_eq : (op.toList == [61, 61]) = false := by simpa using h_eq
    have zz_ne : (op.toList == [33, 61]) = false := by simpa using h_ne
    have zz_an : (op.toList == [38, 38]) = false := by simpa using h_an
    have zz_or : (op.toList == [124, 124]) = false := by simpa using h_or
    have zz_lt : (op.toList == [60]) = false := by simpa using h_lt
    have HU : Hid (U = A) := by show _ = _; rw [← HUU.out]; simp [biA, h_le]
    clear HUU
    go_enter Tryd.func10, Tryd.ntmps10
    go_wp2_with fail
    refine (rknown_2 _).mono ?_
    rintro e y0 ⟨rfl, hy0⟩
    obtain rfl := hy0.symm
    clear hy0
    go_wp2_with fail
    refine (HCM.out _ HB3.out).mono ?_
    intro e x1 hq
    obtain ⟨v, rfl, aq, nq, cq, rfl, hI⟩ := hq.ex
    have HZ : Hid (x1.heap[w.heap.size + 1 + 1]? = some (.cells #[.int .i64 0, .bool false, .slice none 0 0, .string ⟨#[]⟩, .bool false] 26 (0, 0))) := kept5 hq.bl HZ3.out
    have k5 := bx5 HZ.out
    have k5f := bx5f HZ.out
    have HB : Hid (Below w.heap.size w x1) := HB3.out.trans (hq.bl.mono HB3.out.size)
    have HI : Hid (IntR x1 (w.heap.size + 3) (.agg #[.bool A.s, .slice aq nq cq]) A.s A.N) := HS3.out ▸ hI
    clear hq hI
    go_wp2_with fail
    have hm := set5 (a' := .int .i64 A.k) (b' := .bool A.s) (c' := .slice aq nq cq) (d' := .string A.t) (e' := .bool A.b) HZ.out
    have hi := HI.out.set5 (B := w.heap.size + 1 + 1) (a := .int .i64 A.k) (b := .bool A.s) (c := .slice aq nq cq) (d := .string A.t) (e := .bool A.b) (by omega)
    have hb5 := below5 (B := w.heap.size + 1 + 1) (a := .int .i64 A.k) (b := .bool A.s) (c := .slice aq nq cq) (d := .string A.t) (e := .bool A.b) HB.out (by omega)
    exact bodyPost_ret (v := .tuple #[.agg #[.int .i64 A.k, .bool A.s, .slice aq nq cq, .string A.t, .bool A.b], .int .i64 A.e]) (res_ct rfl rfl rfl (resC hm)) rfl (by rw [HU.out]; exact ⟨⟨_, rfl, _, _, _, rfl, hi.mono (base' := w.heap.size) (by omega)⟩, hb5⟩)
  by_cases h_gt : op.toList = [62]
  · have zz_eq : (op.toList == [61, 61]) = false := by simpa using h_eq
    have zz_ne : (op.toList == [33, 61]) = false := by simpa using h_ne
    have zz_an : (op.toList == [38, 38]) = false := by simpa using h_an
    have zz_or : (op.toList == [124, 124]) = false := by simpa using h_or
    have zz_lt : (op.toList == [60]) = false := by simpa using h_lt
    have zz_le : (op.toList == [60, 61]) = false := by simpa using h_le
    have HU : Hid (U = A) := by show _ = _; rw [← HUU.out]; simp [biA, h_gt]
    clear HUU
    go_enter Tryd.func10, Tryd.ntmps10
    go_wp2_with fail
    refine (rknown_2 _).mono ?_
    rintro e y0 ⟨rfl, hy0⟩
    obtain rfl := hy0.symm
    clear hy0
    go_wp2_with fail
    refine (HCM.out _ HB3.out).mono ?_
    intro e x1 hq
    obtain ⟨v, rfl, aq, nq, cq, rfl, hI⟩ := hq.ex
    have HZ : Hid (x1.heap[w.heap.size + 1 + 1]? = some (.cells #[.int .i64 0, .bool false, .slice none 0 0, .string ⟨#[]⟩, .bool false] 26 (0, 0))) := kept5 hq.bl HZ3.out
    have k5 := bx5 HZ.out
    have k5f := bx5f HZ.out
    have HB : Hid (Below w.heap.size w x1) := HB3.out.trans (hq.bl.mono HB3.out.size)
    have HI : Hid (IntR x1 (w.heap.size + 3) (.agg #[.bool A.s, .slice aq nq cq]) A.s A.N) := HS3.out ▸ hI
    clear hq hI
    go_wp2_with fail
    have hm := set5 (a' := .int .i64 A.k) (b' := .bool A.s) (c' := .slice aq nq cq) (d' := .string A.t) (e' := .bool A.b) HZ.out
    have hi := HI.out.set5 (B := w.heap.size + 1 + 1) (a := .int .i64 A.k) (b := .bool A.s) (c := .slice aq nq cq) (d := .string A.t) (e := .bool A.b) (by omega)
    have hb5 := below5 (B := w.heap.size + 1 + 1) (a := .int .i64 A.k) (b := .bool A.s) (c := .slice aq nq cq) (d := .string A.t) (e := .bool A.b) HB.out (by omega)
    exact bodyPost_ret (v := .tuple #[.agg #[.int .i64 A.k, .bool A.s, .slice aq nq cq, .string A.t, .bool A.b], .int .i64 A.e]) (res_ct rfl rfl rfl (resC hm)) rfl (by rw [HU.out]; exact ⟨⟨_, rfl, _, _, _, rfl, hi.mono (base' := w.heap.size) (by omega)⟩, hb5⟩)
  by_cases h_ge : op.toList = [62, 61]
  · have zz_eq : (op.toList == [61, 61]) = false := by simpa using h_eq
    have zz_ne : (op.toList == [33, 61]) = false := by simpa using h_ne
    have zz_an : (op.toList == [38, 38]) = false := by simpa using h_an
    have zz_or : (op.toList == [124, 124]) = false := by simpa using h_or
    have zz_lt : (op.toList == [60]) = false := by simpa using h_lt
    have zz_le : (op.toList == [60, 61]) = false := by simpa using h_le
    have zz_gt : (op.toList == [62]) = false := by simpa using h_gt
    have HU : Hid (U = A) := by show _ = _; rw [← HUU.out]; simp [biA, h_ge]
    clear HUU
    go_enter Tryd.func10, Tryd.ntmps10
    go_wp2_with fail
    refine (rknown_2 _).mono ?_
    rintro e y0 ⟨rfl, hy0⟩
    obtain rfl := hy0.symm
    clear hy0
    go_wp2_with fail
    refine (HCM.out _ HB3.out).mono ?_
    intro e x1 hq
    obtain ⟨v, rfl, aq, nq, cq, rfl, hI⟩ := hq.ex
    have HZ : Hid (x1.heap[w.heap.size + 1 + 1]? = some (.cells #[.int .i64 0, .bool false, .slice none 0 0, .string ⟨#[]⟩, .bool false] 26 (0, 0))) := kept5 hq.bl HZ3.out
    have k5 := bx5 HZ.out
    have k5f := bx5f HZ.out
    have HB : Hid (Below w.heap.size w x1) := HB3.out.trans (hq.bl.mono HB3.out.size)
    have HI : Hid (IntR x1 (w.heap.size + 3) (.agg #[.bool A.s, .slice aq nq cq]) A.s A.N) := HS3.out ▸ hI
    clear hq hI
    go_wp2_with fail
    have hm := set5 (a' := .int .i64 A.k) (b' := .bool A.s) (c' := .slice aq nq cq) (d' := .string A.t) (e' := .bool A.b) HZ.out
    have hi := HI.out.set5 (B := w.heap.size + 1 + 1) (a := .int .i64 A.k) (b := .bool A.s) (c := .slice aq nq cq) (d := .string A.t) (e := .bool A.b) (by omega)
    have hb5 := below5 (B := w.heap.size + 1 + 1) (a := .int .i64 A.k) (b := .bool A.s) (c := .slice aq nq cq) (d := .string A.t) (e := .bool A.b) HB.out (by omega)
    exact bodyPost_ret (v := .tuple #[.agg #[.int .i64 A.k, .bool A.s, .slice aq nq cq, .string A.t, .bool A.b], .int .i64 A.e]) (res_ct rfl rfl rfl (resC hm)) rfl (by rw [HU.out]; exact ⟨⟨_, rfl, _, _, _, rfl, hi.mono (base' := w.heap.size) (by omega)⟩, hb5⟩)
  by_cases h_ad : op.toList = [43]
  · have zz_eq : (op.toList == [61, 61]) = false := by simpa using h_eq
    have zz_ne : (op.toList == [33, 61]) = false := by simpa using h_ne
    have zz_an : (op.toList == [38, 38]) = false := by simpa using h_an
    have zz_or : (op.toList == [124, 124]) = false := by simpa using h_or
    have zz_lt : (op.toList == [60]) = false := by simpa using h_lt
    have zz_le : (op.toList == [60, 61]) = false := by simpa using h_le
    have zz_gt : (op.toList == [62]) = false := by simpa using h_gt
    have zz_ge : (op.toList == [62, 61]) = false := by simpa using h_ge
    have zw : Go.RowKit.wrap64 (65536 - (t2.size : Int)) = 65536 - (t2.size : Int) := by unfold Go.RowKit.wrap64; omega
    by_cases hb : 65536 < t1.size + t2.size
    · have zt : decide (65536 - (t2.size : Int) < (t1.size : Int)) = true := decide_eq_true (by omega)
      have zt2 : 65536 - (t2.size : Int) < (t1.size : Int) := by omega
      have HU : Hid (U = noA 2) := by show _ = _; rw [← HUU.out]; simp [biA, h_ad, hb]
      clear HUU
      go_enter Tryd.func10, Tryd.ntmps10
      go_wp2_with fail
      refine (rknown_2 _).mono ?_
      rintro e y0 ⟨rfl, hy0⟩
      obtain rfl := hy0.symm
      clear hy0
      go_wp2_with fail
      exact bodyPost_ret (v := .tuple #[.agg #[.int .i64 0, .bool false, .slice none 0 0, .string ⟨#[]⟩, .bool false], .int .i64 2]) (res_ct rfl rfl rfl (resC HZ3.out)) rfl (by rw [HU.out]; exact ⟨⟨_, rfl, _, _, _, rfl, zero_num _ _⟩, HB3.out⟩)
    have zt : decide (65536 - (t2.size : Int) < (t1.size : Int)) = false := decide_eq_false (by omega)
    have zt2 : ¬ 65536 - (t2.size : Int) < (t1.size : Int) := by omega
    have HBX := HB3
    have HZX := HZ3
    have HU : Hid (U = ⟨2, false, 0, t1 ++ t2, false, 0⟩) := by show _ = _; rw [← HUU.out]; simp [biA, h_ad, hb]
    clear HUU
    go_enter Tryd.func10, Tryd.ntmps10
    go_wp2_with fail
    refine (rknown_2 _).mono ?_
    rintro e y0 ⟨rfl, hy0⟩
    obtain rfl := hy0.symm
    clear hy0
    go_wp2_with fail
    refine (rstr_any (t1 ++ t2) _).mono ?_
    rintro e y1 ⟨rfl, hb⟩
    have HZ : Hid (y1.heap[w.heap.size + 1 + 1]? = some (.cells #[.int .i64 0, .bool false, .slice none 0 0, .string ⟨#[]⟩, .bool false] 26 (0, 0))) := kept5 hb HZX.out
    have k5 := bx5 HZ.out
    have k5f := bx5f HZ.out
    have HB : Hid (Below w.heap.size w y1) := HBX.out.trans (hb.mono HBX.out.size)
    clear hb
    go_wp2_with fail
    have hm := set5 (a' := .int .i64 2) (b' := .bool false) (c' := .slice none 0 0) (d' := .string (t1 ++ t2)) (e' := .bool false) HZ.out
    have hb5 := below5 (B := w.heap.size + 1 + 1) (a := .int .i64 2) (b := .bool false) (c := .slice none 0 0) (d := .string (t1 ++ t2)) (e := .bool false) HB.out (by omega)
    exact bodyPost_ret (v := .tuple #[.agg #[.int .i64 2, .bool false, .slice none 0 0, .string (t1 ++ t2), .bool false], .int .i64 0]) (res_ct rfl rfl rfl (resC hm)) rfl (by rw [HU.out]; exact ⟨⟨_, rfl, _, _, _, rfl, zero_num _ _⟩, hb5⟩)
  have zz_eq : (op.toList == [61, 61]) = false := by simpa using h_eq
  have zz_ne : (op.toList == [33, 61]) = false := by simpa using h_ne
  have zz_an : (op.toList == [38, 38]) = false := by simpa using h_an
  have zz_or : (op.toList == [124, 124]) = false := by simpa using h_or
  have zz_lt : (op.toList == [60]) = false := by simpa using h_lt
  have zz_le : (op.toList == [60, 61]) = false := by simpa using h_le
  have zz_gt : (op.toList == [62]) = false := by simpa using h_gt
  have zz_ge : (op.toList == [62, 61]) = false := by simpa using h_ge
  have zz_ad : (op.toList == [43]) = false := by simpa using h_ad
  have HU : Hid (U = noA 6) := by show _ = _; rw [← HUU.out]; simp [biA, h_eq, h_ne, h_an, h_or, h_lt, h_le, h_gt, h_ge, h_ad]
  clear HUU
  go_enter Tryd.func10, Tryd.ntmps10
  go_wp2_with fail
  refine (rknown_2 _).mono ?_
  rintro e y0 ⟨rfl, hy0⟩
  obtain rfl := hy0.symm
  clear hy0
  go_wp2_with fail
  exact bodyPost_ret (v := .tuple #[.agg #[.int .i64 0, .bool false, .slice none 0 0, .string ⟨#[]⟩, .bool false], .int .i64 6]) (res_ct rfl rfl rfl (resC HZ3.out)) rfl (by rw [HU.out]; exact ⟨⟨_, rfl, _, _, _, rfl, zero_num _ _⟩, HB3.out⟩)
end Go.Proofs.YtfkkhabpnnealaaDoor

