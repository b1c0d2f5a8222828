/-
  The document's Binary at whole numbers, walked.
-/
import Derived.Test.YtfkkhabpnnealaaDoorKoE
import Derived.Test.YtfkkhabpnnealaaDoorRefQ
import Derived.Test.YtfkkhabpnnealaaDoorRefG
import Derived.Test.YtfkkhabpnnealaaDoorRefD
namespace Go.Proofs.YtfkkhabpnnealaaDoor
open Go.RowKit
attribute [local go_sem ↓] Go.wp_at_zero Go.wp_at_succ
theorem bx2 {w : World} {B : Nat} {a b : Value} {T : TypeId} (h : w.heap[B]? = some (.cells #[a, b] T (0, 0))) : w.cell? ⟨B, 0, none⟩ = some a ∧ w.cell? ⟨B, 1, none⟩ = some b ∧ w.frozen? ⟨B, 0, none⟩ = false ∧ w.frozen? ⟨B, 1, none⟩ = false := by
  simp [World.cell?, World.frozen?, h]
theorem far2 {w : World} {B C : Nat} {a b : Value} {o : Obj} (h : w.heap[C]? = some o) (hne : C ≠ B) : ((w.setCell ⟨B, 0, none⟩ a).setCell ⟨B, 1, none⟩ b).heap[C]? = some o :=
  (Below.heap_setCell _ _ _ C hne).trans ((Below.heap_setCell _ _ _ C hne).trans h)
set_option maxRecDepth 100000 in
set_option maxHeartbeats 2000000 in
theorem rknown_1 (w : World) : Calls Tryd.prog 23 #[.int .i64 1] w fun e w' => e = .returned (.bool true) ∧ w' = w := by
  go_enter Tryd.func23, Tryd.ntmps23
  go_wp2_with fail
  go_ret
  exact ⟨rfl, rfl⟩
/-- what Binary gives of two whole numbers; E: are they equal; A: what an order's sign gives; e, q, M: what reckoning gives -/
def biB (op : ByteArray) (E : Bool) (A : Ans) (e1 e2 e3 e4 : Int) (q1 q2 q3 q4 q5 : Bool) (M1 M2 M3 M4 M5 : Nat) : Ans :=
  if op.toList = [61, 61] then ⟨3, false, 0, ⟨#[]⟩, E, 0⟩ else if op.toList = [33, 61] then ⟨3, false, 0, ⟨#[]⟩, !E, 0⟩
  else if op.toList = [38, 38] then noA 6 else if op.toList = [124, 124] then noA 6
  else if op.toList = [60] ∨ op.toList = [60, 61] ∨ op.toList = [62] ∨ op.toList = [62, 61] then A
  else if op.toList = [43] then arA e1 q1 M1 else if op.toList = [45] then arA e2 q2 M2 else if op.toList = [42] then arA e3 q3 M3 else if op.toList = [47] then arA e4 q4 M4 else if op.toList = [37] then arA e4 q5 M5 else noA 6
set_option maxRecDepth 100000 in
set_option maxHeartbeats 8000000 in
theorem rbin_1 (op : ByteArray) (E : Bool) (A : Ans) (s1 s2 : Bool) (ao : Option Addr) (n cap : Nat) (ap : Option Addr) (m capb : Nat) (t1 t2 : ByteArray) (b1 b2 : Bool) (e1 e2 e3 e4 : Int) (q1 q2 q3 q4 q5 : Bool) (M1 M2 M3 M4 M5 : Nat) (U : Ans) (w : World)
    (hU : biB op E A e1 e2 e3 e4 q1 q2 q3 q4 q5 M1 M2 M3 M4 M5 = U)
    (heq : ∀ W, Below w.heap.size w W → Calls Tryd.prog 25 #[cnV 1 s1 ao n cap t1 b1, cnV 1 s2 ap m capb t2 b2] W fun e w' => e = .returned (.bool E) ∧ Below W.heap.size W w')
    (hcm : ∀ W, Below w.heap.size w W → Calls Tryd.prog 26 #[.string op, cnV 1 s1 ao n cap t1 b1, cnV 1 s2 ap m capb t2 b2] W (AnsQ W A))
    (had : ∀ W, Below w.heap.size w W → Calls Tryd.prog 28 #[.agg #[.bool s1, .slice ao n cap], .agg #[.bool s2, .slice ap m capb]] W fun e w' => (∃ v, e = .returned (.tuple #[v, .int .i64 e1]) ∧ IntR w' W.heap.size v q1 M1) ∧ Below W.heap.size W w') (hsu : ∀ W, Below w.heap.size w W → Calls Tryd.prog 29 #[.agg #[.bool s1, .slice ao n cap], .agg #[.bool s2, .slice ap m capb]] W fun e w' => (∃ v, e = .returned (.tuple #[v, .int .i64 e2]) ∧ IntR w' W.heap.size v q2 M2) ∧ Below W.heap.size W w') (hmu : ∀ W, Below w.heap.size w W → Calls Tryd.prog 30 #[.agg #[.bool s1, .slice ao n cap], .agg #[.bool s2, .slice ap m capb]] W fun e w' => (∃ v, e = .returned (.tuple #[v, .int .i64 e3]) ∧ IntR w' W.heap.size v q3 M3) ∧ Below W.heap.size W w') (hqu : ∀ W, Below w.heap.size w W → Calls Tryd.prog 31 #[.agg #[.bool s1, .slice ao n cap], .agg #[.bool s2, .slice ap m capb]] W fun e w' => (∃ v1 v2, e = .returned (.tuple #[v1, v2, .int .i64 e4]) ∧ IntR w' W.heap.size v1 q4 M4 ∧ IntR w' W.heap.size v2 q5 M5) ∧ Below W.heap.size W w') :
    Calls Tryd.prog 10 #[.string op, cnV 1 s1 ao n cap t1 b1, cnV 1 s2 ap m capb t2 b2] w (AnsQ w U) := by
  have HEQ : Hid (∀ W, Below w.heap.size w W → Calls Tryd.prog 25 #[cnV 1 s1 ao n cap t1 b1, cnV 1 s2 ap m capb t2 b2] W fun e w' => e = .returned (.bool E) ∧ Below W.heap.size W w') := heq
  have HCM : Hid (∀ W, Below w.heap.size w W → Calls Tryd.prog 26 #[.string op, cnV 1 s1 ao n cap t1 b1, cnV 1 s2 ap m capb t2 b2] W (AnsQ W A)) := hcm
  have HAD : Hid (∀ W, Below w.heap.size w W → Calls Tryd.prog 28 #[.agg #[.bool s1, .slice ao n cap], .agg #[.bool s2, .slice ap m capb]] W fun e w' => (∃ v, e = .returned (.tuple #[v, .int .i64 e1]) ∧ IntR w' W.heap.size v q1 M1) ∧ Below W.heap.size W w') := had
  have HSU : Hid (∀ W, Below w.heap.size w W → Calls Tryd.prog 29 #[.agg #[.bool s1, .slice ao n cap], .agg #[.bool s2, .slice ap m capb]] W fun e w' => (∃ v, e = .returned (.tuple #[v, .int .i64 e2]) ∧ IntR w' W.heap.size v q2 M2) ∧ Below W.heap.size W w') := hsu
  have HMU : Hid (∀ W, Below w.heap.size w W → Calls Tryd.prog 30 #[.agg #[.bool s1, .slice ao n cap], .agg #[.bool s2, .slice ap m capb]] W fun e w' => (∃ v, e = .returned (.tuple #[v, .int .i64 e3]) ∧ IntR w' W.heap.size v q3 M3) ∧ Below W.heap.size W w') := hmu
  have HQU : Hid (∀ W, Below w.heap.size w W → Calls Tryd.prog 31 #[.agg #[.bool s1, .slice ao n cap], .agg #[.bool s2, .slice ap m capb]] W fun e w' => (∃ v1 v2, e = .returned (.tuple #[v1, v2, .int .i64 e4]) ∧ IntR w' W.heap.size v1 q4 M4 ∧ IntR w' W.heap.size v2 q5 M5) ∧ Below W.heap.size W w') := hqu
  have HB3 : Hid (Below w.heap.size w (((w.alloc (.cells #[.int .i64 1, .bool s1, .slice ao n cap, .string t1, .bool b1] 26)).alloc (.cells #[.int .i64 1, .bool s2, .slice ap m capb, .string t2, .bool b2] 26)).alloc (.cells #[.int .i64 0, .bool false, .slice none 0 0, .string ⟨#[]⟩, .bool false] 26))) := three_below w _ _ _
  have HZ3 : Hid ((((w.alloc (.cells #[.int .i64 1, .bool s1, .slice ao n cap, .string t1, .bool b1] 26)).alloc (.cells #[.int .i64 1, .bool s2, .slice ap m capb, .string t2, .bool b2] 26)).alloc (.cells #[.int .i64 0, .bool false, .slice none 0 0, .string ⟨#[]⟩, .bool false] 26)).heap[w.heap.size + 1 + 1]? = some (.cells #[.int .i64 0, .bool false, .slice none 0 0, .string ⟨#[]⟩, .bool false] 26 (0, 0))) := three_new _ _ _
  have HS3 : Hid ((((w.alloc (.cells #[.int .i64 1, .bool s1, .slice ao n cap, .string t1, .bool b1] 26)).alloc (.cells #[.int .i64 1, .bool s2, .slice ap m capb, .string t2, .bool b2] 26)).alloc (.cells #[.int .i64 0, .bool false, .slice none 0 0, .string ⟨#[]⟩, .bool false] 26)).heap.size = w.heap.size + 3) := by show _ = _; simp
  have HB4 : Hid (Below w.heap.size w ((((w.alloc (.cells #[.int .i64 1, .bool s1, .slice ao n cap, .string t1, .bool b1] 26)).alloc (.cells #[.int .i64 1, .bool s2, .slice ap m capb, .string t2, .bool b2] 26)).alloc (.cells #[.int .i64 0, .bool false, .slice none 0 0, .string ⟨#[]⟩, .bool false] 26)).alloc (.cells #[.bool false, .slice none 0 0] 24))) := HB3.out.alloc (by rw [HS3.out]; omega) _
  have HZ4 : Hid (((((w.alloc (.cells #[.int .i64 1, .bool s1, .slice ao n cap, .string t1, .bool b1] 26)).alloc (.cells #[.int .i64 1, .bool s2, .slice ap m capb, .string t2, .bool b2] 26)).alloc (.cells #[.int .i64 0, .bool false, .slice none 0 0, .string ⟨#[]⟩, .bool false] 26)).alloc (.cells #[.bool false, .slice none 0 0] 24)).heap[w.heap.size + 1 + 1]? = some (.cells #[.int .i64 0, .bool false, .slice none 0 0, .string ⟨#[]⟩, .bool false] 26 (0, 0))) := kept5 ((Below.refl _ _).alloc (Nat.le_refl _) _) HZ3.out
  have HY4 : Hid (((((w.alloc (.cells #[.int .i64 1, .bool s1, .slice ao n cap, .string t1, .bool b1] 26)).alloc (.cells #[.int .i64 1, .bool s2, .slice ap m capb, .string t2, .bool b2] 26)).alloc (.cells #[.int .i64 0, .bool false, .slice none 0 0, .string ⟨#[]⟩, .bool false] 26)).alloc (.cells #[.bool false, .slice none 0 0] 24)).heap[w.heap.size + 1 + 1 + 1]? = some (.cells #[.bool false, .slice none 0 0] 24 (0, 0))) := by
    have := new_blk (((w.alloc (.cells #[.int .i64 1, .bool s1, .slice ao n cap, .string t1, .bool b1] 26)).alloc (.cells #[.int .i64 1, .bool s2, .slice ap m capb, .string t2, .bool b2] 26)).alloc (.cells #[.int .i64 0, .bool false, .slice none 0 0, .string ⟨#[]⟩, .bool false] 26)) (.cells #[.bool false, .slice none 0 0] 24)
    rw [World.size_alloc, World.size_alloc, World.size_alloc] at this
    exact this
  have HS4 : Hid (((((w.alloc (.cells #[.int .i64 1, .bool s1, .slice ao n cap, .string t1, .bool b1] 26)).alloc (.cells #[.int .i64 1, .bool s2, .slice ap m capb, .string t2, .bool b2] 26)).alloc (.cells #[.int .i64 0, .bool false, .slice none 0 0, .string ⟨#[]⟩, .bool false] 26)).alloc (.cells #[.bool false, .slice none 0 0] 24)).heap.size = w.heap.size + 4) := by show _ = _; simp
  have HUU : Hid (biB op E A e1 e2 e3 e4 q1 q2 q3 q4 q5 M1 M2 M3 M4 M5 = U) := hU
  clear hU heq hcm had hsu hmu hqu
  by_cases h_eq : op.toList = [61, 61]
  · have HU : Hid (U = ⟨3, false, 0, ⟨#[]⟩, E, 0⟩) := by show _ = _; rw [← HUU.out]; simp [biB, h_eq]
    clear HUU
    go_enter Tryd.func10, Tryd.ntmps10
    go_wp2_with fail
    refine (rknown_1 _).mono ?_
    rintro e y0 ⟨rfl, hy0⟩
    obtain rfl := hy0.symm
    clear hy0
    go_wp2_with fail
    refine (HEQ.out _ HB3.out).mono ?_
    rintro e x1 ⟨rfl, hb⟩
    have HBX : Hid (Below w.heap.size w x1) := HB3.out.trans (hb.mono HB3.out.size)
    have HZX : Hid (x1.heap[w.heap.size + 1 + 1]? = some (.cells #[.int .i64 0, .bool false, .slice none 0 0, .string ⟨#[]⟩, .bool false] 26 (0, 0))) := kept5 hb HZ3.out
    clear hb
    go_wp2_with fail
    refine (rbool_any E _).mono ?_
    rintro e y1 ⟨rfl, hb⟩
    have HZ : Hid (y1.heap[w.heap.size + 1 + 1]? = some (.cells #[.int .i64 0, .bool false, .slice none 0 0, .string ⟨#[]⟩, .bool false] 26 (0, 0))) := kept5 hb HZX.out
    have k5 := bx5 HZ.out
    have k5f := bx5f HZ.out
    have HB : Hid (Below w.heap.size w y1) := HBX.out.trans (hb.mono HBX.out.size)
    clear hb
    go_wp2_with fail
    have hm := set5 (a' := .int .i64 3) (b' := .bool false) (c' := .slice none 0 0) (d' := .string ⟨#[]⟩) (e' := .bool E) HZ.out
    have hb5 := below5 (B := w.heap.size + 1 + 1) (a := .int .i64 3) (b := .bool false) (c := .slice none 0 0) (d := .string ⟨#[]⟩) (e := .bool E) HB.out (by omega)
    exact bodyPost_ret (v := .tuple #[.agg #[.int .i64 3, .bool false, .slice none 0 0, .string ⟨#[]⟩, .bool E], .int .i64 0]) (res_ct rfl rfl rfl (resC hm)) rfl (by rw [HU.out]; exact ⟨⟨_, rfl, _, _, _, rfl, zero_num _ _⟩, hb5⟩)
  by_cases h_ne : op.toList = [33, 61]
  · have zz_eq : (op.toList == [61, 61]) = false := by simpa using h_eq
    have HU : Hid (U = ⟨3, false, 0, ⟨#[]⟩, !E, 0⟩) := by show _ = _; rw [← HUU.out]; simp [biB, h_ne]
    clear HUU
    go_enter Tryd.func10, Tryd.ntmps10
    go_wp2_with fail
    refine (rknown_1 _).mono ?_
    rintro e y0 ⟨rfl, hy0⟩
    obtain rfl := hy0.symm
    clear hy0
    go_wp2_with fail
    refine (HEQ.out _ HB3.out).mono ?_
    rintro e x1 ⟨rfl, hb⟩
    have HBX : Hid (Below w.heap.size w x1) := HB3.out.trans (hb.mono HB3.out.size)
    have HZX : Hid (x1.heap[w.heap.size + 1 + 1]? = some (.cells #[.int .i64 0, .bool false, .slice none 0 0, .string ⟨#[]⟩, .bool false] 26 (0, 0))) := kept5 hb HZ3.out
    clear hb
    go_wp2_with fail
    refine (rbool_any (!E) _).mono ?_
    rintro e y1 ⟨rfl, hb⟩
    have HZ : Hid (y1.heap[w.heap.size + 1 + 1]? = some (.cells #[.int .i64 0, .bool false, .slice none 0 0, .string ⟨#[]⟩, .bool false] 26 (0, 0))) := kept5 hb HZX.out
    have k5 := bx5 HZ.out
    have k5f := bx5f HZ.out
    have HB : Hid (Below w.heap.size w y1) := HBX.out.trans (hb.mono HBX.out.size)
    clear hb
    go_wp2_with fail
    have hm := set5 (a' := .int .i64 3) (b' := .bool false) (c' := .slice none 0 0) (d' := .string ⟨#[]⟩) (e' := .bool (!E)) HZ.out
    have hb5 := below5 (B := w.heap.size + 1 + 1) (a := .int .i64 3) (b := .bool false) (c := .slice none 0 0) (d := .string ⟨#[]⟩) (e := .bool (!E)) HB.out (by omega)
    exact bodyPost_ret (v := .tuple #[.agg #[.int .i64 3, .bool false, .slice none 0 0, .string ⟨#[]⟩, .bool (!E)], .int .i64 0]) (res_ct rfl rfl rfl (resC hm)) rfl (by rw [HU.out]; exact ⟨⟨_, rfl, _, _, _, rfl, zero_num _ _⟩, hb5⟩)
  by_cases h_an : op.toList = [38, 38]
  · have zz_eq : (op.toList == [61, 61]) = false := by simpa using h_eq
    have zz_ne : (op.toList == [33, 61]) = false := by simpa using h_ne
    have HU : Hid (U = noA 6) := by show _ = _; rw [← HUU.out]; simp [biB, h_an]
    clear HUU
    go_enter Tryd.func10, Tryd.ntmps10
    go_wp2_with fail
    refine (rknown_1 _).mono ?_
    rintro e y0 ⟨rfl, hy0⟩
    obtain rfl := hy0.symm
    clear hy0
    go_wp2_with fail
    exact bodyPost_ret (v := .tuple #[.agg #[.int .i64 0, .bool false, .slice none 0 0, .string ⟨#[]⟩, .bool false], .int .i64 6]) (res_ct rfl rfl rfl (resC HZ3.out)) rfl (by rw [HU.out]; exact ⟨⟨_, rfl, _, _, _, rfl, zero_num _ _⟩, HB3.out⟩)
  by_cases h_or : op.toList = [124, 124]
  · have zz_eq : (op.toList == [61, 61]) = false := by simpa using h_eq
    have zz_ne : (op.toList == [33, 61]) = false := by simpa using h_ne
    have zz_an : (op.toList == [38, 38]) = false := by simpa using h_an
    have HU : Hid (U = noA 6) := by show _ = _; rw [← HUU.out]; simp [biB, h_or]
    clear HUU
    go_enter Tryd.func10, Tryd.ntmps10
    go_wp2_with fail
    refine (rknown_1 _).mono ?_
    rintro e y0 ⟨rfl, hy0⟩
    obtain rfl := hy0.symm
    clear hy0
    go_wp2_with fail
    exact bodyPost_ret (v := .tuple #[.agg #[.int .i64 0, .bool false, .slice none 0 0, .string ⟨#[]⟩, .bool false], .int .i64 6]) (res_ct rfl rfl rfl (resC HZ3.out)) rfl (by rw [HU.out]; exact ⟨⟨_, rfl, _, _, _, rfl, zero_num _ _⟩, HB3.out⟩)
  by_cases h_lt : op.toList = [60]
  · have zz_eq : (op.toList == [61, 61]) = false := by simpa using h_eq
    have zz_ne : (op.toList == [33, 61]) = false := by simpa using h_ne
    have zz_an : (op.toList == [38, 38]) = false := by simpa using h_an
    have zz_or : (op.toList == [124, 124]) = false := by simpa using h_or
    have HU : Hid (U = A) := by show _ = _; rw [← HUU.out]; simp [biB, h_lt]
    clear HUU
    go_enter Tryd.func10, Tryd.ntmps10
    go_wp2_with fail
    refine (rknown_1 _).mono ?_
    rintro e y0 ⟨rfl, hy0⟩
    obtain rfl := hy0.symm
    clear hy0
    go_wp2_with fail
    refine (HCM.out _ HB3.out).mono ?_
    intro e x1 hq
    obtain ⟨v, rfl, aq, nq, cq, rfl, hI⟩ := hq.ex
    have HZ : Hid (x1.heap[w.heap.size + 1 + 1]? = some (.cells #[.int .i64 0, .bool false, .slice none 0 0, .string ⟨#[]⟩, .bool false] 26 (0, 0))) := kept5 hq.bl HZ3.out
    have k5 := bx5 HZ.out
    have k5f := bx5f HZ.out
    have HB : Hid (Below w.heap.size w x1) := HB3.out.trans (hq.bl.mono HB3.out.size)
    have HI : Hid (IntR x1 (w.heap.size + 3) (.agg #[.bool A.s, .slice aq nq cq]) A.s A.N) := HS3.out ▸ hI
    clear hq hI
    go_wp2_with fail
    have hm := set5 (a' := .int .i64 A.k) (b' := .bool A.s) (c' := .slice aq nq cq) (d' := .string A.t) (e' := .bool A.b) HZ.out
    have hi := HI.out.set5 (B := w.heap.size + 1 + 1) (a := .int .i64 A.k) (b := .bool A.s) (c := .slice aq nq cq) (d := .string A.t) (e := .bool A.b) (by omega)
    have hb5 := below5 (B := w.heap.size + 1 + 1) (a := .int .i64 A.k) (b := .bool A.s) (c := .slice aq nq cq) (d := .string A.t) (e := .bool A.b) HB.out (by omega)
    exact bodyPost_ret (v := .tuple #[.agg #[.int .i64 A.k, .bool A.s, .slice aq nq cq, .string A.t, .bool A.b], .int .i64 A.e]) (res_ct rfl rfl rfl (resC hm)) rfl (by rw [HU.out]; exact ⟨⟨_, rfl, _, _, _, rfl, hi.mono (base' := w.heap.size) (by omega)⟩, hb5⟩)
  by_cases h_le : op.toList = [60, 61]
  · have zz_eq : (op.toList == [61, 61]) = false := by simpa using h_eq
    have zz_ne : (op.toList == [33, 61]) = false := by simpa using h_ne
    have zz_an : (op.toList == [38, 38]) = false := by simpa using h_an
    have zz_or : (op.toList == [124, 124]) = false := by simpa using h_or
    have zz_lt : (op.toList == [60]) = false := by simpa using h_lt
    have HU : Hid (U = A) := by show _ = _; rw [← HUU.out]; simp [biB, h_le]
    clear HUU
    go_enter Tryd.func10, Tryd.ntmps10
    go_wp2_with fail
    refine (rknown_1 _).mono ?_
    rintro e y0 ⟨rfl, hy0⟩
    obtain rfl := hy0.symm
    clear hy0
    go_wp2_with fail
    refine (HCM.out _ HB3.out).mono ?_
    intro e x1 hq
    obtain ⟨v, rfl, aq, nq, cq, rfl, hI⟩ := hq.ex
    have HZ : Hid (x1.heap[w.heap.size + 1 + 1]? = some (.cells #[.int .i64 0, .bool false, .slice none 0 0, .string ⟨#[]⟩, .bool false] 26 (0, 0))) := kept5 hq.bl HZ3.out
    have k5 := bx5 HZ.out
    have k5f := bx5f HZ.out
    have HB : Hid (Below w.heap.size w x1) := HB3.out.trans (hq.bl.mono HB3.out.size)
    have HI : Hid (IntR x1 (w.heap.size + 3) (.agg #[.bool A.s, .slice aq nq cq]) A.s A.N) := HS3.out ▸ hI
    clear hq hI
    go_wp2_with fail
    have hm := set5 (a' := .int .i64 A.k) (b' := .bool A.s) (c' := .slice aq nq cq) (d' := .string A.t) (e' := .bool A.b) HZ.out
    have hi := HI.out.set5 (B := w.heap.size + 1 + 1) (a := .int .i64 A.k) (b := .bool A.s) (c := .slice aq nq cq) (d := .string A.t) (e := .bool A.b) (by omega)
    have hb5 := below5 (B := w.heap.size + 1 + 1) (a := .int .i64 A.k) (b := .bool A.s) (c := .slice aq nq cq) (d := .string A.t) (e := .bool A.b) HB.out (by omega)
    exact bodyPost_ret (v := .tuple #[.agg #[.int .i64 A.k, .bool A.s, .slice aq nq cq, .string A.t, .bool A.b], .int .i64 A.e]) (res_ct rfl rfl rfl (resC hm)) rfl (by rw [HU.out]; exact ⟨⟨_, rfl, _, _, _, rfl, hi.mono (base' := w.heap.size) (by omega)⟩, hb5⟩)
  by_cases h_gt : op.toList = [62]
  · have zz_eq : (op.toList == [61, 61]) = false := by simpa using h_eq
    have zz_ne : (op.toList == [33, 61]) = false := by simpa using h_ne
    have zz_an : (op.toList == [38, 38]) = false := by simpa using h_an
    have zz_or : (op.toList == [124, 124]) = false := by simpa using h_or
    have zz_lt : (op.toList == [60]) = false := by simpa using h_lt
    have zz_le : (op.toList == [60, 61]) = false := by simpa using h_le
    have HU : Hid (U = A) := by show _ = _; rw [← HUU.out]; simp [biB, h_gt]
    clear HUU
    go_enter Tryd.func10, Tryd.ntmps10
    go_wp2_with fail
    refine (rknown_1 _).mono ?_
    rintro e y0 ⟨rfl, hy0⟩
    obtain rfl := hy0.symm
    clear hy0
    go_wp2_with fail
    refine (HCM.out _ HB3.out).mono ?_
    intro e x1 hq
    obtain ⟨v, rfl, aq, nq, cq, rfl, hI⟩ := hq.ex
    have HZ : Hid (x1.heap[w.heap.size + 1 + 1]? = some (.cells #[.int .i64 0, .bool false, .slice none 0 0, .string ⟨#[]⟩, .bool false] 26 (0, 0))) := kept5 hq.bl HZ3.out
    have k5 := bx5 HZ.out
    have k5f := bx5f HZ.out
    have HB : Hid (Below w.heap.size w x1) := HB3.out.trans (hq.bl.mono HB3.out.size)
    have HI : Hid (IntR x1 (w.heap.size + 3) (.agg #[.bool A.s, .slice aq nq cq]) A.s A.N) := HS3.out ▸ hI
    clear hq hI
    go_wp2_with fail
    have hm := set5 (a' := .int .i64 A.k) (b' := .bool A.s) (c' := .slice aq nq cq) (d' := .string A.t) (e' := .bool A.b) HZ.out
    have hi := HI.out.set5 (B := w.heap.size + 1 + 1) (a := .int .i64 A.k) (b := .bool A.s) (c := .slice aq nq cq) (d := .string A.t) (e := .bool A.b) (by omega)
    have hb5 := below5 (B := w.heap.size + 1 + 1) (a := .int .i64 A.k) (b := .bool A.s) (c := .slice aq nq cq) (d := .string A.t) (e := .bool A.b) HB.out (by omega)
    exact bodyPost_ret (v := .tuple #[.agg #[.int .i64 A.k, .bool A.s, .slice aq nq cq, .string A.t, .bool A.b], .int .i64 A.e]) (res_ct rfl rfl rfl (resC hm)) rfl (by rw [HU.out]; exact ⟨⟨_, rfl, _, _, _, rfl, hi.mono (base' := w.heap.size) (by omega)⟩, hb5⟩)
  by_cases h_ge : op.toList = [62, 61]
  · have zz_eq : (op.toList == [61, 61]) = false := by simpa using h_eq
    have zz_ne : (op.toList == [33, 61]) = false := by simpa using h_ne
    have zz_an : (op.toList == [38, 38]) = false := by simpa using h_an
    have zz_or : (op.toList == [124, 124]) = false := by simpa using h_or
    have zz_lt : (op.toList == [60]) = false := by simpa using h_lt
    have zz_le : (op.toList == [60, 61]) = false := by simpa using h_le
    have zz_gt : (op.toList == [62]) = false := by simpa using h_gt
    have HU : Hid (U = A) := by show _ = _; rw [← HUU.out]; simp [biB, h_ge]
    clear HUU
    go_enter Tryd.func10, Tryd.ntmps10
    go_wp2_with fail
    refine (rknown_1 _).mono ?_
    rintro e y0 ⟨rfl, hy0⟩
    obtain rfl := hy0.symm
    clear hy0
    go_wp2_with fail
    refine (HCM.out _ HB3.out).mono ?_
    intro e x1 hq
    obtain ⟨v, rfl, aq, nq, cq, rfl, hI⟩ := hq.ex
    have HZ : Hid (x1.heap[w.heap.size + 1 + 1]? = some (.cells #[.int .i64 0, .bool false, .slice none 0 0, .string ⟨#[]⟩, .bool false] 26 (0, 0))) := kept5 hq.bl HZ3.out
    have k5 := bx5 HZ.out
    have k5f := bx5f HZ.out
    have HB : Hid (Below w.heap.size w x1) := HB3.out.trans (hq.bl.mono HB3.out.size)
    have HI : Hid (IntR x1 (w.heap.size + 3) (.agg #[.bool A.s, .slice aq nq cq]) A.s A.N) := HS3.out ▸ hI
    clear hq hI
    go_wp2_with fail
    have hm := set5 (a' := .int .i64 A.k) (b' := .bool A.s) (c' := .slice aq nq cq) (d' := .string A.t) (e' := .bool A.b) HZ.out
    have hi := HI.out.set5 (B := w.heap.size + 1 + 1) (a := .int .i64 A.k) (b := .bool A.s) (c := .slice aq nq cq) (d := .string A.t) (e := .bool A.b) (by omega)
    have hb5 := below5 (B := w.heap.size + 1 + 1) (a := .int .i64 A.k) (b := .bool A.s) (c := .slice aq nq cq) (d := .string A.t) (e := .bool A.b) HB.out (by omega)
    exact bodyPost_ret (v := .tuple #[.agg #[.int .i64 A.k, .bool A.s, .slice aq nq cq, .string A.t, .bool A.b], .int .i64 A.e]) (res_ct rfl rfl rfl (resC hm)) rfl (by rw [HU.out]; exact ⟨⟨_, rfl, _, _, _, rfl, hi.mono (base' := w.heap.size) (by omega)⟩, hb5⟩)
  by_cases h_ad : op.toList = [43]
  · have zz_eq : (op.toList == [61, 61]) = false := by simpa using h_eq
    have zz_ne : (op.toList == [33, 61]) = false := by simpa using h_ne
    have zz_an : (op.toList == [38, 38]) = false := by simpa using h_an
    have zz_or : (op.toList == [124, 124]) = false := by simpa using h_or
    have zz_lt : (op.toList == [60]) = false := by simpa using h_lt
    have zz_le : (op.toList == [60, 61]) = false := by simpa using h_le
    have zz_gt : (op.toList == [62]) = false := by simpa using h_gt
    have zz_ge : (op.toList == [62, 61]) = false := by simpa using h_ge
    have HUV : Hid (U = arA e1 q1 M1) := by show _ = _; rw [← HUU.out]; simp [biB, h_ad]
    clear HUU
    go_enter Tryd.func10, Tryd.ntmps10
    go_wp2_with fail
    refine (rknown_1 _).mono ?_
    rintro e y0 ⟨rfl, hy0⟩
    obtain rfl := hy0.symm
    clear hy0
    go_wp2_with fail
    refine (HAD.out _ HB4.out).mono ?_
    rintro e x1 ⟨⟨v1, rfl, hI1⟩, hb⟩
    obtain ⟨aq, nq, cq, r1, rfl, -, -, -, -⟩ := hI1.ex
    have HZ : Hid (x1.heap[w.heap.size + 1 + 1]? = some (.cells #[.int .i64 0, .bool false, .slice none 0 0, .string ⟨#[]⟩, .bool false] 26 (0, 0))) := kept5 hb HZ4.out
    have HY : Hid (x1.heap[w.heap.size + 1 + 1 + 1]? = some (.cells #[.bool false, .slice none 0 0] 24 (0, 0))) := kept5 hb HY4.out
    have k5 := bx5 HZ.out
    have k5f := bx5f HZ.out
    have k2 := bx2 HY.out
    have HB : Hid (Below w.heap.size w x1) := HB4.out.trans (hb.mono HB4.out.size)
    have HI : Hid (IntR x1 (w.heap.size + 4) (.agg #[.bool q1, .slice aq nq cq]) q1 M1) := HS4.out ▸ hI1
    clear hb hI1
    have hz2 := far2 (B := w.heap.size + 1 + 1 + 1) (a := .bool q1) (b := .slice aq nq cq) HZ.out (by omega)
    have HZ2 : Hid (((x1.setCell ⟨w.heap.size + 1 + 1 + 1, 0, none⟩ (.bool q1)).setCell ⟨w.heap.size + 1 + 1 + 1, 1, none⟩ (.slice aq nq cq)).heap[w.heap.size + 1 + 1]? = some (.cells #[.int .i64 0, .bool false, .slice none 0 0, .string ⟨#[]⟩, .bool false] 26 (0, 0))) := hz2
    have HB2 : Hid (Below w.heap.size w ((x1.setCell ⟨w.heap.size + 1 + 1 + 1, 0, none⟩ (.bool q1)).setCell ⟨w.heap.size + 1 + 1 + 1, 1, none⟩ (.slice aq nq cq))) := (HB.out.setCell (p := ⟨w.heap.size + 1 + 1 + 1, 0, none⟩) (by show w.heap.size ≤ w.heap.size + 1 + 1 + 1; omega) _).setCell (p := ⟨w.heap.size + 1 + 1 + 1, 1, none⟩) (by show w.heap.size ≤ w.heap.size + 1 + 1 + 1; omega) _
    have HI2 : Hid (IntR ((x1.setCell ⟨w.heap.size + 1 + 1 + 1, 0, none⟩ (.bool q1)).setCell ⟨w.heap.size + 1 + 1 + 1, 1, none⟩ (.slice aq nq cq)) (w.heap.size + 4) (.agg #[.bool q1, .slice aq nq cq]) q1 M1) := (HI.out.setCell (a := ⟨w.heap.size + 1 + 1 + 1, 0, none⟩) (by show w.heap.size + 1 + 1 + 1 < w.heap.size + 4; omega) _).setCell (a := ⟨w.heap.size + 1 + 1 + 1, 1, none⟩) (by show w.heap.size + 1 + 1 + 1 < w.heap.size + 4; omega) _
    clear hz2
    by_cases he : e1 = 0
    · have HU : Hid (U = ⟨1, q1, M1, ⟨#[]⟩, false, 0⟩) := by show _ = _; rw [HUV.out, he]; rfl
      have ze : (e1 != 0) = false := by simp [he]
      have ze2 : (e1 == 0) = true := by simp [he]
      clear he HUV
      go_wp2_with fail
      have hm := set5 (a' := .int .i64 1) (b' := .bool q1) (c' := .slice aq nq cq) (d' := .string ⟨#[]⟩) (e' := .bool false) HZ2.out
      have hi := HI2.out.set5 (B := w.heap.size + 1 + 1) (a := .int .i64 1) (b := .bool q1) (c := .slice aq nq cq) (d := .string ⟨#[]⟩) (e := .bool false) (by omega)
      have hb5 := below5 (B := w.heap.size + 1 + 1) (a := .int .i64 1) (b := .bool q1) (c := .slice aq nq cq) (d := .string ⟨#[]⟩) (e := .bool false) HB2.out (by omega)
      exact bodyPost_ret (v := .tuple #[.agg #[.int .i64 1, .bool q1, .slice aq nq cq, .string ⟨#[]⟩, .bool false], .int .i64 0]) (res_ct rfl rfl rfl (resC hm)) rfl (by rw [HU.out]; exact ⟨⟨_, rfl, _, _, _, rfl, hi.mono (base' := w.heap.size) (by omega)⟩, hb5⟩)
    · have HU : Hid (U = noA e1) := by show _ = _; rw [HUV.out]; simp [arA, he]
      have ze : (e1 != 0) = true := by simpa using he
      have ze2 : (e1 == 0) = false := by simpa using he
      clear he HUV
      go_wp2_with fail
      have hm := set5 (a' := .int .i64 0) (b' := .bool false) (c' := .slice none 0 0) (d' := .string ⟨#[]⟩) (e' := .bool false) HZ2.out
      have hb5 := below5 (B := w.heap.size + 1 + 1) (a := .int .i64 0) (b := .bool false) (c := .slice none 0 0) (d := .string ⟨#[]⟩) (e := .bool false) HB2.out (by omega)
      exact bodyPost_ret (v := .tuple #[.agg #[.int .i64 0, .bool false, .slice none 0 0, .string ⟨#[]⟩, .bool false], .int .i64 e1]) (res_ct rfl rfl rfl (resC hm)) rfl (by rw [HU.out]; exact ⟨⟨_, rfl, _, _, _, rfl, zero_num _ _⟩, hb5⟩)
  by_cases h_su : op.toList = [45]
  · have zz_eq : (op.toList == [61, 61]) = false := by simpa using h_eq
    have zz_ne : (op.toList == [33, 61]) = false := by simpa using h_ne
    have zz_an : (op.toList == [38, 38]) = false := by simpa using h_an
    have zz_or : (op.toList == [124, 124]) = false := by simpa using h_or
    have zz_lt : (op.toList == [60]) = false := by simpa using h_lt
    have zz_le : (op.toList == [60, 61]) = false := by simpa using h_le
    have zz_gt : (op.toList == [62]) = false := by simpa using h_gt
    have zz_ge : (op.toList == [62, 61]) = false := by simpa using h_ge
    have zz_ad : (op.toList == [43]) = false := by simpa using h_ad
    have HUV : Hid (U = arA e2 q2 M2) := by show _ = _; rw [← HUU.out]; simp [biB, h_su]
    clear HUU
    go_enter Tryd.func10, Tryd.ntmps10
    go_wp2_with fail
    refine (rknown_1 _).mono ?_
    rintro e y0 ⟨rfl, hy0⟩
    obtain rfl := hy0.symm
    clear hy0
    go_wp2_with fail
    refine (HSU.out _ HB4.out).mono ?_
    rintro e x1 ⟨⟨v1, rfl, hI1⟩, hb⟩
    obtain ⟨aq, nq, cq, r1, rfl, -, -, -, -⟩ := hI1.ex
    have HZ : Hid (x1.heap[w.heap.size + 1 + 1]? = some (.cells #[.int .i64 0, .bool false, .slice none 0 0, .string ⟨#[]⟩, .bool false] 26 (0, 0))) := kept5 hb HZ4.out
    have HY : Hid (x1.heap[w.heap.size + 1 + 1 + 1]? = some (.cells #[.bool false, .slice none 0 0] 24 (0, 0))) := kept5 hb HY4.out
    have k5 := bx5 HZ.out
    have k5f := bx5f HZ.out
    have k2 := bx2 HY.out
    have HB : Hid (Below w.heap.size w x1) := HB4.out.trans (hb.mono HB4.out.size)
    have HI : Hid (IntR x1 (w.heap.size + 4) (.agg #[.bool q2, .slice aq nq cq]) q2 M2) := HS4.out ▸ hI1
    clear hb hI1
    have hz2 := far2 (B := w.heap.size + 1 + 1 + 1) (a := .bool q2) (b := .slice aq nq cq) HZ.out (by omega)
    have HZ2 : Hid (((x1.setCell ⟨w.heap.size + 1 + 1 + 1, 0, none⟩ (.bool q2)).setCell ⟨w.heap.size + 1 + 1 + 1, 1, none⟩ (.slice aq nq cq)).heap[w.heap.size + 1 + 1]? = some (.cells #[.int .i64 0, .bool false, .slice none 0 0, .string ⟨#[]⟩, .bool false] 26 (0, 0))) := hz2
    have HB2 : Hid (Below w.heap.size w ((x1.setCell ⟨w.heap.size + 1 + 1 + 1, 0, none⟩ (.bool q2)).setCell ⟨w.heap.size + 1 + 1 + 1, 1, none⟩ (.slice aq nq cq))) := (HB.out.setCell (p := ⟨w.heap.size + 1 + 1 + 1, 0, none⟩) (by show w.heap.size ≤ w.heap.size + 1 + 1 + 1; omega) _).setCell (p := ⟨w.heap.size + 1 + 1 + 1, 1, none⟩) (by show w.heap.size ≤ w.heap.size + 1 + 1 + 1; omega) _
    have HI2 : Hid (IntR ((x1.setCell ⟨w.heap.size + 1 + 1 + 1, 0, none⟩ (.bool q2)).setCell ⟨w.heap.size + 1 + 1 + 1, 1, none⟩ (.slice aq nq cq)) (w.heap.size + 4) (.agg #[.bool q2, .slice aq nq cq]) q2 M2) := (HI.out.setCell (a := ⟨w.heap.size + 1 + 1 + 1, 0, none⟩) (by show w.heap.size + 1 + 1 + 1 < w.heap.size + 4; omega) _).setCell (a := ⟨w.heap.size + 1 + 1 + 1, 1, none⟩) (by show w.heap.size + 1 + 1 + 1 < w.heap.size + 4; omega) _
    clear hz2
    by_cases he : e2 = 0
    · have HU : Hid (U = ⟨1, q2, M2, ⟨#[]⟩, false, 0⟩) := by show _ = _; rw [HUV.out, he]; rfl
      have ze : (e2 != 0) = false := by simp [he]
      have ze2 : (e2 == 0) = true := by simp [he]
      clear he HUV
      go_wp2_with fail
      have hm := set5 (a' := .int .i64 1) (b' := .bool q2) (c' := .slice aq nq cq) (d' := .string ⟨#[]⟩) (e' := .bool false) HZ2.out
      have hi := HI2.out.set5 (B := w.heap.size + 1 + 1) (a := .int .i64 1) (b := .bool q2) (c := .slice aq nq cq) (d := .string ⟨#[]⟩) (e := .bool false) (by omega)
      have hb5 := below5 (B := w.heap.size + 1 + 1) (a := .int .i64 1) (b := .bool q2) (c := .slice aq nq cq) (d := .string ⟨#[]⟩) (e := .bool false) HB2.out (by omega)
      exact bodyPost_ret (v := .tuple #[.agg #[.int .i64 1, .bool q2, .slice aq nq cq, .string ⟨#[]⟩, .bool false], .int .i64 0]) (res_ct rfl rfl rfl (resC hm)) rfl (by rw [HU.out]; exact ⟨⟨_, rfl, _, _, _, rfl, hi.mono (base' := w.heap.size) (by omega)⟩, hb5⟩)
    · have HU : Hid (U = noA e2) := by show _ = _; rw [HUV.out]; simp [arA, he]
      have ze : (e2 != 0) = true := by simpa using he
      have ze2 : (e2 == 0) = false := by simpa using he
      clear he HUV
      go_wp2_with fail
      have hm := set5 (a' := .int .i64 0) (b' := .bool false) (c' := .slice none 0 0) (d' := .string ⟨#[]⟩) (e' := .bool false) HZ2.out
      have hb5 := below5 (B := w.heap.size + 1 + 1) (a := .int .i64 0) (b := .bool false) (c := .slice none 0 0) (d := .string ⟨#[]⟩) (e := .bool false) HB2.out (by omega)
      exact bodyPost_ret (v := .tuple #[.agg #[.int .i64 0, .bool false, .slice none 0 0, .string ⟨#[]⟩, .bool false], .int .i64 e2]) (res_ct rfl rfl rfl (resC hm)) rfl (by rw [HU.out]; exact ⟨⟨_, rfl, _, _, _, rfl, zero_num _ _⟩, hb5⟩)
  by_cases h_mu : op.toList = [42]
  · have zz_eq : (op.toList == [61, 61]) = false := by simpa using h_eq
    have zz_ne : (op.toList == [33, 61]) = false := by simpa using h_ne
    have zz_an : (op.toList == [38, 38]) = false := by simpa using h_an
    have zz_or : (op.toList == [124, 124]) = false := by simpa using h_or
    have zz_lt : (op.toList == [60]) = false := by simpa using h_lt
    have zz_le : (op.toList == [60, 61]) = false := by simpa using h_le
    have zz_gt : (op.toList == [62]) = false := by simpa using h_gt
    have zz_ge : (op.toList == [62, 61]) = false := by simpa using h_ge
    have zz_ad : (op.toList == [43]) = false := by simpa using h_ad
    have zz_su : (op.toList == [45]) = false := by simpa using h_su
    have HUV : Hid (U = arA e3 q3 M3) := by show _ = _; rw [← HUU.out]; simp [biB, h_mu]
    clear HUU
    go_enter Tryd.func10, Tryd.ntmps10
    go_wp2_with fail
    refine (rknown_1 _).mono ?_
    rintro e y0 ⟨rfl, hy0⟩
    obtain rfl := hy0.symm
    clear hy0
    go_wp2_with fail
    refine (HMU.out _ HB4.out).mono ?_
    rintro e x1 ⟨⟨v1, rfl, hI1⟩, hb⟩
    obtain ⟨aq, nq, cq, r1, rfl, -, -, -, -⟩ := hI1.ex
    have HZ : Hid (x1.heap[w.heap.size + 1 + 1]? = some (.cells #[.int .i64 0, .bool false, .slice none 0 0, .string ⟨#[]⟩, .bool false] 26 (0, 0))) := kept5 hb HZ4.out
    have HY : Hid (x1.heap[w.heap.size + 1 + 1 + 1]? = some (.cells #[.bool false, .slice none 0 0] 24 (0, 0))) := kept5 hb HY4.out
    have k5 := bx5 HZ.out
    have k5f := bx5f HZ.out
    have k2 := bx2 HY.out
    have HB : Hid (Below w.heap.size w x1) := HB4.out.trans (hb.mono HB4.out.size)
    have HI : Hid (IntR x1 (w.heap.size + 4) (.agg #[.bool q3, .slice aq nq cq]) q3 M3) := HS4.out ▸ hI1
    clear hb hI1
    have hz2 := far2 (B := w.heap.size + 1 + 1 + 1) (a := .bool q3) (b := .slice aq nq cq) HZ.out (by omega)
    have HZ2 : Hid (((x1.setCell ⟨w.heap.size + 1 + 1 + 1, 0, none⟩ (.bool q3)).setCell ⟨w.heap.size + 1 + 1 + 1, 1, none⟩ (.slice aq nq cq)).heap[w.heap.size + 1 + 1]? = some (.cells #[.int .i64 0, .bool false, .slice none 0 0, .string ⟨#[]⟩, .bool false] 26 (0, 0))) := hz2
    have HB2 : Hid (Below w.heap.size w ((x1.setCell ⟨w.heap.size + 1 + 1 + 1, 0, none⟩ (.bool q3)).setCell ⟨w.heap.size + 1 + 1 + 1, 1, none⟩ (.slice aq nq cq))) := (HB.out.setCell (p := ⟨w.heap.size + 1 + 1 + 1, 0, none⟩) (by show w.heap.size ≤ w.heap.size + 1 + 1 + 1; omega) _).setCell (p := ⟨w.heap.size + 1 + 1 + 1, 1, none⟩) (by show w.heap.size ≤ w.heap.size + 1 + 1 + 1; omega) _
    have HI2 : Hid (IntR ((x1.setCell ⟨w.heap.size + 1 + 1 + 1, 0, none⟩ (.bool q3)).setCell ⟨w.heap.size + 1 + 1 + 1, 1, none⟩ (.slice aq nq cq)) (w.heap.size + 4) (.agg #[.bool q3, .slice aq nq cq]) q3 M3) := (HI.out.setCell (a := ⟨w.heap.size + 1 + 1 + 1, 0, none⟩) (by show w.heap.size + 1 + 1 + 1 < w.heap.size + 4; omega) _).setCell (a := ⟨w.heap.size + 1 + 1 + 1, 1, none⟩) (by show w.heap.size + 1 + 1 + 1 < w.heap.size + 4; omega) _
    clear hz2
    by_cases he : e3 = 0
    · have HU : Hid (U = ⟨1, q3, M3, ⟨#[]⟩, false, 0⟩) := by show _ = _; rw [HUV.out, he]; rfl
      have ze : (e3 != 0) = false := by simp [he]
      have ze2 : (e3 == 0) = true := by simp [he]
      clear he HUV
      go_wp2_with fail
      have hm := set5 (a' := .int .i64 1) (b' := .bool q3) (c' := .slice aq nq cq) (d' := .string ⟨#[]⟩) (e' := .bool false) HZ2.out
      have hi := HI2.out.set5 (B := w.heap.size + 1 + 1) (a := .int .i64 1) (b := .bool q3) (c := .slice aq nq cq) (d := .string ⟨#[]⟩) (e := .bool false) (by omega)
      have hb5 := below5 (B := w.heap.size + 1 + 1) (a := .int .i64 1) (b := .bool q3) (c := .slice aq nq cq) (d := .string ⟨#[]⟩) (e := .bool false) HB2.out (by omega)
      exact bodyPost_ret (v := .tuple #[.agg #[.int .i64 1, .bool q3, .slice aq nq cq, .string ⟨#[]⟩, .bool false], .int .i64 0]) (res_ct rfl rfl rfl (resC hm)) rfl (by rw [HU.out]; exact ⟨⟨_, rfl, _, _, _, rfl, hi.mono (base' := w.heap.size) (by omega)⟩, hb5⟩)
    · have HU : Hid (U = noA e3) := by show _ = _; rw [HUV.out]; simp [arA, he]
      have ze : (e3 != 0) = true := by simpa using he
      have ze2 : (e3 == 0) = false := by simpa using he
      clear he HUV
      go_wp2_with fail
      have hm := set5 (a' := .int .i64 0) (b' := .bool false) (c' := .slice none 0 0) (d' := .string ⟨#[]⟩) (e' := .bool false) HZ2.out
      have hb5 := below5 (B := w.heap.size + 1 + 1) (a := .int .i64 0) (b := .bool false) (c := .slice none 0 0) (d := .string ⟨#[]⟩) (e := .bool false) HB2.out (by omega)
      exact bodyPost_ret (v := .tuple #[.agg #[.int .i64 0, .bool false, .slice none 0 0, .string ⟨#[]⟩, .bool false], .int .i64 e3]) (res_ct rfl rfl rfl (resC hm)) rfl (by rw [HU.out]; exact ⟨⟨_, rfl, _, _, _, rfl, zero_num _ _⟩, hb5⟩)
  by_cases h_di : op.toList = [47]
  · have zz_eq : (op.toList == [61, 61]) = false := by simpa using h_eq
    have zz_ne : (op.toList == [33, 61]) = false := by simpa using h_ne
    have zz_an : (op.toList == [38, 38]) = false := by simpa using h_an
    have zz_or : (op.toList == [124, 124]) = false := by simpa using h_or
    have zz_lt : (op.toList == [60]) = false := by simpa using h_lt
    have zz_le : (op.toList == [60, 61]) = false := by simpa using h_le
    have zz_gt : (op.toList == [62]) = false := by simpa using h_gt
    have zz_ge : (op.toList == [62, 61]) = false := by simpa using h_ge
    have zz_ad : (op.toList == [43]) = false := by simpa using h_ad
    have zz_su : (op.toList == [45]) = false := by simpa using h_su
    have zz_mu : (op.toList == [42]) = false := by simpa using h_mu
    have HUV : Hid (U = arA e4 q4 M4) := by show _ = _; rw [← HUU.out]; simp [biB, h_di]
    clear HUU
    go_enter Tryd.func10, Tryd.ntmps10
    go_wp2_with fail
    refine (rknown_1 _).mono ?_
    rintro e y0 ⟨rfl, hy0⟩
    obtain rfl := hy0.symm
    clear hy0
    go_wp2_with fail
    refine (HQU.out _ HB4.out).mono ?_
    rintro e x1 ⟨⟨v1, v2, rfl, hI1, hI2⟩, hb⟩
    obtain ⟨aq, nq, cq, r1, rfl, -, -, -, -⟩ := hI1.ex
    obtain ⟨ar, nr, cr, r2, rfl, -, -, -, -⟩ := hI2.ex
    have HZ : Hid (x1.heap[w.heap.size + 1 + 1]? = some (.cells #[.int .i64 0, .bool false, .slice none 0 0, .string ⟨#[]⟩, .bool false] 26 (0, 0))) := kept5 hb HZ4.out
    have HY : Hid (x1.heap[w.heap.size + 1 + 1 + 1]? = some (.cells #[.bool false, .slice none 0 0] 24 (0, 0))) := kept5 hb HY4.out
    have k5 := bx5 HZ.out
    have k5f := bx5f HZ.out
    have k2 := bx2 HY.out
    have HB : Hid (Below w.heap.size w x1) := HB4.out.trans (hb.mono HB4.out.size)
    have HI : Hid (IntR x1 (w.heap.size + 4) (.agg #[.bool q4, .slice aq nq cq]) q4 M4) := HS4.out ▸ hI1
    clear hb hI1 hI2
    have hz2 := far2 (B := w.heap.size + 1 + 1 + 1) (a := .bool q4) (b := .slice aq nq cq) HZ.out (by omega)
    have HZ2 : Hid (((x1.setCell ⟨w.heap.size + 1 + 1 + 1, 0, none⟩ (.bool q4)).setCell ⟨w.heap.size + 1 + 1 + 1, 1, none⟩ (.slice aq nq cq)).heap[w.heap.size + 1 + 1]? = some (.cells #[.int .i64 0, .bool false, .slice none 0 0, .string ⟨#[]⟩, .bool false] 26 (0, 0))) := hz2
    have HB2 : Hid (Below w.heap.size w ((x1.setCell ⟨w.heap.size + 1 + 1 + 1, 0, none⟩ (.bool q4)).setCell ⟨w.heap.size + 1 + 1 + 1, 1, none⟩ (.slice aq nq cq))) := (HB.out.setCell (p := ⟨w.heap.size + 1 + 1 + 1, 0, none⟩) (by show w.heap.size ≤ w.heap.size + 1 + 1 + 1; omega) _).setCell (p := ⟨w.heap.size + 1 + 1 + 1, 1, none⟩) (by show w.heap.size ≤ w.heap.size + 1 + 1 + 1; omega) _
    have HI2 : Hid (IntR ((x1.setCell ⟨w.heap.size + 1 + 1 + 1, 0, none⟩ (.bool q4)).setCell ⟨w.heap.size + 1 + 1 + 1, 1, none⟩ (.slice aq nq cq)) (w.heap.size + 4) (.agg #[.bool q4, .slice aq nq cq]) q4 M4) := (HI.out.setCell (a := ⟨w.heap.size + 1 + 1 + 1, 0, none⟩) (by show w.heap.size + 1 + 1 + 1 < w.heap.size + 4; omega) _).setCell (a := ⟨w.heap.size + 1 + 1 + 1, 1, none⟩) (by show w.heap.size + 1 + 1 + 1 < w.heap.size + 4; omega) _
    clear hz2
    by_cases he : e4 = 0
    · have HU : Hid (U = ⟨1, q4, M4, ⟨#[]⟩, false, 0⟩) := by show _ = _; rw [HUV.out, he]; rfl
      have ze : (e4 != 0) = false := by simp [he]
      have ze2 : (e4 == 0) = true := by simp [he]
      clear he HUV
      go_wp2_with fail
      have hm := set5 (a' := .int .i64 1) (b' := .bool q4) (c' := .slice aq nq cq) (d' := .string ⟨#[]⟩) (e' := .bool false) HZ2.out
      have hi := HI2.out.set5 (B := w.heap.size + 1 + 1) (a := .int .i64 1) (b := .bool q4) (c := .slice aq nq cq) (d := .string ⟨#[]⟩) (e := .bool false) (by omega)
      have hb5 := below5 (B := w.heap.size + 1 + 1) (a := .int .i64 1) (b := .bool q4) (c := .slice aq nq cq) (d := .string ⟨#[]⟩) (e := .bool false) HB2.out (by omega)
      exact bodyPost_ret (v := .tuple #[.agg #[.int .i64 1, .bool q4, .slice aq nq cq, .string ⟨#[]⟩, .bool false], .int .i64 0]) (res_ct rfl rfl rfl (resC hm)) rfl (by rw [HU.out]; exact ⟨⟨_, rfl, _, _, _, rfl, hi.mono (base' := w.heap.size) (by omega)⟩, hb5⟩)
    · have HU : Hid (U = noA e4) := by show _ = _; rw [HUV.out]; simp [arA, he]
      have ze : (e4 != 0) = true := by simpa using he
      have ze2 : (e4 == 0) = false := by simpa using he
      clear he HUV
      go_wp2_with fail
      have hm := set5 (a' := .int .i64 0) (b' := .bool false) (c' := .slice none 0 0) (d' := .string ⟨#[]⟩) (e' := .bool false) HZ2.out
      have hb5 := below5 (B := w.heap.size + 1 + 1) (a := .int .i64 0) (b := .bool false) (c := .slice none 0 0) (d := .string ⟨#[]⟩) (e := .bool false) HB2.out (by omega)
      exact bodyPost_ret (v := .tuple #[.agg #[.int .i64 0, .bool false, .slice none 0 0, .string ⟨#[]⟩, .bool false], .int .i64 e4]) (res_ct rfl rfl rfl (resC hm)) rfl (by rw [HU.out]; exact ⟨⟨_, rfl, _, _, _, rfl, zero_num _ _⟩, hb5⟩)
  by_cases h_re : op.toList = [37]
  · have zz_eq : (op.toList == [61, 61]) = false := by simpa using h_eq
    have zz_ne : (op.toList == [33, 61]) = false := by simpa using h_ne
    have zz_an : (op.toList == [38, 38]) = false := by simpa using h_an
    have zz_or : (op.toList == [124, 124]) = false := by simpa using h_or
    have zz_lt : (op.toList == [60]) = false := by simpa using h_lt
    have zz_le : (op.toList == [60, 61]) = false := by simpa using h_le
    have zz_gt : (op.toList == [62]) = false := by simpa using h_gt
    have zz_ge : (op.toList == [62, 61]) = false := by simpa using h_ge
    have zz_ad : (op.toList == [43]) = false := by simpa using h_ad
    have zz_su : (op.toList == [45]) = false := by simpa using h_su
    have zz_mu : (op.toList == [42]) = false := by simpa using h_mu
    have zz_di : (op.toList == [47]) = false := by simpa using h_di
    have HUV : Hid (U = arA e4 q5 M5) := by show _ = _; rw [← HUU.out]; simp [biB, h_re]
    clear HUU
    go_enter Tryd.func10, Tryd.ntmps10
    go_wp2_with fail
    refine (rknown_1 _).mono ?_
    rintro e y0 ⟨rfl, hy0⟩
    obtain rfl := hy0.symm
    clear hy0
    go_wp2_with fail
    refine (HQU.out _ HB4.out).mono ?_
    rintro e x1 ⟨⟨v1, v2, rfl, hI1, hI2⟩, hb⟩
    obtain ⟨aq, nq, cq, r1, rfl, -, -, -, -⟩ := hI1.ex
    obtain ⟨ar, nr, cr, r2, rfl, -, -, -, -⟩ := hI2.ex
    have HZ : Hid (x1.heap[w.heap.size + 1 + 1]? = some (.cells #[.int .i64 0, .bool false, .slice none 0 0, .string ⟨#[]⟩, .bool false] 26 (0, 0))) := kept5 hb HZ4.out
    have HY : Hid (x1.heap[w.heap.size + 1 + 1 + 1]? = some (.cells #[.bool false, .slice none 0 0] 24 (0, 0))) := kept5 hb HY4.out
    have k5 := bx5 HZ.out
    have k5f := bx5f HZ.out
    have k2 := bx2 HY.out
    have HB : Hid (Below w.heap.size w x1) := HB4.out.trans (hb.mono HB4.out.size)
    have HI : Hid (IntR x1 (w.heap.size + 4) (.agg #[.bool q5, .slice ar nr cr]) q5 M5) := HS4.out ▸ hI2
    clear hb hI1 hI2
    have hz2 := far2 (B := w.heap.size + 1 + 1 + 1) (a := .bool q5) (b := .slice ar nr cr) HZ.out (by omega)
    have HZ2 : Hid (((x1.setCell ⟨w.heap.size + 1 + 1 + 1, 0, none⟩ (.bool q5)).setCell ⟨w.heap.size + 1 + 1 + 1, 1, none⟩ (.slice ar nr cr)).heap[w.heap.size + 1 + 1]? = some (.cells #[.int .i64 0, .bool false, .slice none 0 0, .string ⟨#[]⟩, .bool false] 26 (0, 0))) := hz2
    have HB2 : Hid (Below w.heap.size w ((x1.setCell ⟨w.heap.size + 1 + 1 + 1, 0, none⟩ (.bool q5)).setCell ⟨w.heap.size + 1 + 1 + 1, 1, none⟩ (.slice ar nr cr))) := (HB.out.setCell (p := ⟨w.heap.size + 1 + 1 + 1, 0, none⟩) (by show w.heap.size ≤ w.heap.size + 1 + 1 + 1; omega) _).setCell (p := ⟨w.heap.size + 1 + 1 + 1, 1, none⟩) (by show w.heap.size ≤ w.heap.size + 1 + 1 + 1; omega) _
    have HI2 : Hid (IntR ((x1.setCell ⟨w.heap.size + 1 + 1 + 1, 0, none⟩ (.bool q5)).setCell ⟨w.heap.size + 1 + 1 + 1, 1, none⟩ (.slice ar nr cr)) (w.heap.size + 4) (.agg #[.bool q5, .slice ar nr cr]) q5 M5) := (HI.out.setCell (a := ⟨w.heap.size + 1 + 1 + 1, 0, none⟩) (by show w.heap.size + 1 + 1 + 1 < w.heap.size + 4; omega) _).setCell (a := ⟨w.heap.size + 1 + 1 + 1, 1, none⟩) (by show w.heap.size + 1 + 1 + 1 < w.heap.size + 4; omega) _
    clear hz2
    by_cases he : e4 = 0
    · have HU : Hid (U = ⟨1, q5, M5, ⟨#[]⟩, false, 0⟩) := by show _ = _; rw [HUV.out, he]; rfl
      have ze : (e4 != 0) = false := by simp [he]
      have ze2 : (e4 == 0) = true := by simp [he]
      clear he HUV
      go_wp2_with fail
      have hm := set5 (a' := .int .i64 1) (b' := .bool q5) (c' := .slice ar nr cr) (d' := .string ⟨#[]⟩) (e' := .bool false) HZ2.out
      have hi := HI2.out.set5 (B := w.heap.size + 1 + 1) (a := .int .i64 1) (b := .bool q5) (c := .slice ar nr cr) (d := .string ⟨#[]⟩) (e := .bool false) (by omega)
      have hb5 := below5 (B := w.heap.size + 1 + 1) (a := .int .i64 1) (b := .bool q5) (c := .slice ar nr cr) (d := .string ⟨#[]⟩) (e := .bool false) HB2.out (by omega)
      exact bodyPost_ret (v := .tuple #[.agg #[.int .i64 1, .bool q5, .slice ar nr cr, .string ⟨#[]⟩, .bool false], .int .i64 0]) (res_ct rfl rfl rfl (resC hm)) rfl (by rw [HU.out]; exact ⟨⟨_, rfl, _, _, _, rfl, hi.mono (base' := w.heap.size) (by omega)⟩, hb5⟩)
    · have HU : Hid (U = noA e4) := by show _ = _; rw [HUV.out]; simp [arA, he]
      have ze : (e4 != 0) = true := by simpa using he
      have ze2 : (e4 == 0) = false := by simpa using he
      clear he HUV
      go_wp2_with fail
      have hm := set5 (a' := .int .i64 0) (b' := .bool false) (c' := .slice none 0 0) (d' := .string ⟨#[]⟩) (e' := .bool false) HZ2.out
      have hb5 := below5 (B := w.heap.size + 1 + 1) (a := .int .i64 0) (b := .bool false) (c := .slice none 0 0) (d := .string ⟨#[]⟩) (e := .bool false) HB2.out (by omega)
      exact bodyPost_ret (v := .tuple #[.agg #[.int .i64 0, .bool false, .slice none 0 0, .string ⟨#[]⟩, .bool false], .int .i64 e4]) (res_ct rfl rfl rfl (resC hm)) rfl (by rw [HU.out]; exact ⟨⟨_, rfl, _, _, _, rfl, zero_num _ _⟩, hb5⟩)
  have zz_eq : (op.toList == [61, 61]) = false := by simpa using h_eq
  have zz_ne : (op.toList == [33, 61]) = false := by simpa using h_ne
  have zz_an : (op.toList == [38, 38]) = false := by simpa using h_an
  have zz_or : (op.toList == [124, 124]) = false := by simpa using h_or
  have zz_lt : (op.toList == [60]) = false := by simpa using h_lt
  have zz_le : (op.toList == [60, 61]) = false := by simpa using h_le
  have zz_gt : (op.toList == [62]) = false := by simpa using h_gt
  have zz_ge : (op.toList == [62, 61]) = false := by simpa using h_ge
  have zz_ad : (op.toList == [43]) = false := by simpa using h_ad
  have zz_su : (op.toList == [45]) = false := by simpa using h_su
  have zz_mu : (op.toList == [42]) = false := by simpa using h_mu
  have zz_di : (op.toList == [47]) = false := by simpa using h_di
  have zz_re : (op.toList == [37]) = false := by simpa using h_re
  have HU : Hid (U = noA 6) := by show _ = _; rw [← HUU.out]; simp [biB, h_eq, h_ne, h_an, h_or, h_lt, h_le, h_gt, h_ge, h_ad, h_su, h_mu, h_di, h_re]
  clear HUU
  go_enter Tryd.func10, Tryd.ntmps10
  go_wp2_with fail
  refine (rknown_1 _).mono ?_
  rintro e y0 ⟨rfl, hy0⟩
  obtain rfl := hy0.symm
  clear hy0
  go_wp2_with fail
  exact bodyPost_ret (v := .tuple #[.agg #[.int .i64 0, .bool false, .slice none 0 0, .string ⟨#[]⟩, .bool false], .int .i64 6]) (res_ct rfl rfl rfl (resC HZ4.out)) rfl (by rw [HU.out]; exact ⟨⟨_, rfl, _, _, _, rfl, zero_num _ _⟩, HB4.out⟩)
end Go.Proofs.YtfkkhabpnnealaaDoor

