/-
  The document's compare, walked.
-/
import Derived.Test.YtfkkhabpnnealaaDoorKoC
namespace Go.Proofs.YtfkkhabpnnealaaDoor
open Go.RowKit
attribute [local go_sem ↓] Go.wp_at_zero Go.wp_at_succ
/-- how two constants stand to each other -/
def cmC (k : Int) (s1 : Bool) (N1 : Nat) (t1 : ByteArray) (s2 : Bool) (N2 : Nat) (t2 : ByteArray) : Int :=
  if k = 1 then cmpV s1 N1 s2 N2 else if Op.bytesLess t1.toList t2.toList = true then -1 else if t1.toList = t2.toList then 0 else 1
/-- what a sign of order says of that -/
def cmO (op : ByteArray) (q : Int) : Bool := if op.toList = [60] then decide (q < 0) else if op.toList = [60, 61] then decide (q ≤ 0) else if op.toList = [62] then decide (0 < q) else decide (0 ≤ q)
def cmA (op : ByteArray) (k q : Int) : Ans := if k = 3 then noA 6 else ⟨3, false, 0, ⟨#[]⟩, cmO op q, 0⟩
theorem three_new {w : World} (a b c : Obj) : (((w.alloc a).alloc b).alloc c).heap[w.heap.size + 1 + 1]? = some c := by
  have := new_blk ((w.alloc a).alloc b) c
  rw [World.size_alloc, World.size_alloc] at this
  exact this
theorem three_below (w : World) (a b c : Obj) : Below w.heap.size w (((w.alloc a).alloc b).alloc c) := (((Below.refl _ w).alloc (Nat.le_refl _) _).alloc (by simp) _).alloc (by simp; omega) _
set_option maxRecDepth 100000 in
set_option maxHeartbeats 8000000 in
theorem rcm_1 (op : ByteArray) (s1 s2 : Bool) (ao : Option Addr) (n cap : Nat) (l : List Nat) (ap : Option Addr) (m capb : Nat) (p : List Nat) (t1 t2 : ByteArray) (b1 b2 : Bool) (w : World) (hl : Sl w ao n cap l) (hp : Sl w ap m capb p) (hz1 : ao = none → cap = 0) (hz2 : ap = none → capb = 0) (hn : n ≤ 1000) (hm : m ≤ 1000) :
    Calls Tryd.prog 26 #[.string op, cnV 1 s1 ao n cap t1 b1, cnV 1 s2 ap m capb t2 b2] w (AnsQ w (cmA op 1 (cmpV s1 (vl 4294967296 l) s2 (vl 4294967296 p)))) := by
  obtain ⟨q, hq⟩ : ∃ q, cmpV s1 (vl 4294967296 l) s2 (vl 4294967296 p) = q := ⟨_, rfl⟩
  have HC : Hid (∀ W, Below w.heap.size w W → Calls Tryd.prog 45 #[.agg #[.bool s1, .slice ao n cap], .agg #[.bool s2, .slice ap m capb]] W fun e w' => e = .returned (.int .i64 q) ∧ Below W.heap.size W w') := fun W hb => by
    have := rcompare_any s1 s2 ao n cap l ap m capb p W (hl.below hb (Nat.le_refl _)) (hp.below hb (Nat.le_refl _)) hz1 hz2 hn hm
    rwa [hq] at this
  rw [hq]
  have HB3 : Hid (Below w.heap.size w (((w.alloc (.cells #[.int .i64 1, .bool s1, .slice ao n cap, .string t1, .bool b1] 26)).alloc (.cells #[.int .i64 1, .bool s2, .slice ap m capb, .string t2, .bool b2] 26)).alloc (.cells #[.int .i64 0, .bool false, .slice none 0 0, .string ⟨#[]⟩, .bool false] 26))) := three_below w _ _ _
  have HZ3 : Hid ((((w.alloc (.cells #[.int .i64 1, .bool s1, .slice ao n cap, .string t1, .bool b1] 26)).alloc (.cells #[.int .i64 1, .bool s2, .slice ap m capb, .string t2, .bool b2] 26)).alloc (.cells #[.int .i64 0, .bool false, .slice none 0 0, .string ⟨#[]⟩, .bool false] 26)).heap[w.heap.size + 1 + 1]? = some (.cells #[.int .i64 0, .bool false, .slice none 0 0, .string ⟨#[]⟩, .bool false] 26 (0, 0))) := three_new _ _ _
  obtain ⟨U, hU⟩ : ∃ U, cmA op 1 q = U := ⟨_, rfl⟩
  rw [hU]
  have HUU : Hid (cmA op 1 q = U) := hU
  clear hl hp hz1 hz2 hn hm hq hU
  by_cases ho0 : op.toList = [60]
  · have HU : Hid (U = ⟨3, false, 0, ⟨#[]⟩, (decide (q < 0)), 0⟩) := by show _ = _; rw [← HUU.out]; simp [cmA, cmO, ho0]
    clear HUU
    go_enter Tryd.func26, Tryd.ntmps26
    go_wp2_with fail
    refine (HC.out _ HB3.out).mono ?_
    rintro e x1 ⟨rfl, hb⟩
    have HBX : Hid (Below w.heap.size w x1) := HB3.out.trans (hb.mono HB3.out.size)
    have HZX : Hid (x1.heap[w.heap.size + 1 + 1]? = some (.cells #[.int .i64 0, .bool false, .slice none 0 0, .string ⟨#[]⟩, .bool false] 26 (0, 0))) := kept5 hb HZ3.out
    clear hb
    go_wp2_with fail
    refine (rbool_any (decide (q < 0)) _).mono ?_
    rintro e y1 ⟨rfl, hb⟩
    have HZ : Hid (y1.heap[w.heap.size + 1 + 1]? = some (.cells #[.int .i64 0, .bool false, .slice none 0 0, .string ⟨#[]⟩, .bool false] 26 (0, 0))) := kept5 hb HZX.out
    have k5 := bx5 HZ.out
    have k5f := bx5f HZ.out
    have HB : Hid (Below w.heap.size w y1) := HBX.out.trans (hb.mono HBX.out.size)
    clear hb
    go_wp2_with fail
    have hm := set5 (a' := .int .i64 3) (b' := .bool false) (c' := .slice none 0 0) (d' := .string ⟨#[]⟩) (e' := .bool (decide (q < 0))) HZ.out
    have hb5 := below5 (B := w.heap.size + 1 + 1) (a := .int .i64 3) (b := .bool false) (c := .slice none 0 0) (d := .string ⟨#[]⟩) (e := .bool (decide (q < 0))) HB.out (by omega)
    exact bodyPost_ret (v := .tuple #[.agg #[.int .i64 3, .bool false, .slice none 0 0, .string ⟨#[]⟩, .bool (decide (q < 0))], .int .i64 0]) (res_ct rfl rfl rfl (resC hm)) rfl (by rw [HU.out]; exact ⟨⟨_, rfl, _, _, _, rfl, zero_num _ _⟩, hb5⟩)
  by_cases ho1 : op.toList = [60, 61]
  · have zo0 : (op.toList == [60]) = false := by simpa using ho0
    have HU : Hid (U = ⟨3, false, 0, ⟨#[]⟩, (decide (q ≤ 0)), 0⟩) := by show _ = _; rw [← HUU.out]; simp [cmA, cmO, ho1]
    clear HUU
    go_enter Tryd.func26, Tryd.ntmps26
    go_wp2_with fail
    refine (HC.out _ HB3.out).mono ?_
    rintro e x1 ⟨rfl, hb⟩
    have HBX : Hid (Below w.heap.size w x1) := HB3.out.trans (hb.mono HB3.out.size)
    have HZX : Hid (x1.heap[w.heap.size + 1 + 1]? = some (.cells #[.int .i64 0, .bool false, .slice none 0 0, .string ⟨#[]⟩, .bool false] 26 (0, 0))) := kept5 hb HZ3.out
    clear hb
    go_wp2_with fail
    refine (rbool_any (decide (q ≤ 0)) _).mono ?_
    rintro e y1 ⟨rfl, hb⟩
    have HZ : Hid (y1.heap[w.heap.size + 1 + 1]? = some (.cells #[.int .i64 0, .bool false, .slice none 0 0, .string ⟨#[]⟩, .bool false] 26 (0, 0))) := kept5 hb HZX.out
    have k5 := bx5 HZ.out
    have k5f := bx5f HZ.out
    have HB : Hid (Below w.heap.size w y1) := HBX.out.trans (hb.mono HBX.out.size)
    clear hb
    go_wp2_with fail
    have hm := set5 (a' := .int .i64 3) (b' := .bool false) (c' := .slice none 0 0) (d' := .string ⟨#[]⟩) (e' := .bool (decide (q ≤ 0))) HZ.out
    have hb5 := below5 (B := w.heap.size + 1 + 1) (a := .int .i64 3) (b := .bool false) (c := .slice none 0 0) (d := .string ⟨#[]⟩) (e := .bool (decide (q ≤ 0))) HB.out (by omega)
    exact bodyPost_ret (v := .tuple #[.agg #[.int .i64 3, .bool false, .slice none 0 0, .string ⟨#[]⟩, .bool (decide (q ≤ 0))], .int .i64 0]) (res_ct rfl rfl rfl (resC hm)) rfl (by rw [HU.out]; exact ⟨⟨_, rfl, _, _, _, rfl, zero_num _ _⟩, hb5⟩)
  by_cases ho2 : op.toList = [62]
  · have zo0 : (op.toList == [60]) = false := by simpa using ho0
    have zo1 : (op.toList == [60, 61]) = false := by simpa using ho1
    have HU : Hid (U = ⟨3, false, 0, ⟨#[]⟩, (decide (0 < q)), 0⟩) := by show _ = _; rw [← HUU.out]; simp [cmA, cmO, ho2]
    clear HUU
    go_enter Tryd.func26, Tryd.ntmps26
    go_wp2_with fail
    refine (HC.out _ HB3.out).mono ?_
    rintro e x1 ⟨rfl, hb⟩
    have HBX : Hid (Below w.heap.size w x1) := HB3.out.trans (hb.mono HB3.out.size)
    have HZX : Hid (x1.heap[w.heap.size + 1 + 1]? = some (.cells #[.int .i64 0, .bool false, .slice none 0 0, .string ⟨#[]⟩, .bool false] 26 (0, 0))) := kept5 hb HZ3.out
    clear hb
    go_wp2_with fail
    refine (rbool_any (decide (0 < q)) _).mono ?_
    rintro e y1 ⟨rfl, hb⟩
    have HZ : Hid (y1.heap[w.heap.size + 1 + 1]? = some (.cells #[.int .i64 0, .bool false, .slice none 0 0, .string ⟨#[]⟩, .bool false] 26 (0, 0))) := kept5 hb HZX.out
    have k5 := bx5 HZ.out
    have k5f := bx5f HZ.out
    have HB : Hid (Below w.heap.size w y1) := HBX.out.trans (hb.mono HBX.out.size)
    clear hb
    go_wp2_with fail
    have hm := set5 (a' := .int .i64 3) (b' := .bool false) (c' := .slice none 0 0) (d' := .string ⟨#[]⟩) (e' := .bool (decide (0 < q))) HZ.out
    have hb5 := below5 (B := w.heap.size + 1 + 1) (a := .int .i64 3) (b := .bool false) (c := .slice none 0 0) (d := .string ⟨#[]⟩) (e := .bool (decide (0 < q))) HB.out (by omega)
    exact bodyPost_ret (v := .tuple #[.agg #[.int .i64 3, .bool false, .slice none 0 0, .string ⟨#[]⟩, .bool (decide (0 < q))], .int .i64 0]) (res_ct rfl rfl rfl (resC hm)) rfl (by rw [HU.out]; exact ⟨⟨_, rfl, _, _, _, rfl, zero_num _ _⟩, hb5⟩)
  have zo0 : (op.toList == [60]) = false := by simpa using ho0
  have zo1 : (op.toList == [60, 61]) = false := by simpa using ho1
  have zo2 : (op.toList == [62]) = false := by simpa using ho2
  have HU : Hid (U = ⟨3, false, 0, ⟨#[]⟩, (decide (0 ≤ q)), 0⟩) := by show _ = _; rw [← HUU.out]; simp [cmA, cmO, ho0, ho1, ho2]
  clear HUU
  go_enter Tryd.func26, Tryd.ntmps26
  go_wp2_with fail
  refine (HC.out _ HB3.out).mono ?_
  rintro e x1 ⟨rfl, hb⟩
  have HBX : Hid (Below w.heap.size w x1) := HB3.out.trans (hb.mono HB3.out.size)
  have HZX : Hid (x1.heap[w.heap.size + 1 + 1]? = some (.cells #[.int .i64 0, .bool false, .slice none 0 0, .string ⟨#[]⟩, .bool false] 26 (0, 0))) := kept5 hb HZ3.out
  clear hb
  go_wp2_with fail
  refine (rbool_any (decide (0 ≤ q)) _).mono ?_
  rintro e y1 ⟨rfl, hb⟩
  have HZ : Hid (y1.heap[w.heap.size + 1 + 1]? = some (.cells #[.int .i64 0, .bool false, .slice none 0 0, .string ⟨#[]⟩, .bool false] 26 (0, 0))) := kept5 hb HZX.out
  have k5 := bx5 HZ.out
  have k5f := bx5f HZ.out
  have HB : Hid (Below w.heap.size w y1) := HBX.out.trans (hb.mono HBX.out.size)
  clear hb
  go_wp2_with fail
  have hm := set5 (a' := .int .i64 3) (b' := .bool false) (c' := .slice none 0 0) (d' := .string ⟨#[]⟩) (e' := .bool (decide (0 ≤ q))) HZ.out
  have hb5 := below5 (B := w.heap.size + 1 + 1) (a := .int .i64 3) (b := .bool false) (c := .slice none 0 0) (d := .string ⟨#[]⟩) (e := .bool (decide (0 ≤ q))) HB.out (by omega)
  exact bodyPost_ret (v := .tuple #[.agg #[.int .i64 3, .bool false, .slice none 0 0, .string ⟨#[]⟩, .bool (decide (0 ≤ q))], .int .i64 0]) (res_ct rfl rfl rfl (resC hm)) rfl (by rw [HU.out]; exact ⟨⟨_, rfl, _, _, _, rfl, zero_num _ _⟩, hb5⟩)
set_option maxRecDepth 100000 in
set_option maxHeartbeats 8000000 in
theorem rcm_2a (op : ByteArray) (s1 s2 : Bool) (ao : Option Addr) (n cap : Nat) (ap : Option Addr) (m capb : Nat) (t1 t2 : ByteArray) (b1 b2 : Bool) (w : World) (hlt : Op.bytesLess t1.toList t2.toList = true) :
    Calls Tryd.prog 26 #[.string op, cnV 2 s1 ao n cap t1 b1, cnV 2 s2 ap m capb t2 b2] w (AnsQ w (cmA op 2 (-1))) := by
  have HBX : Hid (Below w.heap.size w (((w.alloc (.cells #[.int .i64 2, .bool s1, .slice ao n cap, .string t1, .bool b1] 26)).alloc (.cells #[.int .i64 2, .bool s2, .slice ap m capb, .string t2, .bool b2] 26)).alloc (.cells #[.int .i64 0, .bool false, .slice none 0 0, .string ⟨#[]⟩, .bool false] 26))) := three_below w _ _ _
  have HZX : Hid ((((w.alloc (.cells #[.int .i64 2, .bool s1, .slice ao n cap, .string t1, .bool b1] 26)).alloc (.cells #[.int .i64 2, .bool s2, .slice ap m capb, .string t2, .bool b2] 26)).alloc (.cells #[.int .i64 0, .bool false, .slice none 0 0, .string ⟨#[]⟩, .bool false] 26)).heap[w.heap.size + 1 + 1]? = some (.cells #[.int .i64 0, .bool false, .slice none 0 0, .string ⟨#[]⟩, .bool false] 26 (0, 0))) := three_new _ _ _
  obtain ⟨U, hU⟩ : ∃ U, cmA op 2 (-1) = U := ⟨_, rfl⟩
  rw [hU]
  have HUU : Hid (cmA op 2 (-1) = U) := hU
  clear hU
  by_cases ho0 : op.toList = [60]
  · have HU : Hid (U = ⟨3, false, 0, ⟨#[]⟩, true, 0⟩) := by show _ = _; rw [← HUU.out]; simp [cmA, cmO, ho0]
    clear HUU
    go_enter Tryd.func26, Tryd.ntmps26
    go_wp2_with fail
    refine (rbool_any true _).mono ?_
    rintro e y1 ⟨rfl, hb⟩
    have HZ : Hid (y1.heap[w.heap.size + 1 + 1]? = some (.cells #[.int .i64 0, .bool false, .slice none 0 0, .string ⟨#[]⟩, .bool false] 26 (0, 0))) := kept5 hb HZX.out
    have k5 := bx5 HZ.out
    have k5f := bx5f HZ.out
    have HB : Hid (Below w.heap.size w y1) := HBX.out.trans (hb.mono HBX.out.size)
    clear hb
    go_wp2_with fail
    have hm := set5 (a' := .int .i64 3) (b' := .bool false) (c' := .slice none 0 0) (d' := .string ⟨#[]⟩) (e' := .bool true) HZ.out
    have hb5 := below5 (B := w.heap.size + 1 + 1) (a := .int .i64 3) (b := .bool false) (c := .slice none 0 0) (d := .string ⟨#[]⟩) (e := .bool true) HB.out (by omega)
    exact bodyPost_ret (v := .tuple #[.agg #[.int .i64 3, .bool false, .slice none 0 0, .string ⟨#[]⟩, .bool true], .int .i64 0]) (res_ct rfl rfl rfl (resC hm)) rfl (by rw [HU.out]; exact ⟨⟨_, rfl, _, _, _, rfl, zero_num _ _⟩, hb5⟩)
  by_cases ho1 : op.toList = [60, 61]
  · have zo0 : (op.toList == [60]) = false := by simpa using ho0
    have HU : Hid (U = ⟨3, false, 0, ⟨#[]⟩, true, 0⟩) := by show _ = _; rw [← HUU.out]; simp [cmA, cmO, ho1]
    clear HUU
    go_enter Tryd.func26, Tryd.ntmps26
    go_wp2_with fail
    refine (rbool_any true _).mono ?_
    rintro e y1 ⟨rfl, hb⟩
    have HZ : Hid (y1.heap[w.heap.size + 1 + 1]? = some (.cells #[.int .i64 0, .bool false, .slice none 0 0, .string ⟨#[]⟩, .bool false] 26 (0, 0))) := kept5 hb HZX.out
    have k5 := bx5 HZ.out
    have k5f := bx5f HZ.out
    have HB : Hid (Below w.heap.size w y1) := HBX.out.trans (hb.mono HBX.out.size)
    clear hb
    go_wp2_with fail
    have hm := set5 (a' := .int .i64 3) (b' := .bool false) (c' := .slice none 0 0) (d' := .string ⟨#[]⟩) (e' := .bool true) HZ.out
    have hb5 := below5 (B := w.heap.size + 1 + 1) (a := .int .i64 3) (b := .bool false) (c := .slice none 0 0) (d := .string ⟨#[]⟩) (e := .bool true) HB.out (by omega)
    exact bodyPost_ret (v := .tuple #[.agg #[.int .i64 3, .bool false, .slice none 0 0, .string ⟨#[]⟩, .bool true], .int .i64 0]) (res_ct rfl rfl rfl (resC hm)) rfl (by rw [HU.out]; exact ⟨⟨_, rfl, _, _, _, rfl, zero_num _ _⟩, hb5⟩)
  by_cases ho2 : op.toList = [62]
  · have zo0 : (op.toList == [60]) = false := by simpa using ho0
    have zo1 : (op.toList == [60, 61]) = false := by simpa using ho1
    have HU : Hid (U = ⟨3, false, 0, ⟨#[]⟩, false, 0⟩) := by show _ = _; rw [← HUU.out]; simp [cmA, cmO, ho2]
    clear HUU
    go_enter Tryd.func26, Tryd.ntmps26
    go_wp2_with fail
    refine (rbool_any false _).mono ?_
    rintro e y1 ⟨rfl, hb⟩
    have HZ : Hid (y1.heap[w.heap.size + 1 + 1]? = some (.cells #[.int .i64 0, .bool false, .slice none 0 0, .string ⟨#[]⟩, .bool false] 26 (0, 0))) := kept5 hb HZX.out
    have k5 := bx5 HZ.out
    have k5f := bx5f HZ.out
    have HB : Hid (Below w.heap.size w y1) := HBX.out.trans (hb.mono HBX.out.size)
    clear hb
    go_wp2_with fail
    have hm := set5 (a' := .int .i64 3) (b' := .bool false) (c' := .slice none 0 0) (d' := .string ⟨#[]⟩) (e' := .bool false) HZ.out
    have hb5 := below5 (B := w.heap.size + 1 + 1) (a := .int .i64 3) (b := .bool false) (c := .slice none 0 0) (d := .string ⟨#[]⟩) (e := .bool false) HB.out (by omega)
    exact bodyPost_ret (v := .tuple #[.agg #[.int .i64 3, .bool false, .slice none 0 0, .string ⟨#[]⟩, .bool false], .int .i64 0]) (res_ct rfl rfl rfl (resC hm)) rfl (by rw [HU.out]; exact ⟨⟨_, rfl, _, _, _, rfl, zero_num _ _⟩, hb5⟩)
  have zo0 : (op.toList == [60]) = false := by simpa using ho0
  have zo1 : (op.toList == [60, 61]) = false := by simpa using ho1
  have zo2 : (op.toList == [62]) = false := by simpa using ho2
  have HU : Hid (U = ⟨3, false, 0, ⟨#[]⟩, false, 0⟩) := by show _ = _; rw [← HUU.out]; simp [cmA, cmO, ho0, ho1, ho2]
  clear HUU
  go_enter Tryd.func26, Tryd.ntmps26
  go_wp2_with fail
  refine (rbool_any false _).mono ?_
  rintro e y1 ⟨rfl, hb⟩
  have HZ : Hid (y1.heap[w.heap.size + 1 + 1]? = some (.cells #[.int .i64 0, .bool false, .slice none 0 0, .string ⟨#[]⟩, .bool false] 26 (0, 0))) := kept5 hb HZX.out
  have k5 := bx5 HZ.out
  have k5f := bx5f HZ.out
  have HB : Hid (Below w.heap.size w y1) := HBX.out.trans (hb.mono HBX.out.size)
  clear hb
  go_wp2_with fail
  have hm := set5 (a' := .int .i64 3) (b' := .bool false) (c' := .slice none 0 0) (d' := .string ⟨#[]⟩) (e' := .bool false) HZ.out
  have hb5 := below5 (B := w.heap.size + 1 + 1) (a := .int .i64 3) (b := .bool false) (c := .slice none 0 0) (d := .string ⟨#[]⟩) (e := .bool false) HB.out (by omega)
  exact bodyPost_ret (v := .tuple #[.agg #[.int .i64 3, .bool false, .slice none 0 0, .string ⟨#[]⟩, .bool false], .int .i64 0]) (res_ct rfl rfl rfl (resC hm)) rfl (by rw [HU.out]; exact ⟨⟨_, rfl, _, _, _, rfl, zero_num _ _⟩, hb5⟩)
set_option maxRecDepth 100000 in
set_option maxHeartbeats 8000000 in
theorem rcm_2b (op : ByteArray) (s1 s2 : Bool) (ao : Option Addr) (n cap : Nat) (ap : Option Addr) (m capb : Nat) (t1 t2 : ByteArray) (b1 b2 : Bool) (w : World) (hlt : Op.bytesLess t1.toList t2.toList = false) (heq : t1.toList = t2.toList) :
    Calls Tryd.prog 26 #[.string op, cnV 2 s1 ao n cap t1 b1, cnV 2 s2 ap m capb t2 b2] w (AnsQ w (cmA op 2 (0))) := by
  have zq : (!t1.toList == t2.toList) = false := by simp [heq]
  have zq2 : (t1.toList == t2.toList) = true := by simp [heq]
  clear heq
  have HBX : Hid (Below w.heap.size w (((w.alloc (.cells #[.int .i64 2, .bool s1, .slice ao n cap, .string t1, .bool b1] 26)).alloc (.cells #[.int .i64 2, .bool s2, .slice ap m capb, .string t2, .bool b2] 26)).alloc (.cells #[.int .i64 0, .bool false, .slice none 0 0, .string ⟨#[]⟩, .bool false] 26))) := three_below w _ _ _
  have HZX : Hid ((((w.alloc (.cells #[.int .i64 2, .bool s1, .slice ao n cap, .string t1, .bool b1] 26)).alloc (.cells #[.int .i64 2, .bool s2, .slice ap m capb, .string t2, .bool b2] 26)).alloc (.cells #[.int .i64 0, .bool false, .slice none 0 0, .string ⟨#[]⟩, .bool false] 26)).heap[w.heap.size + 1 + 1]? = some (.cells #[.int .i64 0, .bool false, .slice none 0 0, .string ⟨#[]⟩, .bool false] 26 (0, 0))) := three_new _ _ _
  obtain ⟨U, hU⟩ : ∃ U, cmA op 2 (0) = U := ⟨_, rfl⟩
  rw [hU]
  have HUU : Hid (cmA op 2 (0) = U) := hU
  clear hU
  by_cases ho0 : op.toList = [60]
  · have HU : Hid (U = ⟨3, false, 0, ⟨#[]⟩, false, 0⟩) := by show _ = _; rw [← HUU.out]; simp [cmA, cmO, ho0]
    clear HUU
    go_enter Tryd.func26, Tryd.ntmps26
    go_wp2_with fail
    refine (rbool_any false _).mono ?_
    rintro e y1 ⟨rfl, hb⟩
    have HZ : Hid (y1.heap[w.heap.size + 1 + 1]? = some (.cells #[.int .i64 0, .bool false, .slice none 0 0, .string ⟨#[]⟩, .bool false] 26 (0, 0))) := kept5 hb HZX.out
    have k5 := bx5 HZ.out
    have k5f := bx5f HZ.out
    have HB : Hid (Below w.heap.size w y1) := HBX.out.trans (hb.mono HBX.out.size)
    clear hb
    go_wp2_with fail
    have hm := set5 (a' := .int .i64 3) (b' := .bool false) (c' := .slice none 0 0) (d' := .string ⟨#[]⟩) (e' := .bool false) HZ.out
    have hb5 := below5 (B := w.heap.size + 1 + 1) (a := .int .i64 3) (b := .bool false) (c := .slice none 0 0) (d := .string ⟨#[]⟩) (e := .bool false) HB.out (by omega)
    exact bodyPost_ret (v := .tuple #[.agg #[.int .i64 3, .bool false, .slice none 0 0, .string ⟨#[]⟩, .bool false], .int .i64 0]) (res_ct rfl rfl rfl (resC hm)) rfl (by rw [HU.out]; exact ⟨⟨_, rfl, _, _, _, rfl, zero_num _ _⟩, hb5⟩)
  by_cases ho1 : op.toList = [60, 61]
  · have zo0 : (op.toList == [60]) = false := by simpa using ho0
    have HU : Hid (U = ⟨3, false, 0, ⟨#[]⟩, true, 0⟩) := by show _ = _; rw [← HUU.out]; simp [cmA, cmO, ho1]
    clear HUU
    go_enter Tryd.func26, Tryd.ntmps26
    go_wp2_with fail
    refine (rbool_any true _).mono ?_
    rintro e y1 ⟨rfl, hb⟩
    have HZ : Hid (y1.heap[w.heap.size + 1 + 1]? = some (.cells #[.int .i64 0, .bool false, .slice none 0 0, .string ⟨#[]⟩, .bool false] 26 (0, 0))) := kept5 hb HZX.out
    have k5 := bx5 HZ.out
    have k5f := bx5f HZ.out
    have HB : Hid (Below w.heap.size w y1) := HBX.out.trans (hb.mono HBX.out.size)
    clear hb
    go_wp2_with fail
    have hm := set5 (a' := .int .i64 3) (b' := .bool false) (c' := .slice none 0 0) (d' := .string ⟨#[]⟩) (e' := .bool true) HZ.out
    have hb5 := below5 (B := w.heap.size + 1 + 1) (a := .int .i64 3) (b := .bool false) (c := .slice none 0 0) (d := .string ⟨#[]⟩) (e := .bool true) HB.out (by omega)
    exact bodyPost_ret (v := .tuple #[.agg #[.int .i64 3, .bool false, .slice none 0 0, .string ⟨#[]⟩, .bool true], .int .i64 0]) (res_ct rfl rfl rfl (resC hm)) rfl (by rw [HU.out]; exact ⟨⟨_, rfl, _, _, _, rfl, zero_num _ _⟩, hb5⟩)
  by_cases ho2 : op.toList = [62]
  · have zo0 : (op.toList == [60]) = false := by simpa using ho0
    have zo1 : (op.toList == [60, 61]) = false := by simpa using ho1
    have HU : Hid (U = ⟨3, false, 0, ⟨#[]⟩, false, 0⟩) := by show _ = _; rw [← HUU.out]; simp [cmA, cmO, ho2]
    clear HUU
    go_enter Tryd.func26, Tryd.ntmps26
    go_wp2_with fail
    refine (rbool_any false _).mono ?_
    rintro e y1 ⟨rfl, hb⟩
    have HZ : Hid (y1.heap[w.heap.size + 1 + 1]? = some (.cells #[.int .i64 0, .bool false, .slice none 0 0, .string ⟨#[]⟩, .bool false] 26 (0, 0))) := kept5 hb HZX.out
    have k5 := bx5 HZ.out
    have k5f := bx5f HZ.out
    have HB : Hid (Below w.heap.size w y1) := HBX.out.trans (hb.mono HBX.out.size)
    clear hb
    go_wp2_with fail
    have hm := set5 (a' := .int .i64 3) (b' := .bool false) (c' := .slice none 0 0) (d' := .string ⟨#[]⟩) (e' := .bool false) HZ.out
    have hb5 := below5 (B := w.heap.size + 1 + 1) (a := .int .i64 3) (b := .bool false) (c := .slice none 0 0) (d := .string ⟨#[]⟩) (e := .bool false) HB.out (by omega)
    exact bodyPost_ret (v := .tuple #[.agg #[.int .i64 3, .bool false, .slice none 0 0, .string ⟨#[]⟩, .bool false], .int .i64 0]) (res_ct rfl rfl rfl (resC hm)) rfl (by rw [HU.out]; exact ⟨⟨_, rfl, _, _, _, rfl, zero_num _ _⟩, hb5⟩)
  have zo0 : (op.toList == [60]) = false := by simpa using ho0
  have zo1 : (op.toList == [60, 61]) = false := by simpa using ho1
  have zo2 : (op.toList == [62]) = false := by simpa using ho2
  have HU : Hid (U = ⟨3, false, 0, ⟨#[]⟩, true, 0⟩) := by show _ = _; rw [← HUU.out]; simp [cmA, cmO, ho0, ho1, ho2]
  clear HUU
  go_enter Tryd.func26, Tryd.ntmps26
  go_wp2_with fail
  refine (rbool_any true _).mono ?_
  rintro e y1 ⟨rfl, hb⟩
  have HZ : Hid (y1.heap[w.heap.size + 1 + 1]? = some (.cells #[.int .i64 0, .bool false, .slice none 0 0, .string ⟨#[]⟩, .bool false] 26 (0, 0))) := kept5 hb HZX.out
  have k5 := bx5 HZ.out
  have k5f := bx5f HZ.out
  have HB : Hid (Below w.heap.size w y1) := HBX.out.trans (hb.mono HBX.out.size)
  clear hb
  go_wp2_with fail
  have hm := set5 (a' := .int .i64 3) (b' := .bool false) (c' := .slice none 0 0) (d' := .string ⟨#[]⟩) (e' := .bool true) HZ.out
  have hb5 := below5 (B := w.heap.size + 1 + 1) (a := .int .i64 3) (b := .bool false) (c := .slice none 0 0) (d := .string ⟨#[]⟩) (e := .bool true) HB.out (by omega)
  exact bodyPost_ret (v := .tuple #[.agg #[.int .i64 3, .bool false, .slice none 0 0, .string ⟨#[]⟩, .bool true], .int .i64 0]) (res_ct rfl rfl rfl (resC hm)) rfl (by rw [HU.out]; exact ⟨⟨_, rfl, _, _, _, rfl, zero_num _ _⟩, hb5⟩)
set_option maxRecDepth 100000 in
set_option maxHeartbeats 8000000 in
theorem rcm_2c (op : ByteArray) (s1 s2 : Bool) (ao : Option Addr) (n cap : Nat) (ap : Option Addr) (m capb : Nat) (t1 t2 : ByteArray) (b1 b2 : Bool) (w : World) (hlt : Op.bytesLess t1.toList t2.toList = false) (heq : ¬ t1.toList = t2.toList) :
    Calls Tryd.prog 26 #[.string op, cnV 2 s1 ao n cap t1 b1, cnV 2 s2 ap m capb t2 b2] w (AnsQ w (cmA op 2 (1))) := by
  have zq : (!t1.toList == t2.toList) = true := by simp [heq]
  have zq2 : (t1.toList == t2.toList) = false := by simp [heq]
  clear heq
  have HBX : Hid (Below w.heap.size w (((w.alloc (.cells #[.int .i64 2, .bool s1, .slice ao n cap, .string t1, .bool b1] 26)).alloc (.cells #[.int .i64 2, .bool s2, .slice ap m capb, .string t2, .bool b2] 26)).alloc (.cells #[.int .i64 0, .bool false, .slice none 0 0, .string ⟨#[]⟩, .bool false] 26))) := three_below w _ _ _
  have HZX : Hid ((((w.alloc (.cells #[.int .i64 2, .bool s1, .slice ao n cap, .string t1, .bool b1] 26)).alloc (.cells #[.int .i64 2, .bool s2, .slice ap m capb, .string t2, .bool b2] 26)).alloc (.cells #[.int .i64 0, .bool false, .slice none 0 0, .string ⟨#[]⟩, .bool false] 26)).heap[w.heap.size + 1 + 1]? = some (.cells #[.int .i64 0, .bool false, .slice none 0 0, .string ⟨#[]⟩, .bool false] 26 (0, 0))) := three_new _ _ _
  obtain ⟨U, hU⟩ : ∃ U, cmA op 2 (1) = U := ⟨_, rfl⟩
  rw [hU]
  have HUU : Hid (cmA op 2 (1) = U) := hU
  clear hU
  by_cases ho0 : op.toList = [60]
  · have HU : Hid (U = ⟨3, false, 0, ⟨#[]⟩, false, 0⟩) := by show _ = _; rw [← HUU.out]; simp [cmA, cmO, ho0]
    clear HUU
    go_enter Tryd.func26, Tryd.ntmps26
    go_wp2_with fail
    refine (rbool_any false _).mono ?_
    rintro e y1 ⟨rfl, hb⟩
    have HZ : Hid (y1.heap[w.heap.size + 1 + 1]? = some (.cells #[.int .i64 0, .bool false, .slice none 0 0, .string ⟨#[]⟩, .bool false] 26 (0, 0))) := kept5 hb HZX.out
    have k5 := bx5 HZ.out
    have k5f := bx5f HZ.out
    have HB : Hid (Below w.heap.size w y1) := HBX.out.trans (hb.mono HBX.out.size)
    clear hb
    go_wp2_with fail
    have hm := set5 (a' := .int .i64 3) (b' := .bool false) (c' := .slice none 0 0) (d' := .string ⟨#[]⟩) (e' := .bool false) HZ.out
    have hb5 := below5 (B := w.heap.size + 1 + 1) (a := .int .i64 3) (b := .bool false) (c := .slice none 0 0) (d := .string ⟨#[]⟩) (e := .bool false) HB.out (by omega)
    exact bodyPost_ret (v := .tuple #[.agg #[.int .i64 3, .bool false, .slice none 0 0, .string ⟨#[]⟩, .bool false], .int .i64 0]) (res_ct rfl rfl rfl (resC hm)) rfl (by rw [HU.out]; exact ⟨⟨_, rfl, _, _, _, rfl, zero_num _ _⟩, hb5⟩)
  by_cases ho1 : op.toList = [60, 61]
  · have zo0 : (op.toList == [60]) = false := by simpa using ho0
    have HU : Hid (U = ⟨3, false, 0, ⟨#[]⟩, false, 0⟩) := by show _ = _; rw [← HUU.out]; simp [cmA, cmO, ho1]
    clear HUU
    go_enter Tryd.func26, Tryd.ntmps26
    go_wp2_with fail
    refine (rbool_any false _).mono ?_
    rintro e y1 ⟨rfl, hb⟩
    have HZ : Hid (y1.heap[w.heap.size + 1 + 1]? = some (.cells #[.int .i64 0, .bool false, .slice none 0 0, .string ⟨#[]⟩, .bool false] 26 (0, 0))) := kept5 hb HZX.out
    have k5 := bx5 HZ.out
    have k5f := bx5f HZ.out
    have HB : Hid (Below w.heap.size w y1) := HBX.out.trans (hb.mono HBX.out.size)
    clear hb
    go_wp2_with fail
    have hm := set5 (a' := .int .i64 3) (b' := .bool false) (c' := .slice none 0 0) (d' := .string ⟨#[]⟩) (e' := .bool false) HZ.out
    have hb5 := below5 (B := w.heap.size + 1 + 1) (a := .int .i64 3) (b := .bool false) (c := .slice none 0 0) (d := .string ⟨#[]⟩) (e := .bool false) HB.out (by omega)
    exact bodyPost_ret (v := .tuple #[.agg #[.int .i64 3, .bool false, .slice none 0 0, .string ⟨#[]⟩, .bool false], .int .i64 0]) (res_ct rfl rfl rfl (resC hm)) rfl (by rw [HU.out]; exact ⟨⟨_, rfl, _, _, _, rfl, zero_num _ _⟩, hb5⟩)
  by_cases ho2 : op.toList = [62]
  · have zo0 : (op.toList == [60]) = false := by simpa using ho0
    have zo1 : (op.toList == [60, 61]) = false := by simpa using ho1
    have HU : Hid (U = ⟨3, false, 0, ⟨#[]⟩, true, 0⟩) := by show _ = _; rw [← HUU.out]; simp [cmA, cmO, ho2]
    clear HUU
    go_enter Tryd.func26, Tryd.ntmps26
    go_wp2_with fail
    refine (rbool_any true _).mono ?_
    rintro e y1 ⟨rfl, hb⟩
    have HZ : Hid (y1.heap[w.heap.size + 1 + 1]? = some (.cells #[.int .i64 0, .bool false, .slice none 0 0, .string ⟨#[]⟩, .bool false] 26 (0, 0))) := kept5 hb HZX.out
    have k5 := bx5 HZ.out
    have k5f := bx5f HZ.out
    have HB : Hid (Below w.heap.size w y1) := HBX.out.trans (hb.mono HBX.out.size)
    clear hb
    go_wp2_with fail
    have hm := set5 (a' := .int .i64 3) (b' := .bool false) (c' := .slice none 0 0) (d' := .string ⟨#[]⟩) (e' := .bool true) HZ.out
    have hb5 := below5 (B := w.heap.size + 1 + 1) (a := .int .i64 3) (b := .bool false) (c := .slice none 0 0) (d := .string ⟨#[]⟩) (e := .bool true) HB.out (by omega)
    exact bodyPost_ret (v := .tuple #[.agg #[.int .i64 3, .bool false, .slice none 0 0, .string ⟨#[]⟩, .bool true], .int .i64 0]) (res_ct rfl rfl rfl (resC hm)) rfl (by rw [HU.out]; exact ⟨⟨_, rfl, _, _, _, rfl, zero_num _ _⟩, hb5⟩)
  have zo0 : (op.toList == [60]) = false := by simpa using ho0
  have zo1 : (op.toList == [60, 61]) = false := by simpa using ho1
  have zo2 : (op.toList == [62]) = false := by simpa using ho2
  have HU : Hid (U = ⟨3, false, 0, ⟨#[]⟩, true, 0⟩) := by show _ = _; rw [← HUU.out]; simp [cmA, cmO, ho0, ho1, ho2]
  clear HUU
  go_enter Tryd.func26, Tryd.ntmps26
  go_wp2_with fail
  refine (rbool_any true _).mono ?_
  rintro e y1 ⟨rfl, hb⟩
  have HZ : Hid (y1.heap[w.heap.size + 1 + 1]? = some (.cells #[.int .i64 0, .bool false, .slice none 0 0, .string ⟨#[]⟩, .bool false] 26 (0, 0))) := kept5 hb HZX.out
  have k5 := bx5 HZ.out
  have k5f := bx5f HZ.out
  have HB : Hid (Below w.heap.size w y1) := HBX.out.trans (hb.mono HBX.out.size)
  clear hb
  go_wp2_with fail
  have hm := set5 (a' := .int .i64 3) (b' := .bool false) (c' := .slice none 0 0) (d' := .string ⟨#[]⟩) (e' := .bool true) HZ.out
  have hb5 := below5 (B := w.heap.size + 1 + 1) (a := .int .i64 3) (b := .bool false) (c := .slice none 0 0) (d := .string ⟨#[]⟩) (e := .bool true) HB.out (by omega)
  exact bodyPost_ret (v := .tuple #[.agg #[.int .i64 3, .bool false, .slice none 0 0, .string ⟨#[]⟩, .bool true], .int .i64 0]) (res_ct rfl rfl rfl (resC hm)) rfl (by rw [HU.out]; exact ⟨⟨_, rfl, _, _, _, rfl, zero_num _ _⟩, hb5⟩)
set_option maxRecDepth 100000 in
set_option maxHeartbeats 8000000 in
theorem rcm_3 (op : ByteArray) (s1 s2 : Bool) (ao : Option Addr) (n cap : Nat) (ap : Option Addr) (m capb : Nat) (t1 t2 : ByteArray) (b1 b2 : Bool) (w : World) (q : Int) :
    Calls Tryd.prog 26 #[.string op, cnV 3 s1 ao n cap t1 b1, cnV 3 s2 ap m capb t2 b2] w (AnsQ w (cmA op 3 q)) := by
  have HBX : Hid (Below w.heap.size w (((w.alloc (.cells #[.int .i64 3, .bool s1, .slice ao n cap, .string t1, .bool b1] 26)).alloc (.cells #[.int .i64 3, .bool s2, .slice ap m capb, .string t2, .bool b2] 26)).alloc (.cells #[.int .i64 0, .bool false, .slice none 0 0, .string ⟨#[]⟩, .bool false] 26))) := three_below w _ _ _
  have HZX : Hid ((((w.alloc (.cells #[.int .i64 3, .bool s1, .slice ao n cap, .string t1, .bool b1] 26)).alloc (.cells #[.int .i64 3, .bool s2, .slice ap m capb, .string t2, .bool b2] 26)).alloc (.cells #[.int .i64 0, .bool false, .slice none 0 0, .string ⟨#[]⟩, .bool false] 26)).heap[w.heap.size + 1 + 1]? = some (.cells #[.int .i64 0, .bool false, .slice none 0 0, .string ⟨#[]⟩, .bool false] 26 (0, 0))) := three_new _ _ _
  rw [show cmA op 3 q = noA 6 by simp [cmA]]
  go_enter Tryd.func26, Tryd.ntmps26
  go_wp2_with fail
  exact bodyPost_ret (v := .tuple #[.agg #[.int .i64 0, .bool false, .slice none 0 0, .string ⟨#[]⟩, .bool false], .int .i64 6]) (res_ct rfl rfl rfl (resC HZX.out)) rfl ⟨⟨_, rfl, _, _, _, rfl, zero_num _ _⟩, HBX.out⟩
end Go.Proofs.YtfkkhabpnnealaaDoor

