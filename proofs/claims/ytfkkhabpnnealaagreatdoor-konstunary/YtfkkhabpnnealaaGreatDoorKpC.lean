/-
  konst's compared, joined, reckoned, walked.
-/
import Derived.Test.YtfkkhabpnnealaaGreatDoorKpB
import Derived.Test.YtfkkhabpnnealaaGreatDoorKoG
import Derived.Test.YtfkkhabpnnealaaGreatDoorWlkP
import Derived.Test.YtfkkhabpnnealaaGreatDoorShfA
namespace Go.Proofs.YtfkkhabpnnealaaGreatDoor
open Go.RowKit
attribute [local go_sem ↓] Go.wp_at_zero Go.wp_at_succ
theorem cmpB_eq : ∀ (x y : List UInt8), Lib.compareBytes x y = if Op.bytesLess x y = true then -1 else if x = y then 0 else 1
  | [], [] => by simp [Lib.compareBytes, Op.bytesLess]
  | [], b :: y => by simp [Lib.compareBytes, Op.bytesLess]
  | a :: x, [] => by simp [Lib.compareBytes, Op.bytesLess]
  | a :: x, b :: y => by
    rw [Lib.compareBytes, cmpB_eq x y]
    by_cases h : a < b
    · simp [Op.bytesLess, h]
    · by_cases h2 : b < a
      · have h3 : a ≠ b := by intro e; subst e; exact h h2
        simp [Op.bytesLess, h, h2, h3]
      · have h3 : a = b := UInt8.le_antisymm (UInt8.not_lt.1 h2) (UInt8.not_lt.1 h)
        subst h3
        simp [Op.bytesLess, h]
/-- how konst holds two constants of one kind against each other -/
def cmK (k : Int) (s1 : Bool) (N1 : Nat) (t1 : ByteArray) (b1 : Bool) (s2 : Bool) (N2 : Nat) (t2 : ByteArray) (b2 : Bool) : Int :=
  if k = 1 then cmpV s1 N1 s2 N2 else if k = 2 then (if Op.bytesLess t1.toList t2.toList = true then -1 else if t1.toList = t2.toList then 0 else 1) else if k = 3 then (if b1 = b2 then 0 else 1) else 0
set_option maxRecDepth 100000 in
set_option maxHeartbeats 8000000 in
theorem compared_k (k : Int) (s1 s2 : Bool) (ao : Option Addr) (n cap : Nat) (l : List Nat) (ap : Option Addr) (m capb : Nat) (p : List Nat) (t1 t2 : ByteArray) (b1 b2 : Bool) (w : World) (hl : Sl w ao n cap l) (hp : Sl w ap m capb p) (hn : n ≤ 1000) (hm : m ≤ 1000) :
    Calls Tryz.prog 28 #[cnV k s1 ao n cap t1 b1, cnV k s2 ap m capb t2 b2] w fun e w' => e = .returned (.int .i64 (cmK k s1 (vl 4294967296 l) t1 b1 s2 (vl 4294967296 p) t2 b2)) ∧ Below w.heap.size w w' := by
  obtain ⟨q, hq⟩ : ∃ q, cmpV s1 (vl 4294967296 l) s2 (vl 4294967296 p) = q := ⟨_, rfl⟩
  have HC : Hid (∀ W, Below w.heap.size w W → Calls Tryz.prog 50 #[.agg #[.bool s1, .slice ao n cap], .agg #[.bool s2, .slice ap m capb]] W fun e w' => e = .returned (.int .i64 q) ∧ Below W.heap.size W w') := fun W hb => by
    have := compare_any s1 s2 ao n cap l ap m capb p W (hl.below hb (Nat.le_refl _)) (hp.below hb (Nat.le_refl _)) hn hm
    rwa [hq] at this
  obtain ⟨r, hr⟩ : ∃ r, Lib.compareBytes t1.data.toList t2.data.toList = r := ⟨_, rfl⟩
  have HS : Hid (∀ W, Calls Tryz.prog 51 #[.string t1, .string t2] W fun e w' => e = .returned (.int .i64 r) ∧ w' = W) := fun W => by
    have := Go.Proofs.Any.strings_Compare Tryz.lays106 t1 t2 W
    rwa [hr] at this
  have HB2 : Hid (∀ a b : Obj, Below w.heap.size w ((w.alloc a).alloc b)) := fun a b => two_below w a b
  have HK : Hid (cmK k s1 (vl 4294967296 l) t1 b1 s2 (vl 4294967296 p) t2 b2 = if k = 1 then q else if k = 2 then r else if k = 3 then (if b1 = b2 then 0 else 1) else 0) := by
    show _ = _
    unfold cmK
    rw [hq, ← hr, cmpB_eq, ← Lib.toList_data, ← Lib.toList_data]
  generalize cmK k s1 (vl 4294967296 l) t1 b1 s2 (vl 4294967296 p) t2 b2 = R at *
  clear hl hp hn hm hq hr
  by_cases e1 : k = 1
  · subst e1
    have HR : Hid (R = q) := by show _ = _; rw [HK.out]; simp
    clear HK HS
    go_enter Tryz.func28, Tryz.ntmps28
    go_wp2_with (go_at_call 50; refine (HC.out _ (HB2.out _ _)).mono ?_; rintro e x1 ⟨rfl, hb⟩; have HB : Hid (Below w.heap.size w x1) := (HB2.out _ _).trans (hb.mono (HB2.out _ _).size); clear hb)
    go_ret
    exact ⟨by rw [HR.out]; rfl, HB.out⟩
  have z1 : (k == 1) = false := by simpa using e1
  by_cases e2 : k = 2
  · subst e2
    have HR : Hid (R = r) := by show _ = _; rw [HK.out]; simp
    clear HK HC
    go_enter Tryz.func28, Tryz.ntmps28
    go_wp2_with (go_at_call 51; refine (HS.out _).mono ?_; rintro e x1 ⟨rfl, hw⟩; obtain rfl := hw.symm; clear hw)
    go_ret
    exact ⟨by rw [HR.out]; rfl, HB2.out _ _⟩
  have z2 : (k == 2) = false := by simpa using e2
  clear HC HS
  by_cases e3 : k = 3
  · subst e3
    by_cases eb : b1 = b2
    · subst eb
      have HR : Hid (R = 0) := by show _ = _; rw [HK.out]; simp
      clear HK
      go_enter Tryz.func28, Tryz.ntmps28
      go_wp2_with fail
      go_ret
      exact ⟨by rw [HR.out]; rfl, HB2.out _ _⟩
    · have HR : Hid (R = 1) := by show _ = _; rw [HK.out]; simp [eb]
      have zb : (b1 == b2) = false := by simpa using eb
      clear HK eb
      go_enter Tryz.func28, Tryz.ntmps28
      go_wp2_with fail
      go_ret
      exact ⟨by rw [HR.out]; rfl, HB2.out _ _⟩
  have z3 : (k == 3) = false := by simpa using e3
  have HR : Hid (R = 0) := by show _ = _; rw [HK.out]; simp [e1, e2, e3]
  clear HK
  go_enter Tryz.func28, Tryz.ntmps28
  go_wp2_with fail
  go_ret
  exact ⟨by rw [HR.out]; rfl, HB2.out _ _⟩
set_option maxRecDepth 100000 in
set_option maxHeartbeats 8000000 in
theorem joined_any (t1 t2 : ByteArray) (w : World) (h1 : t1.size ≤ 1000000) (h2 : t2.size ≤ 1000000) :
    Calls Tryz.prog 43 #[.string t1, .string t2] w (AnsQ w (if 65536 < t1.size + t2.size then noA 2 else ⟨2, false, 0, t1 ++ t2, false, 0⟩)) := by
  have HB1 : Hid (Below w.heap.size w (w.alloc (.cells #[.int .i64 0, .bool false, .slice none 0 0, .string ⟨#[]⟩, .bool false] 26))) := (Below.refl _ w).alloc (Nat.le_refl _) _
  have HZ1 : Hid ((w.alloc (.cells #[.int .i64 0, .bool false, .slice none 0 0, .string ⟨#[]⟩, .bool false] 26)).heap[w.heap.size]? = some (.cells #[.int .i64 0, .bool false, .slice none 0 0, .string ⟨#[]⟩, .bool false] 26 (0, 0))) := new_blk w _
  have hc : ¬ 9223372036854775807 < t1.size + t2.size := by omega
  have hw : IntKind.i64.wrap ((t1.size : Int) + (t2.size : Int)) = (t1.size : Int) + (t2.size : Int) := wrap_small _ (by omega) (by omega)
  by_cases hg : 65536 < t1.size + t2.size
  · rw [if_pos hg]
    have hg2 : decide ((65536 : Int) < (t1.size : Int) + (t2.size : Int)) = true := by simp; omega
    go_enter Tryz.func43, Tryz.ntmps43
    go_wp2_with fail
    exact bodyPost_ret (v := .tuple #[.agg #[.int .i64 0, .bool false, .slice none 0 0, .string ⟨#[]⟩, .bool false], .int .i64 2]) (res_ct rfl rfl rfl (resC HZ1.out)) rfl ⟨⟨_, rfl, _, _, _, rfl, zero_num _ _⟩, HB1.out⟩
  · rw [if_neg hg]
    have hg2 : decide ((65536 : Int) < (t1.size : Int) + (t2.size : Int)) = false := by simp; omega
    go_enter Tryz.func43, Tryz.ntmps43
    go_wp2_with fail
    refine (kstr_any (t1 ++ t2) _).mono ?_
    rintro e y1 ⟨rfl, hb⟩
    have HZ : Hid (y1.heap[w.heap.size]? = some (.cells #[.int .i64 0, .bool false, .slice none 0 0, .string ⟨#[]⟩, .bool false] 26 (0, 0))) := kept5 hb HZ1.out
    have HB : Hid (Below w.heap.size w y1) := HB1.out.trans (hb.mono HB1.out.size)
    clear hb
    have k5 := bx5 HZ.out
    have k5f := bx5f HZ.out
    go_wp2_with fail
    have hm := set5 (a' := .int .i64 2) (b' := .bool false) (c' := .slice none 0 0) (d' := .string (t1 ++ t2)) (e' := .bool false) HZ.out
    have hb5 := below5 (B := w.heap.size) (a := .int .i64 2) (b := .bool false) (c := .slice none 0 0) (d := .string (t1 ++ t2)) (e := .bool false) HB.out (Nat.le_refl _)
    exact bodyPost_ret (v := .tuple #[.agg #[.int .i64 2, .bool false, .slice none 0 0, .string (t1 ++ t2), .bool false], .int .i64 0]) (res_ct rfl rfl rfl (resC hm)) rfl ⟨⟨_, rfl, _, _, _, rfl, zero_num _ _⟩, hb5⟩
set_option maxRecDepth 100000 in
set_option maxHeartbeats 8000000 in
theorem rk_ad (op : ByteArray) (s1 s2 : Bool) (ao : Option Addr) (n cap : Nat) (ap : Option Addr) (m capb : Nat) (e1 : Int) (q1 : Bool) (M1 : Nat) (w : World) (ho : op.toList = [43])
    (had : ∀ W, Below w.heap.size w W → Calls Tryz.prog 62 #[.agg #[.bool s1, .slice ao n cap], .agg #[.bool s2, .slice ap m capb]] W fun e w' => (∃ v, e = .returned (.tuple #[v, .int .i64 e1]) ∧ IntR w' W.heap.size v q1 M1) ∧ Below W.heap.size W w') :
    Calls Tryz.prog 44 #[.string op, .agg #[.bool s1, .slice ao n cap], .agg #[.bool s2, .slice ap m capb]] w (AnsQ w (arA e1 q1 M1)) := by
  have HAD : Hid (∀ W, Below w.heap.size w W → Calls Tryz.prog 62 #[.agg #[.bool s1, .slice ao n cap], .agg #[.bool s2, .slice ap m capb]] W fun e w' => (∃ v, e = .returned (.tuple #[v, .int .i64 e1]) ∧ IntR w' W.heap.size v q1 M1) ∧ Below W.heap.size W w') := had
  have HB3 : Hid (Below w.heap.size w (((w.alloc (.cells #[.bool s1, .slice ao n cap] 24)).alloc (.cells #[.bool s2, .slice ap m capb] 24)).alloc (.cells #[.int .i64 0, .bool false, .slice none 0 0, .string ⟨#[]⟩, .bool false] 26))) := three_below w _ _ _
  have HZ3 : Hid ((((w.alloc (.cells #[.bool s1, .slice ao n cap] 24)).alloc (.cells #[.bool s2, .slice ap m capb] 24)).alloc (.cells #[.int .i64 0, .bool false, .slice none 0 0, .string ⟨#[]⟩, .bool false] 26)).heap[w.heap.size + 1 + 1]? = some (.cells #[.int .i64 0, .bool false, .slice none 0 0, .string ⟨#[]⟩, .bool false] 26 (0, 0))) := three_new _ _ _
  have HS3 : Hid ((((w.alloc (.cells #[.bool s1, .slice ao n cap] 24)).alloc (.cells #[.bool s2, .slice ap m capb] 24)).alloc (.cells #[.int .i64 0, .bool false, .slice none 0 0, .string ⟨#[]⟩, .bool false] 26)).heap.size = w.heap.size + 3) := by show _ = _; simp
  have HB4 : Hid (Below w.heap.size w ((((w.alloc (.cells #[.bool s1, .slice ao n cap] 24)).alloc (.cells #[.bool s2, .slice ap m capb] 24)).alloc (.cells #[.int .i64 0, .bool false, .slice none 0 0, .string ⟨#[]⟩, .bool false] 26)).alloc (.cells #[.bool false, .slice none 0 0] 24))) := HB3.out.alloc (by rw [HS3.out]; omega) _
  have HZ4 : Hid (((((w.alloc (.cells #[.bool s1, .slice ao n cap] 24)).alloc (.cells #[.bool s2, .slice ap m capb] 24)).alloc (.cells #[.int .i64 0, .bool false, .slice none 0 0, .string ⟨#[]⟩, .bool false] 26)).alloc (.cells #[.bool false, .slice none 0 0] 24)).heap[w.heap.size + 1 + 1]? = some (.cells #[.int .i64 0, .bool false, .slice none 0 0, .string ⟨#[]⟩, .bool false] 26 (0, 0))) := kept5 ((Below.refl _ _).alloc (Nat.le_refl _) _) HZ3.out
  have HY4 : Hid (((((w.alloc (.cells #[.bool s1, .slice ao n cap] 24)).alloc (.cells #[.bool s2, .slice ap m capb] 24)).alloc (.cells #[.int .i64 0, .bool false, .slice none 0 0, .string ⟨#[]⟩, .bool false] 26)).alloc (.cells #[.bool false, .slice none 0 0] 24)).heap[w.heap.size + 1 + 1 + 1]? = some (.cells #[.bool false, .slice none 0 0] 24 (0, 0))) := by
    have := new_blk (((w.alloc (.cells #[.bool s1, .slice ao n cap] 24)).alloc (.cells #[.bool s2, .slice ap m capb] 24)).alloc (.cells #[.int .i64 0, .bool false, .slice none 0 0, .string ⟨#[]⟩, .bool false] 26)) (.cells #[.bool false, .slice none 0 0] 24)
    rw [World.size_alloc, World.size_alloc, World.size_alloc] at this
    exact this
  have HS4 : Hid (((((w.alloc (.cells #[.bool s1, .slice ao n cap] 24)).alloc (.cells #[.bool s2, .slice ap m capb] 24)).alloc (.cells #[.int .i64 0, .bool false, .slice none 0 0, .string ⟨#[]⟩, .bool false] 26)).alloc (.cells #[.bool false, .slice none 0 0] 24)).heap.size = w.heap.size + 4) := by show _ = _; simp
  obtain ⟨U, hU⟩ : ∃ U, arA e1 q1 M1 = U := ⟨_, rfl⟩
  rw [hU]
  have HUV : Hid (U = arA e1 q1 M1) := hU.symm
  clear hU had
  go_enter Tryz.func44, Tryz.ntmps44
  go_wp2_with fail
  refine (HAD.out _ HB4.out).mono ?_
  rintro e x1 ⟨⟨v1, rfl, hI1⟩, hb⟩
  obtain ⟨aq, nq, cq, r1, rfl, -, -, -, -⟩ := hI1.ex
  have HZ : Hid (x1.heap[w.heap.size + 1 + 1]? = some (.cells #[.int .i64 0, .bool false, .slice none 0 0, .string ⟨#[]⟩, .bool false] 26 (0, 0))) := kept5 hb HZ4.out
  have HY : Hid (x1.heap[w.heap.size + 1 + 1 + 1]? = some (.cells #[.bool false, .slice none 0 0] 24 (0, 0))) := kept5 hb HY4.out
  have k5 := bx5 HZ.out
  have k5f := bx5f HZ.out
  have k2 := bx2 HY.out
  have HB : Hid (Below w.heap.size w x1) := HB4.out.trans (hb.mono HB4.out.size)
  have HI : Hid (IntR x1 (w.heap.size + 4) (.agg #[.bool q1, .slice aq nq cq]) q1 M1) := HS4.out ▸ hI1
  clear hb hI1
  have hz2 := far2 (B := w.heap.size + 1 + 1 + 1) (a := .bool q1) (b := .slice aq nq cq) HZ.out (by omega)
  have HZ2 : Hid (((x1.setCell ⟨w.heap.size + 1 + 1 + 1, 0, none⟩ (.bool q1)).setCell ⟨w.heap.size + 1 + 1 + 1, 1, none⟩ (.slice aq nq cq)).heap[w.heap.size + 1 + 1]? = some (.cells #[.int .i64 0, .bool false, .slice none 0 0, .string ⟨#[]⟩, .bool false] 26 (0, 0))) := hz2
  have HB2 : Hid (Below w.heap.size w ((x1.setCell ⟨w.heap.size + 1 + 1 + 1, 0, none⟩ (.bool q1)).setCell ⟨w.heap.size + 1 + 1 + 1, 1, none⟩ (.slice aq nq cq))) := (HB.out.setCell (p := ⟨w.heap.size + 1 + 1 + 1, 0, none⟩) (by show w.heap.size ≤ w.heap.size + 1 + 1 + 1; omega) _).setCell (p := ⟨w.heap.size + 1 + 1 + 1, 1, none⟩) (by show w.heap.size ≤ w.heap.size + 1 + 1 + 1; omega) _
  have HI2 : Hid (IntR ((x1.setCell ⟨w.heap.size + 1 + 1 + 1, 0, none⟩ (.bool q1)).setCell ⟨w.heap.size + 1 + 1 + 1, 1, none⟩ (.slice aq nq cq)) (w.heap.size + 4) (.agg #[.bool q1, .slice aq nq cq]) q1 M1) := (HI.out.setCell (a := ⟨w.heap.size + 1 + 1 + 1, 0, none⟩) (by show w.heap.size + 1 + 1 + 1 < w.heap.size + 4; omega) _).setCell (a := ⟨w.heap.size + 1 + 1 + 1, 1, none⟩) (by show w.heap.size + 1 + 1 + 1 < w.heap.size + 4; omega) _
  clear hz2
  by_cases he : e1 = 0
  · have HU : Hid (U = ⟨1, q1, M1, ⟨#[]⟩, false, 0⟩) := by show _ = _; rw [HUV.out, he]; rfl
    have ze : (e1 != 0) = false := by simp [he]
    have ze2 : (e1 == 0) = true := by simp [he]
    clear he HUV
    go_wp2_with fail
    refine (knum_any q1 aq nq cq _).mono ?_
    rintro e y1 ⟨rfl, hb⟩
    have HZ3 : Hid (y1.heap[w.heap.size + 1 + 1]? = some (.cells #[.int .i64 0, .bool false, .slice none 0 0, .string ⟨#[]⟩, .bool false] 26 (0, 0))) := kept5 hb HZ2.out
    have HB3 : Hid (Below w.heap.size w y1) := HB2.out.trans (hb.mono HB2.out.size)
    have HI3 : Hid (IntR y1 (w.heap.size + 4) (.agg #[.bool q1, .slice aq nq cq]) q1 M1) := HI2.out.below hb (Nat.le_refl _)
    clear hb k5 k5f k2
    have k5 := bx5 HZ3.out
    have k5f := bx5f HZ3.out
    go_wp2_with fail
    have hm := set5 (a' := .int .i64 1) (b' := .bool q1) (c' := .slice aq nq cq) (d' := .string ⟨#[]⟩) (e' := .bool false) HZ3.out
    have hi := HI3.out.set5 (B := w.heap.size + 1 + 1) (a := .int .i64 1) (b := .bool q1) (c := .slice aq nq cq) (d := .string ⟨#[]⟩) (e := .bool false) (by omega)
    have hb5 := below5 (B := w.heap.size + 1 + 1) (a := .int .i64 1) (b := .bool q1) (c := .slice aq nq cq) (d := .string ⟨#[]⟩) (e := .bool false) HB3.out (by omega)
    exact bodyPost_ret (v := .tuple #[.agg #[.int .i64 1, .bool q1, .slice aq nq cq, .string ⟨#[]⟩, .bool false], .int .i64 0]) (res_ct rfl rfl rfl (resC hm)) rfl (by rw [HU.out]; exact ⟨⟨_, rfl, _, _, _, rfl, hi.mono (base' := w.heap.size) (by omega)⟩, hb5⟩)
  · have HU : Hid (U = noA e1) := by show _ = _; rw [HUV.out]; simp [arA, he]
    have ze : (e1 != 0) = true := by simpa using he
    have ze2 : (e1 == 0) = false := by simpa using he
    clear he HUV
    go_wp2_with fail
    have hm := set5 (a' := .int .i64 0) (b' := .bool false) (c' := .slice none 0 0) (d' := .string ⟨#[]⟩) (e' := .bool false) HZ2.out
    have hb5 := below5 (B := w.heap.size + 1 + 1) (a := .int .i64 0) (b := .bool false) (c := .slice none 0 0) (d := .string ⟨#[]⟩) (e := .bool false) HB2.out (by omega)
    exact bodyPost_ret (v := .tuple #[.agg #[.int .i64 0, .bool false, .slice none 0 0, .string ⟨#[]⟩, .bool false], .int .i64 e1]) (res_ct rfl rfl rfl (resC hm)) rfl (by rw [HU.out]; exact ⟨⟨_, rfl, _, _, _, rfl, zero_num _ _⟩, hb5⟩)
set_option maxRecDepth 100000 in
set_option maxHeartbeats 8000000 in
theorem rk_su (op : ByteArray) (s1 s2 : Bool) (ao : Option Addr) (n cap : Nat) (ap : Option Addr) (m capb : Nat) (e1 : Int) (q1 : Bool) (M1 : Nat) (w : World) (ho : op.toList = [45])
    (had : ∀ W, Below w.heap.size w W → Calls Tryz.prog 63 #[.agg #[.bool s1, .slice ao n cap], .agg #[.bool s2, .slice ap m capb]] W fun e w' => (∃ v, e = .returned (.tuple #[v, .int .i64 e1]) ∧ IntR w' W.heap.size v q1 M1) ∧ Below W.heap.size W w') :
    Calls Tryz.prog 44 #[.string op, .agg #[.bool s1, .slice ao n cap], .agg #[.bool s2, .slice ap m capb]] w (AnsQ w (arA e1 q1 M1)) := by
  have HAD : Hid (∀ W, Below w.heap.size w W → Calls Tryz.prog 63 #[.agg #[.bool s1, .slice ao n cap], .agg #[.bool s2, .slice ap m capb]] W fun e w' => (∃ v, e = .returned (.tuple #[v, .int .i64 e1]) ∧ IntR w' W.heap.size v q1 M1) ∧ Below W.heap.size W w') := had
  have HB3 : Hid (Below w.heap.size w (((w.alloc (.cells #[.bool s1, .slice ao n cap] 24)).alloc (.cells #[.bool s2, .slice ap m capb] 24)).alloc (.cells #[.int .i64 0, .bool false, .slice none 0 0, .string ⟨#[]⟩, .bool false] 26))) := three_below w _ _ _
  have HZ3 : Hid ((((w.alloc (.cells #[.bool s1, .slice ao n cap] 24)).alloc (.cells #[.bool s2, .slice ap m capb] 24)).alloc (.cells #[.int .i64 0, .bool false, .slice none 0 0, .string ⟨#[]⟩, .bool false] 26)).heap[w.heap.size + 1 + 1]? = some (.cells #[.int .i64 0, .bool false, .slice none 0 0, .string ⟨#[]⟩, .bool false] 26 (0, 0))) := three_new _ _ _
  have HS3 : Hid ((((w.alloc (.cells #[.bool s1, .slice ao n cap] 24)).alloc (.cells #[.bool s2, .slice ap m capb] 24)).alloc (.cells #[.int .i64 0, .bool false, .slice none 0 0, .string ⟨#[]⟩, .bool false] 26)).heap.size = w.heap.size + 3) := by show _ = _; simp
  have HB4 : Hid (Below w.heap.size w ((((w.alloc (.cells #[.bool s1, .slice ao n cap] 24)).alloc (.cells #[.bool s2, .slice ap m capb] 24)).alloc (.cells #[.int .i64 0, .bool false, .slice none 0 0, .string ⟨#[]⟩, .bool false] 26)).alloc (.cells #[.bool false, .slice none 0 0] 24))) := HB3.out.alloc (by rw [HS3.out]; omega) _
  have HZ4 : Hid (((((w.alloc (.cells #[.bool s1, .slice ao n cap] 24)).alloc (.cells #[.bool s2, .slice ap m capb] 24)).alloc (.cells #[.int .i64 0, .bool false, .slice none 0 0, .string ⟨#[]⟩, .bool false] 26)).alloc (.cells #[.bool false, .slice none 0 0] 24)).heap[w.heap.size + 1 + 1]? = some (.cells #[.int .i64 0, .bool false, .slice none 0 0, .string ⟨#[]⟩, .bool false] 26 (0, 0))) := kept5 ((Below.refl _ _).alloc (Nat.le_refl _) _) HZ3.out
  have HY4 : Hid (((((w.alloc (.cells #[.bool s1, .slice ao n cap] 24)).alloc (.cells #[.bool s2, .slice ap m capb] 24)).alloc (.cells #[.int .i64 0, .bool false, .slice none 0 0, .string ⟨#[]⟩, .bool false] 26)).alloc (.cells #[.bool false, .slice none 0 0] 24)).heap[w.heap.size + 1 + 1 + 1]? = some (.cells #[.bool false, .slice none 0 0] 24 (0, 0))) := by
    have := new_blk (((w.alloc (.cells #[.bool s1, .slice ao n cap] 24)).alloc (.cells #[.bool s2, .slice ap m capb] 24)).alloc (.cells #[.int .i64 0, .bool false, .slice none 0 0, .string ⟨#[]⟩, .bool false] 26)) (.cells #[.bool false, .slice none 0 0] 24)
    rw [World.size_alloc, World.size_alloc, World.size_alloc] at this
    exact this
  have HS4 : Hid (((((w.alloc (.cells #[.bool s1, .slice ao n cap] 24)).alloc (.cells #[.bool s2, .slice ap m capb] 24)).alloc (.cells #[.int .i64 0, .bool false, .slice none 0 0, .string ⟨#[]⟩, .bool false] 26)).alloc (.cells #[.bool false, .slice none 0 0] 24)).heap.size = w.heap.size + 4) := by show _ = _; simp
  obtain ⟨U, hU⟩ : ∃ U, arA e1 q1 M1 = U := ⟨_, rfl⟩
  rw [hU]
  have HUV : Hid (U = arA e1 q1 M1) := hU.symm
  clear hU had
  have zz_ad : (op.toList == [43]) = false := by rw [ho]; rfl
  go_enter Tryz.func44, Tryz.ntmps44
  go_wp2_with fail
  refine (HAD.out _ HB4.out).mono ?_
  rintro e x1 ⟨⟨v1, rfl, hI1⟩, hb⟩
  obtain ⟨aq, nq, cq, r1, rfl, -, -, -, -⟩ := hI1.ex
  have HZ : Hid (x1.heap[w.heap.size + 1 + 1]? = some (.cells #[.int .i64 0, .bool false, .slice none 0 0, .string ⟨#[]⟩, .bool false] 26 (0, 0))) := kept5 hb HZ4.out
  have HY : Hid (x1.heap[w.heap.size + 1 + 1 + 1]? = some (.cells #[.bool false, .slice none 0 0] 24 (0, 0))) := kept5 hb HY4.out
  have k5 := bx5 HZ.out
  have k5f := bx5f HZ.out
  have k2 := bx2 HY.out
  have HB : Hid (Below w.heap.size w x1) := HB4.out.trans (hb.mono HB4.out.size)
  have HI : Hid (IntR x1 (w.heap.size + 4) (.agg #[.bool q1, .slice aq nq cq]) q1 M1) := HS4.out ▸ hI1
  clear hb hI1
  have hz2 := far2 (B := w.heap.size + 1 + 1 + 1) (a := .bool q1) (b := .slice aq nq cq) HZ.out (by omega)
  have HZ2 : Hid (((x1.setCell ⟨w.heap.size + 1 + 1 + 1, 0, none⟩ (.bool q1)).setCell ⟨w.heap.size + 1 + 1 + 1, 1, none⟩ (.slice aq nq cq)).heap[w.heap.size + 1 + 1]? = some (.cells #[.int .i64 0, .bool false, .slice none 0 0, .string ⟨#[]⟩, .bool false] 26 (0, 0))) := hz2
  have HB2 : Hid (Below w.heap.size w ((x1.setCell ⟨w.heap.size + 1 + 1 + 1, 0, none⟩ (.bool q1)).setCell ⟨w.heap.size + 1 + 1 + 1, 1, none⟩ (.slice aq nq cq))) := (HB.out.setCell (p := ⟨w.heap.size + 1 + 1 + 1, 0, none⟩) (by show w.heap.size ≤ w.heap.size + 1 + 1 + 1; omega) _).setCell (p := ⟨w.heap.size + 1 + 1 + 1, 1, none⟩) (by show w.heap.size ≤ w.heap.size + 1 + 1 + 1; omega) _
  have HI2 : Hid (IntR ((x1.setCell ⟨w.heap.size + 1 + 1 + 1, 0, none⟩ (.bool q1)).setCell ⟨w.heap.size + 1 + 1 + 1, 1, none⟩ (.slice aq nq cq)) (w.heap.size + 4) (.agg #[.bool q1, .slice aq nq cq]) q1 M1) := (HI.out.setCell (a := ⟨w.heap.size + 1 + 1 + 1, 0, none⟩) (by show w.heap.size + 1 + 1 + 1 < w.heap.size + 4; omega) _).setCell (a := ⟨w.heap.size + 1 + 1 + 1, 1, none⟩) (by show w.heap.size + 1 + 1 + 1 < w.heap.size + 4; omega) _
  clear hz2
  by_cases he : e1 = 0
  · have HU : Hid (U = ⟨1, q1, M1, ⟨#[]⟩, false, 0⟩) := by show _ = _; rw [HUV.out, he]; rfl
    have ze : (e1 != 0) = false := by simp [he]
    have ze2 : (e1 == 0) = true := by simp [he]
    clear he HUV
    go_wp2_with fail
    refine (knum_any q1 aq nq cq _).mono ?_
    rintro e y1 ⟨rfl, hb⟩
    have HZ3 : Hid (y1.heap[w.heap.size + 1 + 1]? = some (.cells #[.int .i64 0, .bool false, .slice none 0 0, .string ⟨#[]⟩, .bool false] 26 (0, 0))) := kept5 hb HZ2.out
    have HB3 : Hid (Below w.heap.size w y1) := HB2.out.trans (hb.mono HB2.out.size)
    have HI3 : Hid (IntR y1 (w.heap.size + 4) (.agg #[.bool q1, .slice aq nq cq]) q1 M1) := HI2.out.below hb (Nat.le_refl _)
    clear hb k5 k5f k2
    have k5 := bx5 HZ3.out
    have k5f := bx5f HZ3.out
    go_wp2_with fail
    have hm := set5 (a' := .int .i64 1) (b' := .bool q1) (c' := .slice aq nq cq) (d' := .string ⟨#[]⟩) (e' := .bool false) HZ3.out
    have hi := HI3.out.set5 (B := w.heap.size + 1 + 1) (a := .int .i64 1) (b := .bool q1) (c := .slice aq nq cq) (d := .string ⟨#[]⟩) (e := .bool false) (by omega)
    have hb5 := below5 (B := w.heap.size + 1 + 1) (a := .int .i64 1) (b := .bool q1) (c := .slice aq nq cq) (d := .string ⟨#[]⟩) (e := .bool false) HB3.out (by omega)
    exact bodyPost_ret (v := .tuple #[.agg #[.int .i64 1, .bool q1, .slice aq nq cq, .string ⟨#[]⟩, .bool false], .int .i64 0]) (res_ct rfl rfl rfl (resC hm)) rfl (by rw [HU.out]; exact ⟨⟨_, rfl, _, _, _, rfl, hi.mono (base' := w.heap.size) (by omega)⟩, hb5⟩)
  · have HU : Hid (U = noA e1) := by show _ = _; rw [HUV.out]; simp [arA, he]
    have ze : (e1 != 0) = true := by simpa using he
    have ze2 : (e1 == 0) = false := by simpa using he
    clear he HUV
    go_wp2_with fail
    have hm := set5 (a' := .int .i64 0) (b' := .bool false) (c' := .slice none 0 0) (d' := .string ⟨#[]⟩) (e' := .bool false) HZ2.out
    have hb5 := below5 (B := w.heap.size + 1 + 1) (a := .int .i64 0) (b := .bool false) (c := .slice none 0 0) (d := .string ⟨#[]⟩) (e := .bool false) HB2.out (by omega)
    exact bodyPost_ret (v := .tuple #[.agg #[.int .i64 0, .bool false, .slice none 0 0, .string ⟨#[]⟩, .bool false], .int .i64 e1]) (res_ct rfl rfl rfl (resC hm)) rfl (by rw [HU.out]; exact ⟨⟨_, rfl, _, _, _, rfl, zero_num _ _⟩, hb5⟩)
set_option maxRecDepth 100000 in
set_option maxHeartbeats 8000000 in
theorem rk_mu (op : ByteArray) (s1 s2 : Bool) (ao : Option Addr) (n cap : Nat) (ap : Option Addr) (m capb : Nat) (e1 : Int) (q1 : Bool) (M1 : Nat) (w : World) (ho : op.toList = [42])
    (had : ∀ W, Below w.heap.size w W → Calls Tryz.prog 64 #[.agg #[.bool s1, .slice ao n cap], .agg #[.bool s2, .slice ap m capb]] W fun e w' => (∃ v, e = .returned (.tuple #[v, .int .i64 e1]) ∧ IntR w' W.heap.size v q1 M1) ∧ Below W.heap.size W w') :
    Calls Tryz.prog 44 #[.string op, .agg #[.bool s1, .slice ao n cap], .agg #[.bool s2, .slice ap m capb]] w (AnsQ w (arA e1 q1 M1)) := by
  have HAD : Hid (∀ W, Below w.heap.size w W → Calls Tryz.prog 64 #[.agg #[.bool s1, .slice ao n cap], .agg #[.bool s2, .slice ap m capb]] W fun e w' => (∃ v, e = .returned (.tuple #[v, .int .i64 e1]) ∧ IntR w' W.heap.size v q1 M1) ∧ Below W.heap.size W w') := had
  have HB3 : Hid (Below w.heap.size w (((w.alloc (.cells #[.bool s1, .slice ao n cap] 24)).alloc (.cells #[.bool s2, .slice ap m capb] 24)).alloc (.cells #[.int .i64 0, .bool false, .slice none 0 0, .string ⟨#[]⟩, .bool false] 26))) := three_below w _ _ _
  have HZ3 : Hid ((((w.alloc (.cells #[.bool s1, .slice ao n cap] 24)).alloc (.cells #[.bool s2, .slice ap m capb] 24)).alloc (.cells #[.int .i64 0, .bool false, .slice none 0 0, .string ⟨#[]⟩, .bool false] 26)).heap[w.heap.size + 1 + 1]? = some (.cells #[.int .i64 0, .bool false, .slice none 0 0, .string ⟨#[]⟩, .bool false] 26 (0, 0))) := three_new _ _ _
  have HS3 : Hid ((((w.alloc (.cells #[.bool s1, .slice ao n cap] 24)).alloc (.cells #[.bool s2, .slice ap m capb] 24)).alloc (.cells #[.int .i64 0, .bool false, .slice none 0 0, .string ⟨#[]⟩, .bool false] 26)).heap.size = w.heap.size + 3) := by show _ = _; simp
  have HB4 : Hid (Below w.heap.size w ((((w.alloc (.cells #[.bool s1, .slice ao n cap] 24)).alloc (.cells #[.bool s2, .slice ap m capb] 24)).alloc (.cells #[.int .i64 0, .bool false, .slice none 0 0, .string ⟨#[]⟩, .bool false] 26)).alloc (.cells #[.bool false, .slice none 0 0] 24))) := HB3.out.alloc (by rw [HS3.out]; omega) _
  have HZ4 : Hid (((((w.alloc (.cells #[.bool s1, .slice ao n cap] 24)).alloc (.cells #[.bool s2, .slice ap m capb] 24)).alloc (.cells #[.int .i64 0, .bool false, .slice none 0 0, .string ⟨#[]⟩, .bool false] 26)).alloc (.cells #[.bool false, .slice none 0 0] 24)).heap[w.heap.size + 1 + 1]? = some (.cells #[.int .i64 0, .bool false, .slice none 0 0, .string ⟨#[]⟩, .bool false] 26 (0, 0))) := kept5 ((Below.refl _ _).alloc (Nat.le_refl _) _) HZ3.out
  have HY4 : Hid (((((w.alloc (.cells #[.bool s1, .slice ao n cap] 24)).alloc (.cells #[.bool s2, .slice ap m capb] 24)).alloc (.cells #[.int .i64 0, .bool false, .slice none 0 0, .string ⟨#[]⟩, .bool false] 26)).alloc (.cells #[.bool false, .slice none 0 0] 24)).heap[w.heap.size + 1 + 1 + 1]? = some (.cells #[.bool false, .slice none 0 0] 24 (0, 0))) := by
    have := new_blk (((w.alloc (.cells #[.bool s1, .slice ao n cap] 24)).alloc (.cells #[.bool s2, .slice ap m capb] 24)).alloc (.cells #[.int .i64 0, .bool false, .slice none 0 0, .string ⟨#[]⟩, .bool false] 26)) (.cells #[.bool false, .slice none 0 0] 24)
    rw [World.size_alloc, World.size_alloc, World.size_alloc] at this
    exact this
  have HS4 : Hid (((((w.alloc (.cells #[.bool s1, .slice ao n cap] 24)).alloc (.cells #[.bool s2, .slice ap m capb] 24)).alloc (.cells #[.int .i64 0, .bool false, .slice none 0 0, .string ⟨#[]⟩, .bool false] 26)).alloc (.cells #[.bool false, .slice none 0 0] 24)).heap.size = w.heap.size + 4) := by show _ = _; simp
  obtain ⟨U, hU⟩ : ∃ U, arA e1 q1 M1 = U := ⟨_, rfl⟩
  rw [hU]
  have HUV : Hid (U = arA e1 q1 M1) := hU.symm
  clear hU had
  have zz_ad : (op.toList == [43]) = false := by rw [ho]; rfl
  have zz_su : (op.toList == [45]) = false := by rw [ho]; rfl
  go_enter Tryz.func44, Tryz.ntmps44
  go_wp2_with fail
  refine (HAD.out _ HB4.out).mono ?_
  rintro e x1 ⟨⟨v1, rfl, hI1⟩, hb⟩
  obtain ⟨aq, nq, cq, r1, rfl, -, -, -, -⟩ := hI1.ex
  have HZ : Hid (x1.heap[w.heap.size + 1 + 1]? = some (.cells #[.int .i64 0, .bool false, .slice none 0 0, .string ⟨#[]⟩, .bool false] 26 (0, 0))) := kept5 hb HZ4.out
  have HY : Hid (x1.heap[w.heap.size + 1 + 1 + 1]? = some (.cells #[.bool false, .slice none 0 0] 24 (0, 0))) := kept5 hb HY4.out
  have k5 := bx5 HZ.out
  have k5f := bx5f HZ.out
  have k2 := bx2 HY.out
  have HB : Hid (Below w.heap.size w x1) := HB4.out.trans (hb.mono HB4.out.size)
  have HI : Hid (IntR x1 (w.heap.size + 4) (.agg #[.bool q1, .slice aq nq cq]) q1 M1) := HS4.out ▸ hI1
  clear hb hI1
  have hz2 := far2 (B := w.heap.size + 1 + 1 + 1) (a := .bool q1) (b := .slice aq nq cq) HZ.out (by omega)
  have HZ2 : Hid (((x1.setCell ⟨w.heap.size + 1 + 1 + 1, 0, none⟩ (.bool q1)).setCell ⟨w.heap.size + 1 + 1 + 1, 1, none⟩ (.slice aq nq cq)).heap[w.heap.size + 1 + 1]? = some (.cells #[.int .i64 0, .bool false, .slice none 0 0, .string ⟨#[]⟩, .bool false] 26 (0, 0))) := hz2
  have HB2 : Hid (Below w.heap.size w ((x1.setCell ⟨w.heap.size + 1 + 1 + 1, 0, none⟩ (.bool q1)).setCell ⟨w.heap.size + 1 + 1 + 1, 1, none⟩ (.slice aq nq cq))) := (HB.out.setCell (p := ⟨w.heap.size + 1 + 1 + 1, 0, none⟩) (by show w.heap.size ≤ w.heap.size + 1 + 1 + 1; omega) _).setCell (p := ⟨w.heap.size + 1 + 1 + 1, 1, none⟩) (by show w.heap.size ≤ w.heap.size + 1 + 1 + 1; omega) _
  have HI2 : Hid (IntR ((x1.setCell ⟨w.heap.size + 1 + 1 + 1, 0, none⟩ (.bool q1)).setCell ⟨w.heap.size + 1 + 1 + 1, 1, none⟩ (.slice aq nq cq)) (w.heap.size + 4) (.agg #[.bool q1, .slice aq nq cq]) q1 M1) := (HI.out.setCell (a := ⟨w.heap.size + 1 + 1 + 1, 0, none⟩) (by show w.heap.size + 1 + 1 + 1 < w.heap.size + 4; omega) _).setCell (a := ⟨w.heap.size + 1 + 1 + 1, 1, none⟩) (by show w.heap.size + 1 + 1 + 1 < w.heap.size + 4; omega) _
  clear hz2
  by_cases he : e1 = 0
  · have HU : Hid (U = ⟨1, q1, M1, ⟨#[]⟩, false, 0⟩) := by show _ = _; rw [HUV.out, he]; rfl
    have ze : (e1 != 0) = false := by simp [he]
    have ze2 : (e1 == 0) = true := by simp [he]
    clear he HUV
    go_wp2_with fail
    refine (knum_any q1 aq nq cq _).mono ?_
    rintro e y1 ⟨rfl, hb⟩
    have HZ3 : Hid (y1.heap[w.heap.size + 1 + 1]? = some (.cells #[.int .i64 0, .bool false, .slice none 0 0, .string ⟨#[]⟩, .bool false] 26 (0, 0))) := kept5 hb HZ2.out
    have HB3 : Hid (Below w.heap.size w y1) := HB2.out.trans (hb.mono HB2.out.size)
    have HI3 : Hid (IntR y1 (w.heap.size + 4) (.agg #[.bool q1, .slice aq nq cq]) q1 M1) := HI2.out.below hb (Nat.le_refl _)
    clear hb k5 k5f k2
    have k5 := bx5 HZ3.out
    have k5f := bx5f HZ3.out
    go_wp2_with fail
    have hm := set5 (a' := .int .i64 1) (b' := .bool q1) (c' := .slice aq nq cq) (d' := .string ⟨#[]⟩) (e' := .bool false) HZ3.out
    have hi := HI3.out.set5 (B := w.heap.size + 1 + 1) (a := .int .i64 1) (b := .bool q1) (c := .slice aq nq cq) (d := .string ⟨#[]⟩) (e := .bool false) (by omega)
    have hb5 := below5 (B := w.heap.size + 1 + 1) (a := .int .i64 1) (b := .bool q1) (c := .slice aq nq cq) (d := .string ⟨#[]⟩) (e := .bool false) HB3.out (by omega)
    exact bodyPost_ret (v := .tuple #[.agg #[.int .i64 1, .bool q1, .slice aq nq cq, .string ⟨#[]⟩, .bool false], .int .i64 0]) (res_ct rfl rfl rfl (resC hm)) rfl (by rw [HU.out]; exact ⟨⟨_, rfl, _, _, _, rfl, hi.mono (base' := w.heap.size) (by omega)⟩, hb5⟩)
  · have HU : Hid (U = noA e1) := by show _ = _; rw [HUV.out]; simp [arA, he]
    have ze : (e1 != 0) = true := by simpa using he
    have ze2 : (e1 == 0) = false := by simpa using he
    clear he HUV
    go_wp2_with fail
    have hm := set5 (a' := .int .i64 0) (b' := .bool false) (c' := .slice none 0 0) (d' := .string ⟨#[]⟩) (e' := .bool false) HZ2.out
    have hb5 := below5 (B := w.heap.size + 1 + 1) (a := .int .i64 0) (b := .bool false) (c := .slice none 0 0) (d := .string ⟨#[]⟩) (e := .bool false) HB2.out (by omega)
    exact bodyPost_ret (v := .tuple #[.agg #[.int .i64 0, .bool false, .slice none 0 0, .string ⟨#[]⟩, .bool false], .int .i64 e1]) (res_ct rfl rfl rfl (resC hm)) rfl (by rw [HU.out]; exact ⟨⟨_, rfl, _, _, _, rfl, zero_num _ _⟩, hb5⟩)
set_option maxRecDepth 100000 in
set_option maxHeartbeats 8000000 in
theorem rk_di (op : ByteArray) (s1 s2 : Bool) (ao : Option Addr) (n cap : Nat) (ap : Option Addr) (m capb : Nat) (e1 : Int) (q1 q2 : Bool) (M1 M2 : Nat) (w : World) (ho : op.toList = [47])
    (had : ∀ W, Below w.heap.size w W → Calls Tryz.prog 65 #[.agg #[.bool s1, .slice ao n cap], .agg #[.bool s2, .slice ap m capb]] W fun e w' => (∃ v1 v2, e = .returned (.tuple #[v1, v2, .int .i64 e1]) ∧ IntR w' W.heap.size v1 q1 M1 ∧ IntR w' W.heap.size v2 q2 M2) ∧ Below W.heap.size W w') :
    Calls Tryz.prog 44 #[.string op, .agg #[.bool s1, .slice ao n cap], .agg #[.bool s2, .slice ap m capb]] w (AnsQ w (arA e1 q1 M1)) := by
  have HAD : Hid (∀ W, Below w.heap.size w W → Calls Tryz.prog 65 #[.agg #[.bool s1, .slice ao n cap], .agg #[.bool s2, .slice ap m capb]] W fun e w' => (∃ v1 v2, e = .returned (.tuple #[v1, v2, .int .i64 e1]) ∧ IntR w' W.heap.size v1 q1 M1 ∧ IntR w' W.heap.size v2 q2 M2) ∧ Below W.heap.size W w') := had
  have HB3 : Hid (Below w.heap.size w (((w.alloc (.cells #[.bool s1, .slice ao n cap] 24)).alloc (.cells #[.bool s2, .slice ap m capb] 24)).alloc (.cells #[.int .i64 0, .bool false, .slice none 0 0, .string ⟨#[]⟩, .bool false] 26))) := three_below w _ _ _
  have HZ3 : Hid ((((w.alloc (.cells #[.bool s1, .slice ao n cap] 24)).alloc (.cells #[.bool s2, .slice ap m capb] 24)).alloc (.cells #[.int .i64 0, .bool false, .slice none 0 0, .string ⟨#[]⟩, .bool false] 26)).heap[w.heap.size + 1 + 1]? = some (.cells #[.int .i64 0, .bool false, .slice none 0 0, .string ⟨#[]⟩, .bool false] 26 (0, 0))) := three_new _ _ _
  have HS3 : Hid ((((w.alloc (.cells #[.bool s1, .slice ao n cap] 24)).alloc (.cells #[.bool s2, .slice ap m capb] 24)).alloc (.cells #[.int .i64 0, .bool false, .slice none 0 0, .string ⟨#[]⟩, .bool false] 26)).heap.size = w.heap.size + 3) := by show _ = _; simp
  have HB4 : Hid (Below w.heap.size w ((((w.alloc (.cells #[.bool s1, .slice ao n cap] 24)).alloc (.cells #[.bool s2, .slice ap m capb] 24)).alloc (.cells #[.int .i64 0, .bool false, .slice none 0 0, .string ⟨#[]⟩, .bool false] 26)).alloc (.cells #[.bool false, .slice none 0 0] 24))) := HB3.out.alloc (by rw [HS3.out]; omega) _
  have HZ4 : Hid (((((w.alloc (.cells #[.bool s1, .slice ao n cap] 24)).alloc (.cells #[.bool s2, .slice ap m capb] 24)).alloc (.cells #[.int .i64 0, .bool false, .slice none 0 0, .string ⟨#[]⟩, .bool false] 26)).alloc (.cells #[.bool false, .slice none 0 0] 24)).heap[w.heap.size + 1 + 1]? = some (.cells #[.int .i64 0, .bool false, .slice none 0 0, .string ⟨#[]⟩, .bool false] 26 (0, 0))) := kept5 ((Below.refl _ _).alloc (Nat.le_refl _) _) HZ3.out
  have HY4 : Hid (((((w.alloc (.cells #[.bool s1, .slice ao n cap] 24)).alloc (.cells #[.bool s2, .slice ap m capb] 24)).alloc (.cells #[.int .i64 0, .bool false, .slice none 0 0, .string ⟨#[]⟩, .bool false] 26)).alloc (.cells #[.bool false, .slice none 0 0] 24)).heap[w.heap.size + 1 + 1 + 1]? = some (.cells #[.bool false, .slice none 0 0] 24 (0, 0))) := by
    have := new_blk (((w.alloc (.cells #[.bool s1, .slice ao n cap] 24)).alloc (.cells #[.bool s2, .slice ap m capb] 24)).alloc (.cells #[.int .i64 0, .bool false, .slice none 0 0, .string ⟨#[]⟩, .bool false] 26)) (.cells #[.bool false, .slice none 0 0] 24)
    rw [World.size_alloc, World.size_alloc, World.size_alloc] at this
    exact this
  have HS4 : Hid (((((w.alloc (.cells #[.bool s1, .slice ao n cap] 24)).alloc (.cells #[.bool s2, .slice ap m capb] 24)).alloc (.cells #[.int .i64 0, .bool false, .slice none 0 0, .string ⟨#[]⟩, .bool false] 26)).alloc (.cells #[.bool false, .slice none 0 0] 24)).heap.size = w.heap.size + 4) := by show _ = _; simp
  obtain ⟨U, hU⟩ : ∃ U, arA e1 q1 M1 = U := ⟨_, rfl⟩
  rw [hU]
  have HUV : Hid (U = arA e1 q1 M1) := hU.symm
  clear hU had
  have zz_ad : (op.toList == [43]) = false := by rw [ho]; rfl
  have zz_su : (op.toList == [45]) = false := by rw [ho]; rfl
  have zz_mu : (op.toList == [42]) = false := by rw [ho]; rfl
  go_enter Tryz.func44, Tryz.ntmps44
  go_wp2_with fail
  refine (HAD.out _ HB4.out).mono ?_
  rintro e x1 ⟨⟨v1, v2, rfl, hI1, hI2⟩, hb⟩
  obtain ⟨aq, nq, cq, r1, rfl, -, -, -, -⟩ := hI1.ex
  obtain ⟨ar, nr, cr, r2, rfl, -, -, -, -⟩ := hI2.ex
  have HZ : Hid (x1.heap[w.heap.size + 1 + 1]? = some (.cells #[.int .i64 0, .bool false, .slice none 0 0, .string ⟨#[]⟩, .bool false] 26 (0, 0))) := kept5 hb HZ4.out
  have HY : Hid (x1.heap[w.heap.size + 1 + 1 + 1]? = some (.cells #[.bool false, .slice none 0 0] 24 (0, 0))) := kept5 hb HY4.out
  have k5 := bx5 HZ.out
  have k5f := bx5f HZ.out
  have k2 := bx2 HY.out
  have HB : Hid (Below w.heap.size w x1) := HB4.out.trans (hb.mono HB4.out.size)
  have HI : Hid (IntR x1 (w.heap.size + 4) (.agg #[.bool q1, .slice aq nq cq]) q1 M1) := HS4.out ▸ hI1
  clear hb hI1 hI2
  have hz2 := far2 (B := w.heap.size + 1 + 1 + 1) (a := .bool q1) (b := .slice aq nq cq) HZ.out (by omega)
  have HZ2 : Hid (((x1.setCell ⟨w.heap.size + 1 + 1 + 1, 0, none⟩ (.bool q1)).setCell ⟨w.heap.size + 1 + 1 + 1, 1, none⟩ (.slice aq nq cq)).heap[w.heap.size + 1 + 1]? = some (.cells #[.int .i64 0, .bool false, .slice none 0 0, .string ⟨#[]⟩, .bool false] 26 (0, 0))) := hz2
  have HB2 : Hid (Below w.heap.size w ((x1.setCell ⟨w.heap.size + 1 + 1 + 1, 0, none⟩ (.bool q1)).setCell ⟨w.heap.size + 1 + 1 + 1, 1, none⟩ (.slice aq nq cq))) := (HB.out.setCell (p := ⟨w.heap.size + 1 + 1 + 1, 0, none⟩) (by show w.heap.size ≤ w.heap.size + 1 + 1 + 1; omega) _).setCell (p := ⟨w.heap.size + 1 + 1 + 1, 1, none⟩) (by show w.heap.size ≤ w.heap.size + 1 + 1 + 1; omega) _
  have HI2 : Hid (IntR ((x1.setCell ⟨w.heap.size + 1 + 1 + 1, 0, none⟩ (.bool q1)).setCell ⟨w.heap.size + 1 + 1 + 1, 1, none⟩ (.slice aq nq cq)) (w.heap.size + 4) (.agg #[.bool q1, .slice aq nq cq]) q1 M1) := (HI.out.setCell (a := ⟨w.heap.size + 1 + 1 + 1, 0, none⟩) (by show w.heap.size + 1 + 1 + 1 < w.heap.size + 4; omega) _).setCell (a := ⟨w.heap.size + 1 + 1 + 1, 1, none⟩) (by show w.heap.size + 1 + 1 + 1 < w.heap.size + 4; omega) _
  clear hz2
  by_cases he : e1 = 0
  · have HU : Hid (U = ⟨1, q1, M1, ⟨#[]⟩, false, 0⟩) := by show _ = _; rw [HUV.out, he]; rfl
    have ze : (e1 != 0) = false := by simp [he]
    have ze2 : (e1 == 0) = true := by simp [he]
    clear he HUV
    go_wp2_with fail
    refine (knum_any q1 aq nq cq _).mono ?_
    rintro e y1 ⟨rfl, hb⟩
    have HZ3 : Hid (y1.heap[w.heap.size + 1 + 1]? = some (.cells #[.int .i64 0, .bool false, .slice none 0 0, .string ⟨#[]⟩, .bool false] 26 (0, 0))) := kept5 hb HZ2.out
    have HB3 : Hid (Below w.heap.size w y1) := HB2.out.trans (hb.mono HB2.out.size)
    have HI3 : Hid (IntR y1 (w.heap.size + 4) (.agg #[.bool q1, .slice aq nq cq]) q1 M1) := HI2.out.below hb (Nat.le_refl _)
    clear hb k5 k5f k2
    have k5 := bx5 HZ3.out
    have k5f := bx5f HZ3.out
    go_wp2_with fail
    have hm := set5 (a' := .int .i64 1) (b' := .bool q1) (c' := .slice aq nq cq) (d' := .string ⟨#[]⟩) (e' := .bool false) HZ3.out
    have hi := HI3.out.set5 (B := w.heap.size + 1 + 1) (a := .int .i64 1) (b := .bool q1) (c := .slice aq nq cq) (d := .string ⟨#[]⟩) (e := .bool false) (by omega)
    have hb5 := below5 (B := w.heap.size + 1 + 1) (a := .int .i64 1) (b := .bool q1) (c := .slice aq nq cq) (d := .string ⟨#[]⟩) (e := .bool false) HB3.out (by omega)
    exact bodyPost_ret (v := .tuple #[.agg #[.int .i64 1, .bool q1, .slice aq nq cq, .string ⟨#[]⟩, .bool false], .int .i64 0]) (res_ct rfl rfl rfl (resC hm)) rfl (by rw [HU.out]; exact ⟨⟨_, rfl, _, _, _, rfl, hi.mono (base' := w.heap.size) (by omega)⟩, hb5⟩)
  · have HU : Hid (U = noA e1) := by show _ = _; rw [HUV.out]; simp [arA, he]
    have ze : (e1 != 0) = true := by simpa using he
    have ze2 : (e1 == 0) = false := by simpa using he
    clear he HUV
    go_wp2_with fail
    have hm := set5 (a' := .int .i64 0) (b' := .bool false) (c' := .slice none 0 0) (d' := .string ⟨#[]⟩) (e' := .bool false) HZ2.out
    have hb5 := below5 (B := w.heap.size + 1 + 1) (a := .int .i64 0) (b := .bool false) (c := .slice none 0 0) (d := .string ⟨#[]⟩) (e := .bool false) HB2.out (by omega)
    exact bodyPost_ret (v := .tuple #[.agg #[.int .i64 0, .bool false, .slice none 0 0, .string ⟨#[]⟩, .bool false], .int .i64 e1]) (res_ct rfl rfl rfl (resC hm)) rfl (by rw [HU.out]; exact ⟨⟨_, rfl, _, _, _, rfl, zero_num _ _⟩, hb5⟩)
set_option maxRecDepth 100000 in
set_option maxHeartbeats 8000000 in
theorem rk_re (op : ByteArray) (s1 s2 : Bool) (ao : Option Addr) (n cap : Nat) (ap : Option Addr) (m capb : Nat) (e1 : Int) (q1 q2 : Bool) (M1 M2 : Nat) (w : World) (ho : op.toList = [37])
    (had : ∀ W, Below w.heap.size w W → Calls Tryz.prog 65 #[.agg #[.bool s1, .slice ao n cap], .agg #[.bool s2, .slice ap m capb]] W fun e w' => (∃ v1 v2, e = .returned (.tuple #[v1, v2, .int .i64 e1]) ∧ IntR w' W.heap.size v1 q1 M1 ∧ IntR w' W.heap.size v2 q2 M2) ∧ Below W.heap.size W w') :
    Calls Tryz.prog 44 #[.string op, .agg #[.bool s1, .slice ao n cap], .agg #[.bool s2, .slice ap m capb]] w (AnsQ w (arA e1 q2 M2)) := by
  have HAD : Hid (∀ W, Below w.heap.size w W → Calls Tryz.prog 65 #[.agg #[.bool s1, .slice ao n cap], .agg #[.bool s2, .slice ap m capb]] W fun e w' => (∃ v1 v2, e = .returned (.tuple #[v1, v2, .int .i64 e1]) ∧ IntR w' W.heap.size v1 q1 M1 ∧ IntR w' W.heap.size v2 q2 M2) ∧ Below W.heap.size W w') := had
  have HB3 : Hid (Below w.heap.size w (((w.alloc (.cells #[.bool s1, .slice ao n cap] 24)).alloc (.cells #[.bool s2, .slice ap m capb] 24)).alloc (.cells #[.int .i64 0, .bool false, .slice none 0 0, .string ⟨#[]⟩, .bool false] 26))) := three_below w _ _ _
  have HZ3 : Hid ((((w.alloc (.cells #[.bool s1, .slice ao n cap] 24)).alloc (.cells #[.bool s2, .slice ap m capb] 24)).alloc (.cells #[.int .i64 0, .bool false, .slice none 0 0, .string ⟨#[]⟩, .bool false] 26)).heap[w.heap.size + 1 + 1]? = some (.cells #[.int .i64 0, .bool false, .slice none 0 0, .string ⟨#[]⟩, .bool false] 26 (0, 0))) := three_new _ _ _
  have HS3 : Hid ((((w.alloc (.cells #[.bool s1, .slice ao n cap] 24)).alloc (.cells #[.bool s2, .slice ap m capb] 24)).alloc (.cells #[.int .i64 0, .bool false, .slice none 0 0, .string ⟨#[]⟩, .bool false] 26)).heap.size = w.heap.size + 3) := by show _ = _; simp
  have HB4 : Hid (Below w.heap.size w ((((w.alloc (.cells #[.bool s1, .slice ao n cap] 24)).alloc (.cells #[.bool s2, .slice ap m capb] 24)).alloc (.cells #[.int .i64 0, .bool false, .slice none 0 0, .string ⟨#[]⟩, .bool false] 26)).alloc (.cells #[.bool false, .slice none 0 0] 24))) := HB3.out.alloc (by rw [HS3.out]; omega) _
  have HZ4 : Hid (((((w.alloc (.cells #[.bool s1, .slice ao n cap] 24)).alloc (.cells #[.bool s2, .slice ap m capb] 24)).alloc (.cells #[.int .i64 0, .bool false, .slice none 0 0, .string ⟨#[]⟩, .bool false] 26)).alloc (.cells #[.bool false, .slice none 0 0] 24)).heap[w.heap.size + 1 + 1]? = some (.cells #[.int .i64 0, .bool false, .slice none 0 0, .string ⟨#[]⟩, .bool false] 26 (0, 0))) := kept5 ((Below.refl _ _).alloc (Nat.le_refl _) _) HZ3.out
  have HY4 : Hid (((((w.alloc (.cells #[.bool s1, .slice ao n cap] 24)).alloc (.cells #[.bool s2, .slice ap m capb] 24)).alloc (.cells #[.int .i64 0, .bool false, .slice none 0 0, .string ⟨#[]⟩, .bool false] 26)).alloc (.cells #[.bool false, .slice none 0 0] 24)).heap[w.heap.size + 1 + 1 + 1]? = some (.cells #[.bool false, .slice none 0 0] 24 (0, 0))) := by
    have := new_blk (((w.alloc (.cells #[.bool s1, .slice ao n cap] 24)).alloc (.cells #[.bool s2, .slice ap m capb] 24)).alloc (.cells #[.int .i64 0, .bool false, .slice none 0 0, .string ⟨#[]⟩, .bool false] 26)) (.cells #[.bool false, .slice none 0 0] 24)
    rw [World.size_alloc, World.size_alloc, World.size_alloc] at this
    exact this
  have HS4 : Hid (((((w.alloc (.cells #[.bool s1, .slice ao n cap] 24)).alloc (.cells #[.bool s2, .slice ap m capb] 24)).alloc (.cells #[.int .i64 0, .bool false, .slice none 0 0, .string ⟨#[]⟩, .bool false] 26)).alloc (.cells #[.bool false, .slice none 0 0] 24)).heap.size = w.heap.size + 4) := by show _ = _; simp
  obtain ⟨U, hU⟩ : ∃ U, arA e1 q2 M2 = U := ⟨_, rfl⟩
  rw [hU]
  have HUV : Hid (U = arA e1 q2 M2) := hU.symm
  clear hU had
  have zz_ad : (op.toList == [43]) = false := by rw [ho]; rfl
  have zz_su : (op.toList == [45]) = false := by rw [ho]; rfl
  have zz_mu : (op.toList == [42]) = false := by rw [ho]; rfl
  have zz_di : (op.toList == [47]) = false := by rw [ho]; rfl
  go_enter Tryz.func44, Tryz.ntmps44
  go_wp2_with fail
  refine (HAD.out _ HB4.out).mono ?_
  rintro e x1 ⟨⟨v1, v2, rfl, hI1, hI2⟩, hb⟩
  obtain ⟨aq, nq, cq, r1, rfl, -, -, -, -⟩ := hI1.ex
  obtain ⟨ar, nr, cr, r2, rfl, -, -, -, -⟩ := hI2.ex
  have HZ : Hid (x1.heap[w.heap.size + 1 + 1]? = some (.cells #[.int .i64 0, .bool false, .slice none 0 0, .string ⟨#[]⟩, .bool false] 26 (0, 0))) := kept5 hb HZ4.out
  have HY : Hid (x1.heap[w.heap.size + 1 + 1 + 1]? = some (.cells #[.bool false, .slice none 0 0] 24 (0, 0))) := kept5 hb HY4.out
  have k5 := bx5 HZ.out
  have k5f := bx5f HZ.out
  have k2 := bx2 HY.out
  have HB : Hid (Below w.heap.size w x1) := HB4.out.trans (hb.mono HB4.out.size)
  have HI : Hid (IntR x1 (w.heap.size + 4) (.agg #[.bool q2, .slice ar nr cr]) q2 M2) := HS4.out ▸ hI2
  clear hb hI1 hI2
  have hz2 := far2 (B := w.heap.size + 1 + 1 + 1) (a := .bool q2) (b := .slice ar nr cr) HZ.out (by omega)
  have HZ2 : Hid (((x1.setCell ⟨w.heap.size + 1 + 1 + 1, 0, none⟩ (.bool q2)).setCell ⟨w.heap.size + 1 + 1 + 1, 1, none⟩ (.slice ar nr cr)).heap[w.heap.size + 1 + 1]? = some (.cells #[.int .i64 0, .bool false, .slice none 0 0, .string ⟨#[]⟩, .bool false] 26 (0, 0))) := hz2
  have HB2 : Hid (Below w.heap.size w ((x1.setCell ⟨w.heap.size + 1 + 1 + 1, 0, none⟩ (.bool q2)).setCell ⟨w.heap.size + 1 + 1 + 1, 1, none⟩ (.slice ar nr cr))) := (HB.out.setCell (p := ⟨w.heap.size + 1 + 1 + 1, 0, none⟩) (by show w.heap.size ≤ w.heap.size + 1 + 1 + 1; omega) _).setCell (p := ⟨w.heap.size + 1 + 1 + 1, 1, none⟩) (by show w.heap.size ≤ w.heap.size + 1 + 1 + 1; omega) _
  have HI2 : Hid (IntR ((x1.setCell ⟨w.heap.size + 1 + 1 + 1, 0, none⟩ (.bool q2)).setCell ⟨w.heap.size + 1 + 1 + 1, 1, none⟩ (.slice ar nr cr)) (w.heap.size + 4) (.agg #[.bool q2, .slice ar nr cr]) q2 M2) := (HI.out.setCell (a := ⟨w.heap.size + 1 + 1 + 1, 0, none⟩) (by show w.heap.size + 1 + 1 + 1 < w.heap.size + 4; omega) _).setCell (a := ⟨w.heap.size + 1 + 1 + 1, 1, none⟩) (by show w.heap.size + 1 + 1 + 1 < w.heap.size + 4; omega) _
  clear hz2
  by_cases he : e1 = 0
  · have HU : Hid (U = ⟨1, q2, M2, ⟨#[]⟩, false, 0⟩) := by show _ = _; rw [HUV.out, he]; rfl
    have ze : (e1 != 0) = false := by simp [he]
    have ze2 : (e1 == 0) = true := by simp [he]
    clear he HUV
    go_wp2_with fail
    refine (knum_any q2 ar nr cr _).mono ?_
    rintro e y1 ⟨rfl, hb⟩
    have HZ3 : Hid (y1.heap[w.heap.size + 1 + 1]? = some (.cells #[.int .i64 0, .bool false, .slice none 0 0, .string ⟨#[]⟩, .bool false] 26 (0, 0))) := kept5 hb HZ2.out
    have HB3 : Hid (Below w.heap.size w y1) := HB2.out.trans (hb.mono HB2.out.size)
    have HI3 : Hid (IntR y1 (w.heap.size + 4) (.agg #[.bool q2, .slice ar nr cr]) q2 M2) := HI2.out.below hb (Nat.le_refl _)
    clear hb k5 k5f k2
    have k5 := bx5 HZ3.out
    have k5f := bx5f HZ3.out
    go_wp2_with fail
    have hm := set5 (a' := .int .i64 1) (b' := .bool q2) (c' := .slice ar nr cr) (d' := .string ⟨#[]⟩) (e' := .bool false) HZ3.out
    have hi := HI3.out.set5 (B := w.heap.size + 1 + 1) (a := .int .i64 1) (b := .bool q2) (c := .slice ar nr cr) (d := .string ⟨#[]⟩) (e := .bool false) (by omega)
    have hb5 := below5 (B := w.heap.size + 1 + 1) (a := .int .i64 1) (b := .bool q2) (c := .slice ar nr cr) (d := .string ⟨#[]⟩) (e := .bool false) HB3.out (by omega)
    exact bodyPost_ret (v := .tuple #[.agg #[.int .i64 1, .bool q2, .slice ar nr cr, .string ⟨#[]⟩, .bool false], .int .i64 0]) (res_ct rfl rfl rfl (resC hm)) rfl (by rw [HU.out]; exact ⟨⟨_, rfl, _, _, _, rfl, hi.mono (base' := w.heap.size) (by omega)⟩, hb5⟩)
  · have HU : Hid (U = noA e1) := by show _ = _; rw [HUV.out]; simp [arA, he]
    have ze : (e1 != 0) = true := by simpa using he
    have ze2 : (e1 == 0) = false := by simpa using he
    clear he HUV
    go_wp2_with fail
    have hm := set5 (a' := .int .i64 0) (b' := .bool false) (c' := .slice none 0 0) (d' := .string ⟨#[]⟩) (e' := .bool false) HZ2.out
    have hb5 := below5 (B := w.heap.size + 1 + 1) (a := .int .i64 0) (b := .bool false) (c := .slice none 0 0) (d := .string ⟨#[]⟩) (e := .bool false) HB2.out (by omega)
    exact bodyPost_ret (v := .tuple #[.agg #[.int .i64 0, .bool false, .slice none 0 0, .string ⟨#[]⟩, .bool false], .int .i64 e1]) (res_ct rfl rfl rfl (resC hm)) rfl (by rw [HU.out]; exact ⟨⟨_, rfl, _, _, _, rfl, zero_num _ _⟩, hb5⟩)
end Go.Proofs.YtfkkhabpnnealaaGreatDoor

