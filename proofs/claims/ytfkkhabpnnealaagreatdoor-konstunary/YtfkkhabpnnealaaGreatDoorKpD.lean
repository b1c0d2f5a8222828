/-
  konst's Binary, Equal, Text, walked.
-/
import Derived.Test.YtfkkhabpnnealaaGreatDoorKpC
namespace Go.Proofs.YtfkkhabpnnealaaGreatDoor
open Go.RowKit
attribute [local go_sem ↓] Go.wp_at_zero Go.wp_at_succ
theorem lit_one (W : World) (ks : List Int) : InV (W.alloc (.cells (ks.map (Value.int .i64)).toArray 3)) (.slice (some ⟨W.heap.size, 0, none⟩) ks.length ks.length) ks := by
  refine .inr ⟨_, _, _, rfl, fun i h => ?_⟩
  have := new_blk W (.cells (ks.map (Value.int .i64)).toArray 3)
  unfold World.cell?
  rw [this]
  simp [h]
/-- what Binary gives of two constants of one kind; R: what reckoning gives -/
def bkA (op : ByteArray) (k q : Int) (R : Ans) (t1 : ByteArray) (b1 : Bool) (t2 : ByteArray) (b2 : Bool) : Ans :=
  if tkB op k = true then
    (if op.toList = [61, 61] ∨ op.toList = [33, 61] ∨ op.toList = [60] ∨ op.toList = [60, 61] ∨ op.toList = [62] ∨ op.toList = [62, 61] then ⟨3, false, 0, ⟨#[]⟩, hoB op q, 0⟩
    else if op.toList = [38, 38] then ⟨3, false, 0, ⟨#[]⟩, b1 && b2, 0⟩ else if op.toList = [124, 124] then ⟨3, false, 0, ⟨#[]⟩, b1 || b2, 0⟩
    else if k = 2 then (if 65536 < t1.size + t2.size then noA 2 else ⟨2, false, 0, t1 ++ t2, false, 0⟩) else R)
  else noA 6
set_option maxRecDepth 100000 in
set_option maxHeartbeats 8000000 in
theorem kbin_ne (op : ByteArray) (k1 k2 : Int) (s1 s2 : Bool) (ao : Option Addr) (n cap : Nat) (ap : Option Addr) (m capb : Nat) (t1 t2 : ByteArray) (b1 b2 : Bool) (w : World) (hk : k1 ≠ k2) :
    Calls Tryz.prog 22 #[.string op, cnV k1 s1 ao n cap t1 b1, cnV k2 s2 ap m capb t2 b2] w (AnsQ w (noA 6)) := by
  have HB3 : Hid (Below w.heap.size w (((w.alloc (.cells #[.int .i64 k1, .bool s1, .slice ao n cap, .string t1, .bool b1] 26)).alloc (.cells #[.int .i64 k2, .bool s2, .slice ap m capb, .string t2, .bool b2] 26)).alloc (.cells #[.int .i64 0, .bool false, .slice none 0 0, .string ⟨#[]⟩, .bool false] 26))) := three_below w _ _ _
  have HZ3 : Hid ((((w.alloc (.cells #[.int .i64 k1, .bool s1, .slice ao n cap, .string t1, .bool b1] 26)).alloc (.cells #[.int .i64 k2, .bool s2, .slice ap m capb, .string t2, .bool b2] 26)).alloc (.cells #[.int .i64 0, .bool false, .slice none 0 0, .string ⟨#[]⟩, .bool false] 26)).heap[w.heap.size + 1 + 1]? = some (.cells #[.int .i64 0, .bool false, .slice none 0 0, .string ⟨#[]⟩, .bool false] 26 (0, 0))) := three_new _ _ _
  have z : (k1 != k2) = true := by simpa using hk
  have z2 : (k1 == k2) = false := by simpa using hk
  clear hk
  go_enter Tryz.func22, Tryz.ntmps22
  go_wp2_with fail
  exact bodyPost_ret (v := .tuple #[.agg #[.int .i64 0, .bool false, .slice none 0 0, .string ⟨#[]⟩, .bool false], .int .i64 6]) (res_ct rfl rfl rfl (resC HZ3.out)) rfl ⟨⟨_, rfl, _, _, _, rfl, zero_num _ _⟩, HB3.out⟩
set_option maxRecDepth 100000 in
set_option maxHeartbeats 8000000 in
theorem kbin_eq (op : ByteArray) (k1 q : Int) (R : Ans) (s1 s2 : Bool) (ao : Option Addr) (n cap : Nat) (ap : Option Addr) (m capb : Nat) (t1 t2 : ByteArray) (b1 b2 : Bool) (w : World) (z1 : t1.size ≤ 1000000) (z2 : t2.size ≤ 1000000)
    (hcm : ∀ W, Below w.heap.size w W → Calls Tryz.prog 28 #[cnV k1 s1 ao n cap t1 b1, cnV k1 s2 ap m capb t2 b2] W fun e w' => e = .returned (.int .i64 q) ∧ Below W.heap.size W w')
    (hrk : k1 = 1 → op.toList = [43] ∨ op.toList = [45] ∨ op.toList = [42] ∨ op.toList = [47] ∨ op.toList = [37] → ∀ W, Below w.heap.size w W → Calls Tryz.prog 44 #[.string op, .agg #[.bool s1, .slice ao n cap], .agg #[.bool s2, .slice ap m capb]] W (AnsQ W R)) :
    Calls Tryz.prog 22 #[.string op, cnV k1 s1 ao n cap t1 b1, cnV k1 s2 ap m capb t2 b2] w (AnsQ w (bkA op k1 q R t1 b1 t2 b2)) := by
  have HCM : Hid (∀ W, Below w.heap.size w W → Calls Tryz.prog 28 #[cnV k1 s1 ao n cap t1 b1, cnV k1 s2 ap m capb t2 b2] W fun e w' => e = .returned (.int .i64 q) ∧ Below W.heap.size W w') := hcm
  have HRK : Hid (k1 = 1 → op.toList = [43] ∨ op.toList = [45] ∨ op.toList = [42] ∨ op.toList = [47] ∨ op.toList = [37] → ∀ W, Below w.heap.size w W → Calls Tryz.prog 44 #[.string op, .agg #[.bool s1, .slice ao n cap], .agg #[.bool s2, .slice ap m capb]] W (AnsQ W R)) := hrk
  have HZS : Hid (t1.size ≤ 1000000 ∧ t2.size ≤ 1000000) := ⟨z1, z2⟩
  have HA : Hid (w.heap.size + 3 = (((w.alloc (.cells #[.int .i64 k1, .bool s1, .slice ao n cap, .string t1, .bool b1] 26)).alloc (.cells #[.int .i64 k1, .bool s2, .slice ap m capb, .string t2, .bool b2] 26)).alloc (.cells #[.int .i64 0, .bool false, .slice none 0 0, .string ⟨#[]⟩, .bool false] 26)).heap.size ∧ (((w.alloc (.cells #[.int .i64 k1, .bool s1, .slice ao n cap, .string t1, .bool b1] 26)).alloc (.cells #[.int .i64 k1, .bool s2, .slice ap m capb, .string t2, .bool b2] 26)).alloc (.cells #[.int .i64 0, .bool false, .slice none 0 0, .string ⟨#[]⟩, .bool false] 26)).heap[w.heap.size]? = some (.cells #[.int .i64 k1, .bool s1, .slice ao n cap, .string t1, .bool b1] 26 (0, 0)) ∧ (((w.alloc (.cells #[.int .i64 k1, .bool s1, .slice ao n cap, .string t1, .bool b1] 26)).alloc (.cells #[.int .i64 k1, .bool s2, .slice ap m capb, .string t2, .bool b2] 26)).alloc (.cells #[.int .i64 0, .bool false, .slice none 0 0, .string ⟨#[]⟩, .bool false] 26)).heap[w.heap.size + 1]? = some (.cells #[.int .i64 k1, .bool s2, .slice ap m capb, .string t2, .bool b2] 26 (0, 0))) := ⟨by simp, kept5 (((Below.refl _ _).alloc (Nat.le_refl _) _).alloc (by simp) _) (new_blk w _), kept5 ((Below.refl _ _).alloc (Nat.le_refl _) _) (two_new _ _)⟩
  have HB3 : Hid (Below w.heap.size w (((w.alloc (.cells #[.int .i64 k1, .bool s1, .slice ao n cap, .string t1, .bool b1] 26)).alloc (.cells #[.int .i64 k1, .bool s2, .slice ap m capb, .string t2, .bool b2] 26)).alloc (.cells #[.int .i64 0, .bool false, .slice none 0 0, .string ⟨#[]⟩, .bool false] 26))) := three_below w _ _ _
  have HZ3 : Hid ((((w.alloc (.cells #[.int .i64 k1, .bool s1, .slice ao n cap, .string t1, .bool b1] 26)).alloc (.cells #[.int .i64 k1, .bool s2, .slice ap m capb, .string t2, .bool b2] 26)).alloc (.cells #[.int .i64 0, .bool false, .slice none 0 0, .string ⟨#[]⟩, .bool false] 26)).heap[w.heap.size + 1 + 1]? = some (.cells #[.int .i64 0, .bool false, .slice none 0 0, .string ⟨#[]⟩, .bool false] 26 (0, 0))) := three_new _ _ _
  obtain ⟨U, hU⟩ : ∃ U, bkA op k1 q R t1 b1 t2 b2 = U := ⟨_, rfl⟩
  rw [hU]
  have HUU : Hid (bkA op k1 q R t1 b1 t2 b2 = U) := hU
  clear hU hcm hrk z1 z2
  have z : (k1 != k1) = false := by simp
  by_cases ht : tkB op k1 = true
  · have HT : Hid (tkB op k1 = true) := ht
    have HTK : Hid (∀ W, Calls Tryz.prog 41 #[.string op, cnV k1 s1 ao n cap t1 b1] W fun e w' => e = .returned (.bool true) ∧ Below W.heap.size W w') := fun W => by
      have := takes_any op k1 s1 ao n cap t1 b1 W
      rwa [ht] at this
    clear ht
    by_cases h_eq : op.toList = [61, 61]
    · obtain ⟨V, hV⟩ : ∃ V, hoB op q = V := ⟨_, rfl⟩
      have HU : Hid (U = ⟨3, false, 0, ⟨#[]⟩, hoB op q, 0⟩) := by show _ = _; rw [← HUU.out]; unfold bkA; rw [if_pos HT.out]; simp [h_eq]
      have HHO : Hid (∀ W, Calls Tryz.prog 42 #[.string op, .int .i64 q] W fun e w' => e = .returned (.bool V) ∧ w' = W) := fun W => by
        have := holds_any op q W
        rwa [hV] at this
      have HV : Hid (hoB op q = V) := hV
      clear hV HUU HRK HZS
      go_enter Tryz.func22, Tryz.ntmps22
      go_wp2_with fail
      refine (HTK.out _).mono ?_
      rintro e x1 ⟨rfl, hb⟩
      have HZ : Hid (x1.heap[w.heap.size + 1 + 1]? = some (.cells #[.int .i64 0, .bool false, .slice none 0 0, .string ⟨#[]⟩, .bool false] 26 (0, 0))) := kept5 hb HZ3.out
      have H0 : Hid (x1.heap[w.heap.size]? = some (.cells #[.int .i64 k1, .bool s1, .slice ao n cap, .string t1, .bool b1] 26 (0, 0))) := kept5 hb HA.out.2.1
      have H1 : Hid (x1.heap[w.heap.size + 1]? = some (.cells #[.int .i64 k1, .bool s2, .slice ap m capb, .string t2, .bool b2] 26 (0, 0))) := kept5 hb HA.out.2.2
      have HB : Hid (Below w.heap.size w x1) := HB3.out.trans (hb.mono HB3.out.size)
      clear hb HTK
      have a5 := bx5 H0.out
      have c5 := bx5 H1.out
      go_wp2_with fail
      refine (HCM.out _ HB.out).mono ?_
      rintro e x2 ⟨rfl, hb⟩
      have HZX : Hid (x2.heap[w.heap.size + 1 + 1]? = some (.cells #[.int .i64 0, .bool false, .slice none 0 0, .string ⟨#[]⟩, .bool false] 26 (0, 0))) := kept5 hb HZ.out
      have HBX : Hid (Below w.heap.size w x2) := HB.out.trans (hb.mono HB.out.size)
      clear hb HCM
      go_wp2_with fail
      refine (HHO.out _).mono ?_
      rintro e x3 ⟨rfl, hw⟩
      obtain rfl := hw.symm
      clear hw HHO
      go_wp2_with fail
      refine (kbool_any V _).mono ?_
      rintro e y2 ⟨rfl, hb⟩
      have HZY : Hid (y2.heap[w.heap.size + 1 + 1]? = some (.cells #[.int .i64 0, .bool false, .slice none 0 0, .string ⟨#[]⟩, .bool false] 26 (0, 0))) := kept5 hb HZX.out
      have HBY : Hid (Below w.heap.size w y2) := HBX.out.trans (hb.mono HBX.out.size)
      clear hb
      have k5 := bx5 HZY.out
      have k5f := bx5f HZY.out
      go_wp2_with fail
      have hm := set5 (a' := .int .i64 3) (b' := .bool false) (c' := .slice none 0 0) (d' := .string ⟨#[]⟩) (e' := .bool V) HZY.out
      have hb5 := below5 (B := w.heap.size + 1 + 1) (a := .int .i64 3) (b := .bool false) (c := .slice none 0 0) (d := .string ⟨#[]⟩) (e := .bool V) HBY.out (by omega)
      exact bodyPost_ret (v := .tuple #[.agg #[.int .i64 3, .bool false, .slice none 0 0, .string ⟨#[]⟩, .bool V], .int .i64 0]) (res_ct rfl rfl rfl (resC hm)) rfl (by rw [HU.out, HV.out]; exact ⟨⟨_, rfl, _, _, _, rfl, zero_num _ _⟩, hb5⟩)
    by_cases h_ne : op.toList = [33, 61]
    · have zz_eq : (op.toList == [61, 61]) = false := by simpa using h_eq
      obtain ⟨V, hV⟩ : ∃ V, hoB op q = V := ⟨_, rfl⟩
      have HU : Hid (U = ⟨3, false, 0, ⟨#[]⟩, hoB op q, 0⟩) := by show _ = _; rw [← HUU.out]; unfold bkA; rw [if_pos HT.out]; simp [h_ne]
      have HHO : Hid (∀ W, Calls Tryz.prog 42 #[.string op, .int .i64 q] W fun e w' => e = .returned (.bool V) ∧ w' = W) := fun W => by
        have := holds_any op q W
        rwa [hV] at this
      have HV : Hid (hoB op q = V) := hV
      clear hV HUU HRK HZS
      go_enter Tryz.func22, Tryz.ntmps22
      go_wp2_with fail
      refine (HTK.out _).mono ?_
      rintro e x1 ⟨rfl, hb⟩
      have HZ : Hid (x1.heap[w.heap.size + 1 + 1]? = some (.cells #[.int .i64 0, .bool false, .slice none 0 0, .string ⟨#[]⟩, .bool false] 26 (0, 0))) := kept5 hb HZ3.out
      have H0 : Hid (x1.heap[w.heap.size]? = some (.cells #[.int .i64 k1, .bool s1, .slice ao n cap, .string t1, .bool b1] 26 (0, 0))) := kept5 hb HA.out.2.1
      have H1 : Hid (x1.heap[w.heap.size + 1]? = some (.cells #[.int .i64 k1, .bool s2, .slice ap m capb, .string t2, .bool b2] 26 (0, 0))) := kept5 hb HA.out.2.2
      have HB : Hid (Below w.heap.size w x1) := HB3.out.trans (hb.mono HB3.out.size)
      clear hb HTK
      have a5 := bx5 H0.out
      have c5 := bx5 H1.out
      go_wp2_with fail
      refine (HCM.out _ HB.out).mono ?_
      rintro e x2 ⟨rfl, hb⟩
      have HZX : Hid (x2.heap[w.heap.size + 1 + 1]? = some (.cells #[.int .i64 0, .bool false, .slice none 0 0, .string ⟨#[]⟩, .bool false] 26 (0, 0))) := kept5 hb HZ.out
      have HBX : Hid (Below w.heap.size w x2) := HB.out.trans (hb.mono HB.out.size)
      clear hb HCM
      go_wp2_with fail
      refine (HHO.out _).mono ?_
      rintro e x3 ⟨rfl, hw⟩
      obtain rfl := hw.symm
      clear hw HHO
      go_wp2_with fail
      refine (kbool_any V _).mono ?_
      rintro e y2 ⟨rfl, hb⟩
      have HZY : Hid (y2.heap[w.heap.size + 1 + 1]? = some (.cells #[.int .i64 0, .bool false, .slice none 0 0, .string ⟨#[]⟩, .bool false] 26 (0, 0))) := kept5 hb HZX.out
      have HBY : Hid (Below w.heap.size w y2) := HBX.out.trans (hb.mono HBX.out.size)
      clear hb
      have k5 := bx5 HZY.out
      have k5f := bx5f HZY.out
      go_wp2_with fail
      have hm := set5 (a' := .int .i64 3) (b' := .bool false) (c' := .slice none 0 0) (d' := .string ⟨#[]⟩) (e' := .bool V) HZY.out
      have hb5 := below5 (B := w.heap.size + 1 + 1) (a := .int .i64 3) (b := .bool false) (c := .slice none 0 0) (d := .string ⟨#[]⟩) (e := .bool V) HBY.out (by omega)
      exact bodyPost_ret (v := .tuple #[.agg #[.int .i64 3, .bool false, .slice none 0 0, .string ⟨#[]⟩, .bool V], .int .i64 0]) (res_ct rfl rfl rfl (resC hm)) rfl (by rw [HU.out, HV.out]; exact ⟨⟨_, rfl, _, _, _, rfl, zero_num _ _⟩, hb5⟩)
    by_cases h_lt : op.toList = [60]
    · have zz_eq : (op.toList == [61, 61]) = false := by simpa using h_eq
      have zz_ne : (op.toList == [33, 61]) = false := by simpa using h_ne
      obtain ⟨V, hV⟩ : ∃ V, hoB op q = V := ⟨_, rfl⟩
      have HU : Hid (U = ⟨3, false, 0, ⟨#[]⟩, hoB op q, 0⟩) := by show _ = _; rw [← HUU.out]; unfold bkA; rw [if_pos HT.out]; simp [h_lt]
      have HHO : Hid (∀ W, Calls Tryz.prog 42 #[.string op, .int .i64 q] W fun e w' => e = .returned (.bool V) ∧ w' = W) := fun W => by
        have := holds_any op q W
        rwa [hV] at this
      have HV : Hid (hoB op q = V) := hV
      clear hV HUU HRK HZS
      go_enter Tryz.func22, Tryz.ntmps22
      go_wp2_with fail
      refine (HTK.out _).mono ?_
      rintro e x1 ⟨rfl, hb⟩
      have HZ : Hid (x1.heap[w.heap.size + 1 + 1]? = some (.cells #[.int .i64 0, .bool false, .slice none 0 0, .string ⟨#[]⟩, .bool false] 26 (0, 0))) := kept5 hb HZ3.out
      have H0 : Hid (x1.heap[w.heap.size]? = some (.cells #[.int .i64 k1, .bool s1, .slice ao n cap, .string t1, .bool b1] 26 (0, 0))) := kept5 hb HA.out.2.1
      have H1 : Hid (x1.heap[w.heap.size + 1]? = some (.cells #[.int .i64 k1, .bool s2, .slice ap m capb, .string t2, .bool b2] 26 (0, 0))) := kept5 hb HA.out.2.2
      have HB : Hid (Below w.heap.size w x1) := HB3.out.trans (hb.mono HB3.out.size)
      clear hb HTK
      have a5 := bx5 H0.out
      have c5 := bx5 H1.out
      go_wp2_with fail
      refine (HCM.out _ HB.out).mono ?_
      rintro e x2 ⟨rfl, hb⟩
      have HZX : Hid (x2.heap[w.heap.size + 1 + 1]? = some (.cells #[.int .i64 0, .bool false, .slice none 0 0, .string ⟨#[]⟩, .bool false] 26 (0, 0))) := kept5 hb HZ.out
      have HBX : Hid (Below w.heap.size w x2) := HB.out.trans (hb.mono HB.out.size)
      clear hb HCM
      go_wp2_with fail
      refine (HHO.out _).mono ?_
      rintro e x3 ⟨rfl, hw⟩
      obtain rfl := hw.symm
      clear hw HHO
      go_wp2_with fail
      refine (kbool_any V _).mono ?_
      rintro e y2 ⟨rfl, hb⟩
      have HZY : Hid (y2.heap[w.heap.size + 1 + 1]? = some (.cells #[.int .i64 0, .bool false, .slice none 0 0, .string ⟨#[]⟩, .bool false] 26 (0, 0))) := kept5 hb HZX.out
      have HBY : Hid (Below w.heap.size w y2) := HBX.out.trans (hb.mono HBX.out.size)
      clear hb
      have k5 := bx5 HZY.out
      have k5f := bx5f HZY.out
      go_wp2_with fail
      have hm := set5 (a' := .int .i64 3) (b' := .bool false) (c' := .slice none 0 0) (d' := .string ⟨#[]⟩) (e' := .bool V) HZY.out
      have hb5 := below5 (B := w.heap.size + 1 + 1) (a := .int .i64 3) (b := .bool false) (c := .slice none 0 0) (d := .string ⟨#[]⟩) (e := .bool V) HBY.out (by omega)
      exact bodyPost_ret (v := .tuple #[.agg #[.int .i64 3, .bool false, .slice none 0 0, .string ⟨#[]⟩, .bool V], .int .i64 0]) (res_ct rfl rfl rfl (resC hm)) rfl (by rw [HU.out, HV.out]; exact ⟨⟨_, rfl, _, _, _, rfl, zero_num _ _⟩, hb5⟩)
    by_cases h_le : op.toList = [60, 61]
    · have zz_eq : (op.toList == [61, 61]) = false := by simpa using h_eq
      have zz_ne : (op.toList == [33, 61]) = false := by simpa using h_ne
      have zz_lt : (op.toList == [60]) = false := by simpa using h_lt
      obtain ⟨V, hV⟩ : ∃ V, hoB op q = V := ⟨_, rfl⟩
      have HU : Hid (U = ⟨3, false, 0, ⟨#[]⟩, hoB op q, 0⟩) := by show _ = _; rw [← HUU.out]; unfold bkA; rw [if_pos HT.out]; simp [h_le]
      have HHO : Hid (∀ W, Calls Tryz.prog 42 #[.string op, .int .i64 q] W fun e w' => e = .returned (.bool V) ∧ w' = W) := fun W => by
        have := holds_any op q W
        rwa [hV] at this
      have HV : Hid (hoB op q = V) := hV
      clear hV HUU HRK HZS
      go_enter Tryz.func22, Tryz.ntmps22
      go_wp2_with fail
      refine (HTK.out _).mono ?_
      rintro e x1 ⟨rfl, hb⟩
      have HZ : Hid (x1.heap[w.heap.size + 1 + 1]? = some (.cells #[.int .i64 0, .bool false, .slice none 0 0, .string ⟨#[]⟩, .bool false] 26 (0, 0))) := kept5 hb HZ3.out
      have H0 : Hid (x1.heap[w.heap.size]? = some (.cells #[.int .i64 k1, .bool s1, .slice ao n cap, .string t1, .bool b1] 26 (0, 0))) := kept5 hb HA.out.2.1
      have H1 : Hid (x1.heap[w.heap.size + 1]? = some (.cells #[.int .i64 k1, .bool s2, .slice ap m capb, .string t2, .bool b2] 26 (0, 0))) := kept5 hb HA.out.2.2
      have HB : Hid (Below w.heap.size w x1) := HB3.out.trans (hb.mono HB3.out.size)
      clear hb HTK
      have a5 := bx5 H0.out
      have c5 := bx5 H1.out
      go_wp2_with fail
      refine (HCM.out _ HB.out).mono ?_
      rintro e x2 ⟨rfl, hb⟩
      have HZX : Hid (x2.heap[w.heap.size + 1 + 1]? = some (.cells #[.int .i64 0, .bool false, .slice none 0 0, .string ⟨#[]⟩, .bool false] 26 (0, 0))) := kept5 hb HZ.out
      have HBX : Hid (Below w.heap.size w x2) := HB.out.trans (hb.mono HB.out.size)
      clear hb HCM
      go_wp2_with fail
      refine (HHO.out _).mono ?_
      rintro e x3 ⟨rfl, hw⟩
      obtain rfl := hw.symm
      clear hw HHO
      go_wp2_with fail
      refine (kbool_any V _).mono ?_
      rintro e y2 ⟨rfl, hb⟩
      have HZY : Hid (y2.heap[w.heap.size + 1 + 1]? = some (.cells #[.int .i64 0, .bool false, .slice none 0 0, .string ⟨#[]⟩, .bool false] 26 (0, 0))) := kept5 hb HZX.out
      have HBY : Hid (Below w.heap.size w y2) := HBX.out.trans (hb.mono HBX.out.size)
      clear hb
      have k5 := bx5 HZY.out
      have k5f := bx5f HZY.out
      go_wp2_with fail
      have hm := set5 (a' := .int .i64 3) (b' := .bool false) (c' := .slice none 0 0) (d' := .string ⟨#[]⟩) (e' := .bool V) HZY.out
      have hb5 := below5 (B := w.heap.size + 1 + 1) (a := .int .i64 3) (b := .bool false) (c := .slice none 0 0) (d := .string ⟨#[]⟩) (e := .bool V) HBY.out (by omega)
      exact bodyPost_ret (v := .tuple #[.agg #[.int .i64 3, .bool false, .slice none 0 0, .string ⟨#[]⟩, .bool V], .int .i64 0]) (res_ct rfl rfl rfl (resC hm)) rfl (by rw [HU.out, HV.out]; exact ⟨⟨_, rfl, _, _, _, rfl, zero_num _ _⟩, hb5⟩)
    by_cases h_gt : op.toList = [62]
    · have zz_eq : (op.toList == [61, 61]) = false := by simpa using h_eq
      have zz_ne : (op.toList == [33, 61]) = false := by simpa using h_ne
      have zz_lt : (op.toList == [60]) = false := by simpa using h_lt
      have zz_le : (op.toList == [60, 61]) = false := by simpa using h_le
      obtain ⟨V, hV⟩ : ∃ V, hoB op q = V := ⟨_, rfl⟩
      have HU : Hid (U = ⟨3, false, 0, ⟨#[]⟩, hoB op q, 0⟩) := by show _ = _; rw [← HUU.out]; unfold bkA; rw [if_pos HT.out]; simp [h_gt]
      have HHO : Hid (∀ W, Calls Tryz.prog 42 #[.string op, .int .i64 q] W fun e w' => e = .returned (.bool V) ∧ w' = W) := fun W => by
        have := holds_any op q W
        rwa [hV] at this
      have HV : Hid (hoB op q = V) := hV
      clear hV HUU HRK HZS
      go_enter Tryz.func22, Tryz.ntmps22
      go_wp2_with fail
      refine (HTK.out _).mono ?_
      rintro e x1 ⟨rfl, hb⟩
      have HZ : Hid (x1.heap[w.heap.size + 1 + 1]? = some (.cells #[.int .i64 0, .bool false, .slice none 0 0, .string ⟨#[]⟩, .bool false] 26 (0, 0))) := kept5 hb HZ3.out
      have H0 : Hid (x1.heap[w.heap.size]? = some (.cells #[.int .i64 k1, .bool s1, .slice ao n cap, .string t1, .bool b1] 26 (0, 0))) := kept5 hb HA.out.2.1
      have H1 : Hid (x1.heap[w.heap.size + 1]? = some (.cells #[.int .i64 k1, .bool s2, .slice ap m capb, .string t2, .bool b2] 26 (0, 0))) := kept5 hb HA.out.2.2
      have HB : Hid (Below w.heap.size w x1) := HB3.out.trans (hb.mono HB3.out.size)
      clear hb HTK
      have a5 := bx5 H0.out
      have c5 := bx5 H1.out
      go_wp2_with fail
      refine (HCM.out _ HB.out).mono ?_
      rintro e x2 ⟨rfl, hb⟩
      have HZX : Hid (x2.heap[w.heap.size + 1 + 1]? = some (.cells #[.int .i64 0, .bool false, .slice none 0 0, .string ⟨#[]⟩, .bool false] 26 (0, 0))) := kept5 hb HZ.out
      have HBX : Hid (Below w.heap.size w x2) := HB.out.trans (hb.mono HB.out.size)
      clear hb HCM
      go_wp2_with fail
      refine (HHO.out _).mono ?_
      rintro e x3 ⟨rfl, hw⟩
      obtain rfl := hw.symm
      clear hw HHO
      go_wp2_with fail
      refine (kbool_any V _).mono ?_
      rintro e y2 ⟨rfl, hb⟩
      have HZY : Hid (y2.heap[w.heap.size + 1 + 1]? = some (.cells #[.int .i64 0, .bool false, .slice none 0 0, .string ⟨#[]⟩, .bool false] 26 (0, 0))) := kept5 hb HZX.out
      have HBY : Hid (Below w.heap.size w y2) := HBX.out.trans (hb.mono HBX.out.size)
      clear hb
      have k5 := bx5 HZY.out
      have k5f := bx5f HZY.out
      go_wp2_with fail
      have hm := set5 (a' := .int .i64 3) (b' := .bool false) (c' := .slice none 0 0) (d' := .string ⟨#[]⟩) (e' := .bool V) HZY.out
      have hb5 := below5 (B := w.heap.size + 1 + 1) (a := .int .i64 3) (b := .bool false) (c := .slice none 0 0) (d := .string ⟨#[]⟩) (e := .bool V) HBY.out (by omega)
      exact bodyPost_ret (v := .tuple #[.agg #[.int .i64 3, .bool false, .slice none 0 0, .string ⟨#[]⟩, .bool V], .int .i64 0]) (res_ct rfl rfl rfl (resC hm)) rfl (by rw [HU.out, HV.out]; exact ⟨⟨_, rfl, _, _, _, rfl, zero_num _ _⟩, hb5⟩)
    by_cases h_ge : op.toList = [62, 61]
    · have zz_eq : (op.toList == [61, 61]) = false := by simpa using h_eq
      have zz_ne : (op.toList == [33, 61]) = false := by simpa using h_ne
      have zz_lt : (op.toList == [60]) = false := by simpa using h_lt
      have zz_le : (op.toList == [60, 61]) = false := by simpa using h_le
      have zz_gt : (op.toList == [62]) = false := by simpa using h_gt
      obtain ⟨V, hV⟩ : ∃ V, hoB op q = V := ⟨_, rfl⟩
      have HU : Hid (U = ⟨3, false, 0, ⟨#[]⟩, hoB op q, 0⟩) := by show _ = _; rw [← HUU.out]; unfold bkA; rw [if_pos HT.out]; simp [h_ge]
      have HHO : Hid (∀ W, Calls Tryz.prog 42 #[.string op, .int .i64 q] W fun e w' => e = .returned (.bool V) ∧ w' = W) := fun W => by
        have := holds_any op q W
        rwa [hV] at this
      have HV : Hid (hoB op q = V) := hV
      clear hV HUU HRK HZS
      go_enter Tryz.func22, Tryz.ntmps22
      go_wp2_with fail
      refine (HTK.out _).mono ?_
      rintro e x1 ⟨rfl, hb⟩
      have HZ : Hid (x1.heap[w.heap.size + 1 + 1]? = some (.cells #[.int .i64 0, .bool false, .slice none 0 0, .string ⟨#[]⟩, .bool false] 26 (0, 0))) := kept5 hb HZ3.out
      have H0 : Hid (x1.heap[w.heap.size]? = some (.cells #[.int .i64 k1, .bool s1, .slice ao n cap, .string t1, .bool b1] 26 (0, 0))) := kept5 hb HA.out.2.1
      have H1 : Hid (x1.heap[w.heap.size + 1]? = some (.cells #[.int .i64 k1, .bool s2, .slice ap m capb, .string t2, .bool b2] 26 (0, 0))) := kept5 hb HA.out.2.2
      have HB : Hid (Below w.heap.size w x1) := HB3.out.trans (hb.mono HB3.out.size)
      clear hb HTK
      have a5 := bx5 H0.out
      have c5 := bx5 H1.out
      go_wp2_with fail
      refine (HCM.out _ HB.out).mono ?_
      rintro e x2 ⟨rfl, hb⟩
      have HZX : Hid (x2.heap[w.heap.size + 1 + 1]? = some (.cells #[.int .i64 0, .bool false, .slice none 0 0, .string ⟨#[]⟩, .bool false] 26 (0, 0))) := kept5 hb HZ.out
      have HBX : Hid (Below w.heap.size w x2) := HB.out.trans (hb.mono HB.out.size)
      clear hb HCM
      go_wp2_with fail
      refine (HHO.out _).mono ?_
      rintro e x3 ⟨rfl, hw⟩
      obtain rfl := hw.symm
      clear hw HHO
      go_wp2_with fail
      refine (kbool_any V _).mono ?_
      rintro e y2 ⟨rfl, hb⟩
      have HZY : Hid (y2.heap[w.heap.size + 1 + 1]? = some (.cells #[.int .i64 0, .bool false, .slice none 0 0, .string ⟨#[]⟩, .bool false] 26 (0, 0))) := kept5 hb HZX.out
      have HBY : Hid (Below w.heap.size w y2) := HBX.out.trans (hb.mono HBX.out.size)
      clear hb
      have k5 := bx5 HZY.out
      have k5f := bx5f HZY.out
      go_wp2_with fail
      have hm := set5 (a' := .int .i64 3) (b' := .bool false) (c' := .slice none 0 0) (d' := .string ⟨#[]⟩) (e' := .bool V) HZY.out
      have hb5 := below5 (B := w.heap.size + 1 + 1) (a := .int .i64 3) (b := .bool false) (c := .slice none 0 0) (d := .string ⟨#[]⟩) (e := .bool V) HBY.out (by omega)
      exact bodyPost_ret (v := .tuple #[.agg #[.int .i64 3, .bool false, .slice none 0 0, .string ⟨#[]⟩, .bool V], .int .i64 0]) (res_ct rfl rfl rfl (resC hm)) rfl (by rw [HU.out, HV.out]; exact ⟨⟨_, rfl, _, _, _, rfl, zero_num _ _⟩, hb5⟩)
    by_cases h_an : op.toList = [38, 38]
    · have zz_eq : (op.toList == [61, 61]) = false := by simpa using h_eq
      have zz_ne : (op.toList == [33, 61]) = false := by simpa using h_ne
      have zz_lt : (op.toList == [60]) = false := by simpa using h_lt
      have zz_le : (op.toList == [60, 61]) = false := by simpa using h_le
      have zz_gt : (op.toList == [62]) = false := by simpa using h_gt
      have zz_ge : (op.toList == [62, 61]) = false := by simpa using h_ge
      have HU : Hid (U = ⟨3, false, 0, ⟨#[]⟩, (b1 && b2), 0⟩) := by show _ = _; rw [← HUU.out]; unfold bkA; rw [if_pos HT.out]; simp [h_an]
      clear HUU HRK HZS HCM
      cases b1 <;> cases b2
      · go_enter Tryz.func22, Tryz.ntmps22
        go_wp2_with fail
        refine (HTK.out _).mono ?_
        rintro e x1 ⟨rfl, hb⟩
        have HZ : Hid (x1.heap[w.heap.size + 1 + 1]? = some (.cells #[.int .i64 0, .bool false, .slice none 0 0, .string ⟨#[]⟩, .bool false] 26 (0, 0))) := kept5 hb HZ3.out
        have H0 : Hid (x1.heap[w.heap.size]? = some (.cells #[.int .i64 k1, .bool s1, .slice ao n cap, .string t1, .bool false] 26 (0, 0))) := kept5 hb HA.out.2.1
        have H1 : Hid (x1.heap[w.heap.size + 1]? = some (.cells #[.int .i64 k1, .bool s2, .slice ap m capb, .string t2, .bool false] 26 (0, 0))) := kept5 hb HA.out.2.2
        have HB : Hid (Below w.heap.size w x1) := HB3.out.trans (hb.mono HB3.out.size)
        clear hb HTK
        have a5 := bx5 H0.out
        have c5 := bx5 H1.out
        have HZX : Hid (x1.heap[w.heap.size + 1 + 1]? = some (.cells #[.int .i64 0, .bool false, .slice none 0 0, .string ⟨#[]⟩, .bool false] 26 (0, 0))) := HZ.out
        have HBX : Hid (Below w.heap.size w x1) := HB.out
        go_wp2_with fail
        refine (kbool_any false _).mono ?_
        rintro e y2 ⟨rfl, hb⟩
        have HZY : Hid (y2.heap[w.heap.size + 1 + 1]? = some (.cells #[.int .i64 0, .bool false, .slice none 0 0, .string ⟨#[]⟩, .bool false] 26 (0, 0))) := kept5 hb HZX.out
        have HBY : Hid (Below w.heap.size w y2) := HBX.out.trans (hb.mono HBX.out.size)
        clear hb
        have k5 := bx5 HZY.out
        have k5f := bx5f HZY.out
        go_wp2_with fail
        have hm := set5 (a' := .int .i64 3) (b' := .bool false) (c' := .slice none 0 0) (d' := .string ⟨#[]⟩) (e' := .bool false) HZY.out
        have hb5 := below5 (B := w.heap.size + 1 + 1) (a := .int .i64 3) (b := .bool false) (c := .slice none 0 0) (d := .string ⟨#[]⟩) (e := .bool false) HBY.out (by omega)
        exact bodyPost_ret (v := .tuple #[.agg #[.int .i64 3, .bool false, .slice none 0 0, .string ⟨#[]⟩, .bool false], .int .i64 0]) (res_ct rfl rfl rfl (resC hm)) rfl (by rw [HU.out]; exact ⟨⟨_, rfl, _, _, _, rfl, zero_num _ _⟩, hb5⟩)
      · go_enter Tryz.func22, Tryz.ntmps22
        go_wp2_with fail
        refine (HTK.out _).mono ?_
        rintro e x1 ⟨rfl, hb⟩
        have HZ : Hid (x1.heap[w.heap.size + 1 + 1]? = some (.cells #[.int .i64 0, .bool false, .slice none 0 0, .string ⟨#[]⟩, .bool false] 26 (0, 0))) := kept5 hb HZ3.out
        have H0 : Hid (x1.heap[w.heap.size]? = some (.cells #[.int .i64 k1, .bool s1, .slice ao n cap, .string t1, .bool false] 26 (0, 0))) := kept5 hb HA.out.2.1
        have H1 : Hid (x1.heap[w.heap.size + 1]? = some (.cells #[.int .i64 k1, .bool s2, .slice ap m capb, .string t2, .bool true] 26 (0, 0))) := kept5 hb HA.out.2.2
        have HB : Hid (Below w.heap.size w x1) := HB3.out.trans (hb.mono HB3.out.size)
        clear hb HTK
        have a5 := bx5 H0.out
        have c5 := bx5 H1.out
        have HZX : Hid (x1.heap[w.heap.size + 1 + 1]? = some (.cells #[.int .i64 0, .bool false, .slice none 0 0, .string ⟨#[]⟩, .bool false] 26 (0, 0))) := HZ.out
        have HBX : Hid (Below w.heap.size w x1) := HB.out
        go_wp2_with fail
        refine (kbool_any false _).mono ?_
        rintro e y2 ⟨rfl, hb⟩
        have HZY : Hid (y2.heap[w.heap.size + 1 + 1]? = some (.cells #[.int .i64 0, .bool false, .slice none 0 0, .string ⟨#[]⟩, .bool false] 26 (0, 0))) := kept5 hb HZX.out
        have HBY : Hid (Below w.heap.size w y2) := HBX.out.trans (hb.mono HBX.out.size)
        clear hb
        have k5 := bx5 HZY.out
        have k5f := bx5f HZY.out
        go_wp2_with fail
        have hm := set5 (a' := .int .i64 3) (b' := .bool false) (c' := .slice none 0 0) (d' := .string ⟨#[]⟩) (e' := .bool false) HZY.out
        have hb5 := below5 (B := w.heap.size + 1 + 1) (a := .int .i64 3) (b := .bool false) (c := .slice none 0 0) (d := .string ⟨#[]⟩) (e := .bool false) HBY.out (by omega)
        exact bodyPost_ret (v := .tuple #[.agg #[.int .i64 3, .bool false, .slice none 0 0, .string ⟨#[]⟩, .bool false], .int .i64 0]) (res_ct rfl rfl rfl (resC hm)) rfl (by rw [HU.out]; exact ⟨⟨_, rfl, _, _, _, rfl, zero_num _ _⟩, hb5⟩)
      · go_enter Tryz.func22, Tryz.ntmps22
        go_wp2_with fail
        refine (HTK.out _).mono ?_
        rintro e x1 ⟨rfl, hb⟩
        have HZ : Hid (x1.heap[w.heap.size + 1 + 1]? = some (.cells #[.int .i64 0, .bool false, .slice none 0 0, .string ⟨#[]⟩, .bool false] 26 (0, 0))) := kept5 hb HZ3.out
        have H0 : Hid (x1.heap[w.heap.size]? = some (.cells #[.int .i64 k1, .bool s1, .slice ao n cap, .string t1, .bool true] 26 (0, 0))) := kept5 hb HA.out.2.1
        have H1 : Hid (x1.heap[w.heap.size + 1]? = some (.cells #[.int .i64 k1, .bool s2, .slice ap m capb, .string t2, .bool false] 26 (0, 0))) := kept5 hb HA.out.2.2
        have HB : Hid (Below w.heap.size w x1) := HB3.out.trans (hb.mono HB3.out.size)
        clear hb HTK
        have a5 := bx5 H0.out
        have c5 := bx5 H1.out
        have HZX : Hid (x1.heap[w.heap.size + 1 + 1]? = some (.cells #[.int .i64 0, .bool false, .slice none 0 0, .string ⟨#[]⟩, .bool false] 26 (0, 0))) := HZ.out
        have HBX : Hid (Below w.heap.size w x1) := HB.out
        go_wp2_with fail
        refine (kbool_any false _).mono ?_
        rintro e y2 ⟨rfl, hb⟩
        have HZY : Hid (y2.heap[w.heap.size + 1 + 1]? = some (.cells #[.int .i64 0, .bool false, .slice none 0 0, .string ⟨#[]⟩, .bool false] 26 (0, 0))) := kept5 hb HZX.out
        have HBY : Hid (Below w.heap.size w y2) := HBX.out.trans (hb.mono HBX.out.size)
        clear hb
        have k5 := bx5 HZY.out
        have k5f := bx5f HZY.out
        go_wp2_with fail
        have hm := set5 (a' := .int .i64 3) (b' := .bool false) (c' := .slice none 0 0) (d' := .string ⟨#[]⟩) (e' := .bool false) HZY.out
        have hb5 := below5 (B := w.heap.size + 1 + 1) (a := .int .i64 3) (b := .bool false) (c := .slice none 0 0) (d := .string ⟨#[]⟩) (e := .bool false) HBY.out (by omega)
        exact bodyPost_ret (v := .tuple #[.agg #[.int .i64 3, .bool false, .slice none 0 0, .string ⟨#[]⟩, .bool false], .int .i64 0]) (res_ct rfl rfl rfl (resC hm)) rfl (by rw [HU.out]; exact ⟨⟨_, rfl, _, _, _, rfl, zero_num _ _⟩, hb5⟩)
      · go_enter Tryz.func22, Tryz.ntmps22
        go_wp2_with fail
        refine (HTK.out _).mono ?_
        rintro e x1 ⟨rfl, hb⟩
        have HZ : Hid (x1.heap[w.heap.size + 1 + 1]? = some (.cells #[.int .i64 0, .bool false, .slice none 0 0, .string ⟨#[]⟩, .bool false] 26 (0, 0))) := kept5 hb HZ3.out
        have H0 : Hid (x1.heap[w.heap.size]? = some (.cells #[.int .i64 k1, .bool s1, .slice ao n cap, .string t1, .bool true] 26 (0, 0))) := kept5 hb HA.out.2.1
        have H1 : Hid (x1.heap[w.heap.size + 1]? = some (.cells #[.int .i64 k1, .bool s2, .slice ap m capb, .string t2, .bool true] 26 (0, 0))) := kept5 hb HA.out.2.2
        have HB : Hid (Below w.heap.size w x1) := HB3.out.trans (hb.mono HB3.out.size)
        clear hb HTK
        have a5 := bx5 H0.out
        have c5 := bx5 H1.out
        have HZX : Hid (x1.heap[w.heap.size + 1 + 1]? = some (.cells #[.int .i64 0, .bool false, .slice none 0 0, .string ⟨#[]⟩, .bool false] 26 (0, 0))) := HZ.out
        have HBX : Hid (Below w.heap.size w x1) := HB.out
        go_wp2_with fail
        refine (kbool_any true _).mono ?_
        rintro e y2 ⟨rfl, hb⟩
        have HZY : Hid (y2.heap[w.heap.size + 1 + 1]? = some (.cells #[.int .i64 0, .bool false, .slice none 0 0, .string ⟨#[]⟩, .bool false] 26 (0, 0))) := kept5 hb HZX.out
        have HBY : Hid (Below w.heap.size w y2) := HBX.out.trans (hb.mono HBX.out.size)
        clear hb
        have k5 := bx5 HZY.out
        have k5f := bx5f HZY.out
        go_wp2_with fail
        have hm := set5 (a' := .int .i64 3) (b' := .bool false) (c' := .slice none 0 0) (d' := .string ⟨#[]⟩) (e' := .bool true) HZY.out
        have hb5 := below5 (B := w.heap.size + 1 + 1) (a := .int .i64 3) (b := .bool false) (c := .slice none 0 0) (d := .string ⟨#[]⟩) (e := .bool true) HBY.out (by omega)
        exact bodyPost_ret (v := .tuple #[.agg #[.int .i64 3, .bool false, .slice none 0 0, .string ⟨#[]⟩, .bool true], .int .i64 0]) (res_ct rfl rfl rfl (resC hm)) rfl (by rw [HU.out]; exact ⟨⟨_, rfl, _, _, _, rfl, zero_num _ _⟩, hb5⟩)
    by_cases h_or : op.toList = [124, 124]
    · have zz_eq : (op.toList == [61, 61]) = false := by simpa using h_eq
      have zz_ne : (op.toList == [33, 61]) = false := by simpa using h_ne
      have zz_lt : (op.toList == [60]) = false := by simpa using h_lt
      have zz_le : (op.toList == [60, 61]) = false := by simpa using h_le
      have zz_gt : (op.toList == [62]) = false := by simpa using h_gt
      have zz_ge : (op.toList == [62, 61]) = false := by simpa using h_ge
      have zz_an : (op.toList == [38, 38]) = false := by simpa using h_an
      have HU : Hid (U = ⟨3, false, 0, ⟨#[]⟩, (b1 || b2), 0⟩) := by show _ = _; rw [← HUU.out]; unfold bkA; rw [if_pos HT.out]; simp [h_or]
      clear HUU HRK HZS HCM
      cases b1 <;> cases b2
      · go_enter Tryz.func22, Tryz.ntmps22
        go_wp2_with fail
        refine (HTK.out _).mono ?_
        rintro e x1 ⟨rfl, hb⟩
        have HZ : Hid (x1.heap[w.heap.size + 1 + 1]? = some (.cells #[.int .i64 0, .bool false, .slice none 0 0, .string ⟨#[]⟩, .bool false] 26 (0, 0))) := kept5 hb HZ3.out
        have H0 : Hid (x1.heap[w.heap.size]? = some (.cells #[.int .i64 k1, .bool s1, .slice ao n cap, .string t1, .bool false] 26 (0, 0))) := kept5 hb HA.out.2.1
        have H1 : Hid (x1.heap[w.heap.size + 1]? = some (.cells #[.int .i64 k1, .bool s2, .slice ap m capb, .string t2, .bool false] 26 (0, 0))) := kept5 hb HA.out.2.2
        have HB : Hid (Below w.heap.size w x1) := HB3.out.trans (hb.mono HB3.out.size)
        clear hb HTK
        have a5 := bx5 H0.out
        have c5 := bx5 H1.out
        have HZX : Hid (x1.heap[w.heap.size + 1 + 1]? = some (.cells #[.int .i64 0, .bool false, .slice none 0 0, .string ⟨#[]⟩, .bool false] 26 (0, 0))) := HZ.out
        have HBX : Hid (Below w.heap.size w x1) := HB.out
        go_wp2_with fail
        refine (kbool_any false _).mono ?_
        rintro e y2 ⟨rfl, hb⟩
        have HZY : Hid (y2.heap[w.heap.size + 1 + 1]? = some (.cells #[.int .i64 0, .bool false, .slice none 0 0, .string ⟨#[]⟩, .bool false] 26 (0, 0))) := kept5 hb HZX.out
        have HBY : Hid (Below w.heap.size w y2) := HBX.out.trans (hb.mono HBX.out.size)
        clear hb
        have k5 := bx5 HZY.out
        have k5f := bx5f HZY.out
        go_wp2_with fail
        have hm := set5 (a' := .int .i64 3) (b' := .bool false) (c' := .slice none 0 0) (d' := .string ⟨#[]⟩) (e' := .bool false) HZY.out
        have hb5 := below5 (B := w.heap.size + 1 + 1) (a := .int .i64 3) (b := .bool false) (c := .slice none 0 0) (d := .string ⟨#[]⟩) (e := .bool false) HBY.out (by omega)
        exact bodyPost_ret (v := .tuple #[.agg #[.int .i64 3, .bool false, .slice none 0 0, .string ⟨#[]⟩, .bool false], .int .i64 0]) (res_ct rfl rfl rfl (resC hm)) rfl (by rw [HU.out]; exact ⟨⟨_, rfl, _, _, _, rfl, zero_num _ _⟩, hb5⟩)
      · go_enter Tryz.func22, Tryz.ntmps22
        go_wp2_with fail
        refine (HTK.out _).mono ?_
        rintro e x1 ⟨rfl, hb⟩
        have HZ : Hid (x1.heap[w.heap.size + 1 + 1]? = some (.cells #[.int .i64 0, .bool false, .slice none 0 0, .string ⟨#[]⟩, .bool false] 26 (0, 0))) := kept5 hb HZ3.out
        have H0 : Hid (x1.heap[w.heap.size]? = some (.cells #[.int .i64 k1, .bool s1, .slice ao n cap, .string t1, .bool false] 26 (0, 0))) := kept5 hb HA.out.2.1
        have H1 : Hid (x1.heap[w.heap.size + 1]? = some (.cells #[.int .i64 k1, .bool s2, .slice ap m capb, .string t2, .bool true] 26 (0, 0))) := kept5 hb HA.out.2.2
        have HB : Hid (Below w.heap.size w x1) := HB3.out.trans (hb.mono HB3.out.size)
        clear hb HTK
        have a5 := bx5 H0.out
        have c5 := bx5 H1.out
        have HZX : Hid (x1.heap[w.heap.size + 1 + 1]? = some (.cells #[.int .i64 0, .bool false, .slice none 0 0, .string ⟨#[]⟩, .bool false] 26 (0, 0))) := HZ.out
        have HBX : Hid (Below w.heap.size w x1) := HB.out
        go_wp2_with fail
        refine (kbool_any true _).mono ?_
        rintro e y2 ⟨rfl, hb⟩
        have HZY : Hid (y2.heap[w.heap.size + 1 + 1]? = some (.cells #[.int .i64 0, .bool false, .slice none 0 0, .string ⟨#[]⟩, .bool false] 26 (0, 0))) := kept5 hb HZX.out
        have HBY : Hid (Below w.heap.size w y2) := HBX.out.trans (hb.mono HBX.out.size)
        clear hb
        have k5 := bx5 HZY.out
        have k5f := bx5f HZY.out
        go_wp2_with fail
        have hm := set5 (a' := .int .i64 3) (b' := .bool false) (c' := .slice none 0 0) (d' := .string ⟨#[]⟩) (e' := .bool true) HZY.out
        have hb5 := below5 (B := w.heap.size + 1 + 1) (a := .int .i64 3) (b := .bool false) (c := .slice none 0 0) (d := .string ⟨#[]⟩) (e := .bool true) HBY.out (by omega)
        exact bodyPost_ret (v := .tuple #[.agg #[.int .i64 3, .bool false, .slice none 0 0, .string ⟨#[]⟩, .bool true], .int .i64 0]) (res_ct rfl rfl rfl (resC hm)) rfl (by rw [HU.out]; exact ⟨⟨_, rfl, _, _, _, rfl, zero_num _ _⟩, hb5⟩)
      · go_enter Tryz.func22, Tryz.ntmps22
        go_wp2_with fail
        refine (HTK.out _).mono ?_
        rintro e x1 ⟨rfl, hb⟩
        have HZ : Hid (x1.heap[w.heap.size + 1 + 1]? = some (.cells #[.int .i64 0, .bool false, .slice none 0 0, .string ⟨#[]⟩, .bool false] 26 (0, 0))) := kept5 hb HZ3.out
        have H0 : Hid (x1.heap[w.heap.size]? = some (.cells #[.int .i64 k1, .bool s1, .slice ao n cap, .string t1, .bool true] 26 (0, 0))) := kept5 hb HA.out.2.1
        have H1 : Hid (x1.heap[w.heap.size + 1]? = some (.cells #[.int .i64 k1, .bool s2, .slice ap m capb, .string t2, .bool false] 26 (0, 0))) := kept5 hb HA.out.2.2
        have HB : Hid (Below w.heap.size w x1) := HB3.out.trans (hb.mono HB3.out.size)
        clear hb HTK
        have a5 := bx5 H0.out
        have c5 := bx5 H1.out
        have HZX : Hid (x1.heap[w.heap.size + 1 + 1]? = some (.cells #[.int .i64 0, .bool false, .slice none 0 0, .string ⟨#[]⟩, .bool false] 26 (0, 0))) := HZ.out
        have HBX : Hid (Below w.heap.size w x1) := HB.out
        go_wp2_with fail
        refine (kbool_any true _).mono ?_
        rintro e y2 ⟨rfl, hb⟩
        have HZY : Hid (y2.heap[w.heap.size + 1 + 1]? = some (.cells #[.int .i64 0, .bool false, .slice none 0 0, .string ⟨#[]⟩, .bool false] 26 (0, 0))) := kept5 hb HZX.out
        have HBY : Hid (Below w.heap.size w y2) := HBX.out.trans (hb.mono HBX.out.size)
        clear hb
        have k5 := bx5 HZY.out
        have k5f := bx5f HZY.out
        go_wp2_with fail
        have hm := set5 (a' := .int .i64 3) (b' := .bool false) (c' := .slice none 0 0) (d' := .string ⟨#[]⟩) (e' := .bool true) HZY.out
        have hb5 := below5 (B := w.heap.size + 1 + 1) (a := .int .i64 3) (b := .bool false) (c := .slice none 0 0) (d := .string ⟨#[]⟩) (e := .bool true) HBY.out (by omega)
        exact bodyPost_ret (v := .tuple #[.agg #[.int .i64 3, .bool false, .slice none 0 0, .string ⟨#[]⟩, .bool true], .int .i64 0]) (res_ct rfl rfl rfl (resC hm)) rfl (by rw [HU.out]; exact ⟨⟨_, rfl, _, _, _, rfl, zero_num _ _⟩, hb5⟩)
      · go_enter Tryz.func22, Tryz.ntmps22
        go_wp2_with fail
        refine (HTK.out _).mono ?_
        rintro e x1 ⟨rfl, hb⟩
        have HZ : Hid (x1.heap[w.heap.size + 1 + 1]? = some (.cells #[.int .i64 0, .bool false, .slice none 0 0, .string ⟨#[]⟩, .bool false] 26 (0, 0))) := kept5 hb HZ3.out
        have H0 : Hid (x1.heap[w.heap.size]? = some (.cells #[.int .i64 k1, .bool s1, .slice ao n cap, .string t1, .bool true] 26 (0, 0))) := kept5 hb HA.out.2.1
        have H1 : Hid (x1.heap[w.heap.size + 1]? = some (.cells #[.int .i64 k1, .bool s2, .slice ap m capb, .string t2, .bool true] 26 (0, 0))) := kept5 hb HA.out.2.2
        have HB : Hid (Below w.heap.size w x1) := HB3.out.trans (hb.mono HB3.out.size)
        clear hb HTK
        have a5 := bx5 H0.out
        have c5 := bx5 H1.out
        have HZX : Hid (x1.heap[w.heap.size + 1 + 1]? = some (.cells #[.int .i64 0, .bool false, .slice none 0 0, .string ⟨#[]⟩, .bool false] 26 (0, 0))) := HZ.out
        have HBX : Hid (Below w.heap.size w x1) := HB.out
        go_wp2_with fail
        refine (kbool_any true _).mono ?_
        rintro e y2 ⟨rfl, hb⟩
        have HZY : Hid (y2.heap[w.heap.size + 1 + 1]? = some (.cells #[.int .i64 0, .bool false, .slice none 0 0, .string ⟨#[]⟩, .bool false] 26 (0, 0))) := kept5 hb HZX.out
        have HBY : Hid (Below w.heap.size w y2) := HBX.out.trans (hb.mono HBX.out.size)
        clear hb
        have k5 := bx5 HZY.out
        have k5f := bx5f HZY.out
        go_wp2_with fail
        have hm := set5 (a' := .int .i64 3) (b' := .bool false) (c' := .slice none 0 0) (d' := .string ⟨#[]⟩) (e' := .bool true) HZY.out
        have hb5 := below5 (B := w.heap.size + 1 + 1) (a := .int .i64 3) (b := .bool false) (c := .slice none 0 0) (d := .string ⟨#[]⟩) (e := .bool true) HBY.out (by omega)
        exact bodyPost_ret (v := .tuple #[.agg #[.int .i64 3, .bool false, .slice none 0 0, .string ⟨#[]⟩, .bool true], .int .i64 0]) (res_ct rfl rfl rfl (resC hm)) rfl (by rw [HU.out]; exact ⟨⟨_, rfl, _, _, _, rfl, zero_num _ _⟩, hb5⟩)
    have zz_eq : (op.toList == [61, 61]) = false := by simpa using h_eq
    have zz_ne : (op.toList == [33, 61]) = false := by simpa using h_ne
    have zz_lt : (op.toList == [60]) = false := by simpa using h_lt
    have zz_le : (op.toList == [60, 61]) = false := by simpa using h_le
    have zz_gt : (op.toList == [62]) = false := by simpa using h_gt
    have zz_ge : (op.toList == [62, 61]) = false := by simpa using h_ge
    have zz_an : (op.toList == [38, 38]) = false := by simpa using h_an
    have zz_or : (op.toList == [124, 124]) = false := by simpa using h_or
    by_cases e2 : k1 = 2
    · have HU : Hid (U = if 65536 < t1.size + t2.size then noA 2 else ⟨2, false, 0, t1 ++ t2, false, 0⟩) := by show _ = _; rw [← HUU.out]; unfold bkA; rw [if_pos HT.out]; simp [h_eq, h_ne, h_lt, h_le, h_gt, h_ge, h_an, h_or, e2]
      have HD : Hid (decide (k1 ∈ [2]) = true) := by show _ = _; simp [e2]
      have HJ : Hid (∀ W, Calls Tryz.prog 43 #[.string t1, .string t2] W (AnsQ W U)) := fun W => by rw [HU.out]; exact joined_any t1 t2 W HZS.out.1 HZS.out.2
      clear HUU HRK HZS HCM HU e2
      go_enter Tryz.func22, Tryz.ntmps22
      go_wp2_with fail
      refine (HTK.out _).mono ?_
      rintro e x1 ⟨rfl, hb⟩
      have HZ : Hid (x1.heap[w.heap.size + 1 + 1]? = some (.cells #[.int .i64 0, .bool false, .slice none 0 0, .string ⟨#[]⟩, .bool false] 26 (0, 0))) := kept5 hb HZ3.out
      have H0 : Hid (x1.heap[w.heap.size]? = some (.cells #[.int .i64 k1, .bool s1, .slice ao n cap, .string t1, .bool b1] 26 (0, 0))) := kept5 hb HA.out.2.1
      have H1 : Hid (x1.heap[w.heap.size + 1]? = some (.cells #[.int .i64 k1, .bool s2, .slice ap m capb, .string t2, .bool b2] 26 (0, 0))) := kept5 hb HA.out.2.2
      have HB : Hid (Below w.heap.size w x1) := HB3.out.trans (hb.mono HB3.out.size)
      clear hb HTK
      have a5 := bx5 H0.out
      have c5 := bx5 H1.out
      go_wp2_with fail
      refine (is_any [2] (by decide) k1 s1 ao n cap t1 b1 _ _ (lit_one x1 [2])).mono ?_
      rintro e x2 ⟨he, hb⟩
      rw [HD.out] at he
      subst he
      have hbb := (Below.refl x1.heap.size x1).alloc (Nat.le_refl _) (.cells #[.int .i64 2] 3)
      have hb2 := hbb.trans (hb.mono hbb.size)
      have HZX : Hid (x2.heap[w.heap.size + 1 + 1]? = some (.cells #[.int .i64 0, .bool false, .slice none 0 0, .string ⟨#[]⟩, .bool false] 26 (0, 0))) := kept5 hb2 HZ.out
      have H0X : Hid (x2.heap[w.heap.size]? = some (.cells #[.int .i64 k1, .bool s1, .slice ao n cap, .string t1, .bool b1] 26 (0, 0))) := kept5 hb2 H0.out
      have H1X : Hid (x2.heap[w.heap.size + 1]? = some (.cells #[.int .i64 k1, .bool s2, .slice ap m capb, .string t2, .bool b2] 26 (0, 0))) := kept5 hb2 H1.out
      have HBX : Hid (Below w.heap.size w x2) := HB.out.trans (hb2.mono HB.out.size)
      have HX3 : Hid (w.heap.size + 3 ≤ x2.heap.size) := by
        have hlt := (Array.getElem?_eq_some_iff.1 HZX.out).1
        show _ ≤ _
        omega
      clear hb hbb hb2 a5 c5
      have a5 := bx5 H0X.out
      have c5 := bx5 H1X.out
      go_wp2_with fail
      refine (HJ.out _).mono ?_
      rintro e y1 ⟨⟨v, rfl, aq, nq, cq, rfl, hi⟩, hb⟩
      have HZY : Hid (y1.heap[w.heap.size + 1 + 1]? = some (.cells #[.int .i64 0, .bool false, .slice none 0 0, .string ⟨#[]⟩, .bool false] 26 (0, 0))) := kept5 hb HZX.out
      have HBY : Hid (Below w.heap.size w y1) := HBX.out.trans (hb.mono HBX.out.size)
      have HIY : Hid (IntR y1 (w.heap.size + 3) (.agg #[.bool U.s, .slice aq nq cq]) U.s U.N) := hi.mono HX3.out
      clear hb hi
      have k5 := bx5 HZY.out
      have k5f := bx5f HZY.out
      go_wp2_with fail
      have hm := set5 (a' := .int .i64 U.k) (b' := .bool U.s) (c' := .slice aq nq cq) (d' := .string U.t) (e' := .bool U.b) HZY.out
      have hi := HIY.out.set5 (B := w.heap.size + 1 + 1) (a := .int .i64 U.k) (b := .bool U.s) (c := .slice aq nq cq) (d := .string U.t) (e := .bool U.b) (by omega)
      have hb5 := below5 (B := w.heap.size + 1 + 1) (a := .int .i64 U.k) (b := .bool U.s) (c := .slice aq nq cq) (d := .string U.t) (e := .bool U.b) HBY.out (by omega)
      exact bodyPost_ret (v := .tuple #[.agg #[.int .i64 U.k, .bool U.s, .slice aq nq cq, .string U.t, .bool U.b], .int .i64 U.e]) (res_ct rfl rfl rfl (resC hm)) rfl ⟨⟨_, rfl, _, _, _, rfl, hi.mono (base' := w.heap.size) (by omega)⟩, hb5⟩
    have HU : Hid (U = R) := by show _ = _; rw [← HUU.out]; unfold bkA; rw [if_pos HT.out]; simp [h_eq, h_ne, h_lt, h_le, h_gt, h_ge, h_an, h_or, e2]
    have HD : Hid (decide (k1 ∈ [2]) = false) := by show _ = _; simp [e2]
    have h9 : k1 = 1 ∧ (op.toList = [43] ∨ op.toList = [45] ∨ op.toList = [42] ∨ op.toList = [47] ∨ op.toList = [37]) := by
      have h := HT.out
      unfold tkB at h
      rw [if_neg (by simp [h_eq, h_ne])] at h
      by_cases h43 : op.toList = [43]
      · rw [if_pos (by simp [h43])] at h
        simp [e2] at h
        exact ⟨h, .inl h43⟩
      · rw [if_neg (by simp [h43, h_lt, h_le, h_gt, h_ge])] at h
        split at h
        · rename_i ho
          simp at h
          exact ⟨h, .inr ho⟩
        · rw [if_neg (by simp [h_an, h_or])] at h
          cases h
    have HJ : Hid (∀ W, Below w.heap.size w W → Calls Tryz.prog 44 #[.string op, .agg #[.bool s1, .slice ao n cap], .agg #[.bool s2, .slice ap m capb]] W (AnsQ W U)) := fun W hb => by rw [HU.out]; exact HRK.out h9.1 h9.2 W hb
    clear h9 HUU HRK HZS HCM HU e2
    go_enter Tryz.func22, Tryz.ntmps22
    go_wp2_with fail
    refine (HTK.out _).mono ?_
    rintro e x1 ⟨rfl, hb⟩
    have HZ : Hid (x1.heap[w.heap.size + 1 + 1]? = some (.cells #[.int .i64 0, .bool false, .slice none 0 0, .string ⟨#[]⟩, .bool false] 26 (0, 0))) := kept5 hb HZ3.out
    have H0 : Hid (x1.heap[w.heap.size]? = some (.cells #[.int .i64 k1, .bool s1, .slice ao n cap, .string t1, .bool b1] 26 (0, 0))) := kept5 hb HA.out.2.1
    have H1 : Hid (x1.heap[w.heap.size + 1]? = some (.cells #[.int .i64 k1, .bool s2, .slice ap m capb, .string t2, .bool b2] 26 (0, 0))) := kept5 hb HA.out.2.2
    have HB : Hid (Below w.heap.size w x1) := HB3.out.trans (hb.mono HB3.out.size)
    clear hb HTK
    have a5 := bx5 H0.out
    have c5 := bx5 H1.out
    go_wp2_with fail
    refine (is_any [2] (by decide) k1 s1 ao n cap t1 b1 _ _ (lit_one x1 [2])).mono ?_
    rintro e x2 ⟨he, hb⟩
    rw [HD.out] at he
    subst he
    have hbb := (Below.refl x1.heap.size x1).alloc (Nat.le_refl _) (.cells #[.int .i64 2] 3)
    have hb2 := hbb.trans (hb.mono hbb.size)
    have HZX : Hid (x2.heap[w.heap.size + 1 + 1]? = some (.cells #[.int .i64 0, .bool false, .slice none 0 0, .string ⟨#[]⟩, .bool false] 26 (0, 0))) := kept5 hb2 HZ.out
    have H0X : Hid (x2.heap[w.heap.size]? = some (.cells #[.int .i64 k1, .bool s1, .slice ao n cap, .string t1, .bool b1] 26 (0, 0))) := kept5 hb2 H0.out
    have H1X : Hid (x2.heap[w.heap.size + 1]? = some (.cells #[.int .i64 k1, .bool s2, .slice ap m capb, .string t2, .bool b2] 26 (0, 0))) := kept5 hb2 H1.out
    have HBX : Hid (Below w.heap.size w x2) := HB.out.trans (hb2.mono HB.out.size)
    have HX3 : Hid (w.heap.size + 3 ≤ x2.heap.size) := by
      have hlt := (Array.getElem?_eq_some_iff.1 HZX.out).1
      show _ ≤ _
      omega
    clear hb hbb hb2 a5 c5
    have a5 := bx5 H0X.out
    have c5 := bx5 H1X.out
    go_wp2_with fail
    refine (HJ.out _ HBX.out).mono ?_
    rintro e y1 ⟨⟨v, rfl, aq, nq, cq, rfl, hi⟩, hb⟩
    have HZY : Hid (y1.heap[w.heap.size + 1 + 1]? = some (.cells #[.int .i64 0, .bool false, .slice none 0 0, .string ⟨#[]⟩, .bool false] 26 (0, 0))) := kept5 hb HZX.out
    have HBY : Hid (Below w.heap.size w y1) := HBX.out.trans (hb.mono HBX.out.size)
    have HIY : Hid (IntR y1 (w.heap.size + 3) (.agg #[.bool U.s, .slice aq nq cq]) U.s U.N) := hi.mono HX3.out
    clear hb hi
    have k5 := bx5 HZY.out
    have k5f := bx5f HZY.out
    go_wp2_with fail
    have hm := set5 (a' := .int .i64 U.k) (b' := .bool U.s) (c' := .slice aq nq cq) (d' := .string U.t) (e' := .bool U.b) HZY.out
    have hi := HIY.out.set5 (B := w.heap.size + 1 + 1) (a := .int .i64 U.k) (b := .bool U.s) (c := .slice aq nq cq) (d := .string U.t) (e := .bool U.b) (by omega)
    have hb5 := below5 (B := w.heap.size + 1 + 1) (a := .int .i64 U.k) (b := .bool U.s) (c := .slice aq nq cq) (d := .string U.t) (e := .bool U.b) HBY.out (by omega)
    exact bodyPost_ret (v := .tuple #[.agg #[.int .i64 U.k, .bool U.s, .slice aq nq cq, .string U.t, .bool U.b], .int .i64 U.e]) (res_ct rfl rfl rfl (resC hm)) rfl ⟨⟨_, rfl, _, _, _, rfl, hi.mono (base' := w.heap.size) (by omega)⟩, hb5⟩
  · have HU : Hid (U = noA 6) := by show _ = _; rw [← HUU.out]; unfold bkA; rw [if_neg ht]
    have HTK : Hid (∀ W, Calls Tryz.prog 41 #[.string op, cnV k1 s1 ao n cap t1 b1] W fun e w' => e = .returned (.bool false) ∧ Below W.heap.size W w') := fun W => by
      have := takes_any op k1 s1 ao n cap t1 b1 W
      rw [Bool.not_eq_true] at ht
      rwa [ht] at this
    clear ht HUU HRK HCM HZS
    go_enter Tryz.func22, Tryz.ntmps22
    go_wp2_with fail
    refine (HTK.out _).mono ?_
    rintro e x1 ⟨rfl, hb⟩
    have HZ : Hid (x1.heap[w.heap.size + 1 + 1]? = some (.cells #[.int .i64 0, .bool false, .slice none 0 0, .string ⟨#[]⟩, .bool false] 26 (0, 0))) := kept5 hb HZ3.out
    have HB : Hid (Below w.heap.size w x1) := HB3.out.trans (hb.mono HB3.out.size)
    clear hb HTK
    have k5 := bx5 HZ.out
    have k5f := bx5f HZ.out
    go_wp2_with fail
    have hm := set5 (a' := .int .i64 0) (b' := .bool false) (c' := .slice none 0 0) (d' := .string ⟨#[]⟩) (e' := .bool false) HZ.out
    have hb5 := below5 (B := w.heap.size + 1 + 1) (a := .int .i64 0) (b := .bool false) (c := .slice none 0 0) (d := .string ⟨#[]⟩) (e := .bool false) HB.out (by omega)
    exact bodyPost_ret (v := .tuple #[.agg #[.int .i64 0, .bool false, .slice none 0 0, .string ⟨#[]⟩, .bool false], .int .i64 6]) (res_ct rfl rfl rfl (resC hm)) rfl (by rw [HU.out]; exact ⟨⟨_, rfl, _, _, _, rfl, zero_num _ _⟩, hb5⟩)
end Go.Proofs.YtfkkhabpnnealaaGreatDoor

