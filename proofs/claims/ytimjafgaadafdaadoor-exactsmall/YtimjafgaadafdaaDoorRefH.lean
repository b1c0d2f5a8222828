/-
  The contracts of the document's own Of and Small, and of exact.Small, at every argument.
-/
import Derived.Test.YtimjafgaadafdaaDoorRefF
namespace Go.Proofs.YtimjafgaadafdaaDoor
open Go.RowKit
attribute [local go_sem ↓] Go.wp_at_zero Go.wp_at_succ
set_option maxHeartbeats 1000000 in
theorem rof_abs (N : Nat) (neg : Bool) (w : World) (h : N ≤ 9223372036854775808) (hn : neg = true → 1 ≤ N) (hp : neg = false → N ≤ 9223372036854775807) :
    Calls Tryd.prog 32 #[.int .i64 (if neg then -(N : Int) else N)] w fun e w' => ∃ x, e = .returned x ∧ IntR w' w.heap.size x (sgB neg N) N ∧ Below w.heap.size w w' := by
  have e1 : (N : Int) % 4294967296 = ((N % 4294967296 : Nat) : Int) := by omega
  have e2 : (N : Int) / 4294967296 = ((N / 4294967296 : Nat) : Int) := by omega
  have E1 : Hid (_ = _) := e1
  have E2 : Hid (_ = _) := e2
  clear e1 e2
  have HV : Hid (vl 4294967296 [N % 4294967296, N / 4294967296] = N) := vl_two N
  have hwd : Wd 4294967296 [N % 4294967296, N / 4294967296] := by intro x hx; simp at hx; omega
  have HF : Hid (Form 4294967296 (List.take (tk [N % 4294967296, N / 4294967296]) [N % 4294967296, N / 4294967296])) := trim_form hwd
  have HT : Hid (vl 4294967296 (List.take (tk [N % 4294967296, N / 4294967296]) [N % 4294967296, N / 4294967296]) = N) := (trim_val _).trans HV.out
  clear hwd
  cases neg
  · have h1 := hp rfl
    clear hn hp
    go_enter Tryd.func32, Tryd.ntmps32
    go_wp2_with fail
    rw [E1.out, E2.out]
    generalize hW : (World.alloc _ _) = W
    obtain ⟨x1, x2, hbW, hzW⟩ := boxes2 w _ _ _ _ _ _ 0 hW
    have ho := own_two (base := w.heap.size + 1) x2 (by omega) (by omega) (Nat.le_refl _)
    have HO : Hid (Own W _ _ _ _ _) := ho
    have HBW : Hid (Below w.heap.size w W) := hbW
    have X1 : Hid (Box W w.heap.size _ _) := x1
    have HS : Hid (W.heap.size = w.heap.size + 1 + 1) := hzW
    clear hW x1 x2 hbW ho hzW
    refine (rform_any false _ _ _ [N % 4294967296, N / 4294967296] _ HO.out.sl (fun h => by cases h) (by omega)).mono ?_
    rintro e w3 ⟨ao', cap', rfl, ho3, _, hb3⟩
    rw [HV.out]
    have O3 : Hid (Own w3 (w.heap.size + 1) ao' (tk [N % 4294967296, N / 4294967296]) cap' _) := ho3.mono (by have := HS.out; omega)
    generalize tk [N % 4294967296, N / 4294967296] = k at *
    have HB3 : Hid (Below _ _ w3) := hb3
    have X33 := X1.out.below hb3 X1.out.lt
    have z0 := X33.z0
    have z1 := X33.z1
    have f0 := X33.f0
    have f1 := X33.f1
    clear hb3 X33 ho3
    go_wp2_with fail
    have ho2 := (O3.out.setCell (a := ⟨w.heap.size, 0, none⟩) (by show w.heap.size < w.heap.size + 1; omega) (.bool (sgB false N))).setCell (a := ⟨w.heap.size, 1, none⟩) (by show w.heap.size < w.heap.size + 1; omega) (.slice ao' k cap')
    refine bodyPost_ret (v := .agg #[.bool (sgB false N), .slice ao' k cap']) (by simp [results, Tryd.results32, go_sem, z0, z1]) rfl ⟨_, rfl, ⟨ao', k, cap', _, rfl, ho2.sl, HF.out, HT.out, (ho2.mono (by omega)).base⟩, ?_⟩
    exact (((HBW.out.trans (HB3.out.mono (by have := HS.out; omega))).setCell (p := ⟨w.heap.size, 0, none⟩) (Nat.le_refl _) _).setCell (p := ⟨w.heap.size, 1, none⟩) (Nat.le_refl _) _)
  · have h1 := hn rfl
    have hwr : IntKind.u64.wrap (-IntKind.u64.wrap (-(N : Int))) = (N : Int) := by rw [IntKind.wrap_u64, IntKind.wrap_u64]; omega
    clear hn hp
    go_enter Tryd.func32, Tryd.ntmps32
    go_wp2_with fail
    rw [E1.out, E2.out]
    generalize hW : (World.alloc _ _) = W
    obtain ⟨x1, x2, hbW, hzW⟩ := boxes2 w _ _ _ _ _ _ 0 hW
    have ho := own_two (base := w.heap.size + 1) x2 (by omega) (by omega) (Nat.le_refl _)
    have HO : Hid (Own W _ _ _ _ _) := ho
    have HBW : Hid (Below w.heap.size w W) := hbW
    have X1 : Hid (Box W w.heap.size _ _) := x1
    have HS : Hid (W.heap.size = w.heap.size + 1 + 1) := hzW
    clear hW x1 x2 hbW ho hzW
    refine (rform_any true _ _ _ [N % 4294967296, N / 4294967296] _ HO.out.sl (fun h => by cases h) (by omega)).mono ?_
    rintro e w3 ⟨ao', cap', rfl, ho3, _, hb3⟩
    rw [HV.out]
    have O3 : Hid (Own w3 (w.heap.size + 1) ao' (tk [N % 4294967296, N / 4294967296]) cap' _) := ho3.mono (by have := HS.out; omega)
    generalize tk [N % 4294967296, N / 4294967296] = k at *
    have HB3 : Hid (Below _ _ w3) := hb3
    have X33 := X1.out.below hb3 X1.out.lt
    have z0 := X33.z0
    have z1 := X33.z1
    have f0 := X33.f0
    have f1 := X33.f1
    clear hb3 X33 ho3
    go_wp2_with fail
    have ho2 := (O3.out.setCell (a := ⟨w.heap.size, 0, none⟩) (by show w.heap.size < w.heap.size + 1; omega) (.bool (sgB true N))).setCell (a := ⟨w.heap.size, 1, none⟩) (by show w.heap.size < w.heap.size + 1; omega) (.slice ao' k cap')
    refine bodyPost_ret (v := .agg #[.bool (sgB true N), .slice ao' k cap']) (by simp [results, Tryd.results32, go_sem, z0, z1]) rfl ⟨_, rfl, ⟨ao', k, cap', _, rfl, ho2.sl, HF.out, HT.out, (ho2.mono (by omega)).base⟩, ?_⟩
    exact (((HBW.out.trans (HB3.out.mono (by have := HS.out; omega))).setCell (p := ⟨w.heap.size, 0, none⟩) (Nat.le_refl _) _).setCell (p := ⟨w.heap.size, 1, none⟩) (Nat.le_refl _) _)
theorem rof_any (v : Int) (w : World) (h0 : -9223372036854775808 ≤ v) (h1 : v ≤ 9223372036854775807) :
    Calls Tryd.prog 32 #[.int .i64 v] w fun e w' => ∃ x, e = .returned x ∧ IntR w' w.heap.size x (sgB (decide (v < 0)) v.natAbs) v.natAbs ∧ Below w.heap.size w w' := by
  by_cases hv : v < 0
  · have := rof_abs v.natAbs true w (by omega) (fun _ => by omega) (fun h => by cases h)
    rw [if_pos rfl, show -(v.natAbs : Int) = v from by omega] at this
    rw [decide_eq_true hv]
    exact this
  · have := rof_abs v.natAbs false w (by omega) (fun h => by cases h) (fun _ => by omega)
    rw [if_neg (by simp), show (v.natAbs : Int) = v from by omega] at this
    rw [decide_eq_false hv]
    exact this
theorem or_put (sz x k : Nat) (hk : k ≤ 1) (hs : sz < 4294967296 ^ k) (hx : x ≤ 4294967295) : bits BinOp.or IntKind.u64 (sz : Int) (IntKind.u64.wrap ((x : Int) * 2 ^ (k * 32))) = ((sz + 4294967296 ^ k * x : Nat) : Int) ∧ sz + 4294967296 ^ k * x < 4294967296 ^ (k + 1) := by
  have hb : x * 2 ^ (k * 32) < 18446744073709551616 ∧ sz + 4294967296 ^ k * x < 4294967296 ^ (k + 1) := by
    rcases (show k = 0 ∨ k = 1 by omega) with h | h <;> subst h
    · simp at *; omega
    · simp at *; omega
  refine ⟨?_, hb.2⟩
  have e : IntKind.u64.wrap ((x : Int) * 2 ^ (k * 32)) = ((x * 2 ^ (k * 32) : Nat) : Int) := by
    rw [wrap64]
    have : ((x * 2 ^ (k * 32) % 18446744073709551616 : Nat) : Int) = (x : Int) * 2 ^ (k * 32) % 18446744073709551616 := by rw [Int.natCast_emod]; simp
    rw [← this, Nat.mod_eq_of_lt hb.1]
  have hp := pow_word k
  rw [hp] at hs
  have hj := nat_join (k * 32) (x * 2 ^ (k * 32)) sz (by simp) hs
  have h := u64_or_nat sz (x * 2 ^ (k * 32)) (by
    have : 2 ^ (k * 32) ≤ 2 ^ 32 := Nat.pow_le_pow_right (by omega) (by omega)
    have : (2 : Nat) ^ 32 = 4294967296 := by decide
    omega) hb.1
  rw [Nat.or_comm, hj] at h
  rw [e, h, hp, Nat.mul_comm x, Nat.add_comm]
/-- what Small answers -/
def smB (s : Bool) (N : Nat) : Bool := decide (N ≤ if s then 9223372036854775808 else 9223372036854775807)
def smV (s : Bool) (N : Nat) : Int := if smB s N then (if s then -(N : Int) else N) else 0
set_option maxHeartbeats 1000000 in
theorem small_any (s : Bool) (ao : Option Addr) (n cap : Nat) (l : List Nat) (w : World) (hl : Sl w ao n cap l) :
    Calls Tryd.prog 29 #[.agg #[.bool s, .slice ao n cap]] w fun e w' => e = .returned (.tuple #[.int .i64 (smV s (vl 4294967296 l)), .bool (smB s (vl 4294967296 l))]) ∧ Below w.heap.size w w' := by
  have HL : Hid (Sl w ao n cap l) := hl
  have K1 := tk_le hl
  clear hl
  go_enter Tryd.func29, Tryd.ntmps29
  go_wp2_with fail
  have HBW : Hid (Below w.heap.size w (w.alloc (Obj.cells #[Value.bool s, Value.slice ao n cap] 24))) := (Below.refl _ _).alloc (Nat.le_refl _) _
  refine (trimmed_eq ao n cap l _ (HL.out.below HBW.out (Nat.le_refl _))).mono ?_
  rintro e w1 ⟨rfl, rfl⟩
  have K2 : 2 < tk l → 18446744073709551616 ≤ vl 4294967296 l := fun h => by
    have hf := trim_form HL.out.wd
    have hlen : (l.take (tk l)).length = tk l := by have := (tk_trim l).le; simp; omega
    have h1 := hf.low (by intro h0; rw [h0] at hlen; simp at hlen; omega)
    rw [hlen, trim_val] at h1
    have h3 := Nat.pow_le_pow_right (n := 4294967296) (by omega) (show 2 ≤ tk l - 1 by omega)
    have h4 : 4294967296 ^ 2 = 18446744073709551616 := by decide
    omega
  by_cases h2 : 2 < tk l
  · have hbig := K2 h2
    have HE : Hid (smB s (vl 4294967296 l) = false) := by
      show _ = _
      unfold smB
      rw [decide_eq_false_iff_not]
      cases s <;> simp <;> omega
    clear K2 hbig
    go_wp2_with fail
    refine bodyPost_ret (v := .tuple #[.int .i64 0, .bool false]) (by simp [results, Tryd.results29, go_sem]) rfl ⟨?_, HBW.out⟩
    simp [smV, HE.out]
  · have HS : Hid (Sl _ ao (tk l) cap (l.take (tk l))) := (HL.out.below HBW.out (Nat.le_refl _)).trim
    have HX : Hid (Box (w.alloc (Obj.cells #[Value.bool s, Value.slice ao n cap] 24)) w.heap.size (.bool s) (.slice ao n cap)) := Box.new _ _ _ _
    generalize hW : w.alloc (Obj.cells #[Value.bool s, Value.slice ao n cap] 24) = W at *
    clear K2 hW
    have p0 := HX.out.z0
    have p1 := HX.out.z1
    go_wp2_with fail
    go_loopw [5, 6, 7, 17] (fun sv _ _ iv wr => ∃ k sz : Nat, k ≤ tk l ∧ iv = .int .i64 k ∧ sv = .int .u64 sz ∧ sz < 4294967296 ^ k ∧ Hid (sz = vl 4294967296 ((l.take (tk l)).take k)) ∧ wr = W) (fun _ _ _ iv _ => tk l - (intOf iv).toNat)
    case atStart => exact ⟨0, 0, Nat.zero_le _, rfl, rfl, by omega, rfl, rfl⟩
    case round =>
      obtain ⟨k, sz, hk, rfl, rfl, hsz, HV, rfl⟩ := hrel
      by_cases hlt : k < tk l
      · obtain ⟨bl, ol, rfl, hbl, hcl⟩ := HS.out.at_ (by omega)
        obtain ⟨x, hx⟩ : ∃ x, x = (l.take (tk l)).getD k 0 := ⟨_, rfl⟩
        have hcx := hcl k hlt
        rw [← hx] at hcx
        have hxb : x ≤ 4294967295 := by have := HS.out.wd.at (by omega) k; omega
        have HXX : Hid (x = (l.take (tk l)).getD k 0) := hx
        clear hx hcl
        obtain ⟨ho, hb⟩ := or_put sz x k (by omega) hsz hxb
        have HO : Hid (_ = _) := ho
        have HBD : Hid (_ < _) := hb
        clear ho hb
        go_wp2_with fail
        go_roundw
        case rel => exact ⟨k + 1, sz + 4294967296 ^ k * x, by omega, by go_num, by rw [HO.out], HBD.out, by show _ = _; rw [vl_take_next, ← HXX.out, HV.out], trivial⟩
        case measure => simp [intOf]; omega
      · obtain rfl : k = tk l := by omega
        have hv : vl 4294967296 l = sz := by rw [HV.out, List.take_of_length_le (by rw [HS.out.len]; exact Nat.le_refl _), trim_val]
        have hN : sz ≤ 18446744073709551615 := by
          have := Nat.pow_le_pow_right (n := 4294967296) (by omega) (show tk l ≤ 2 by omega)
          have h4 : 4294967296 ^ 2 = 18446744073709551616 := by decide
          omega
        clear HV hsz
        have HV : Hid (vl 4294967296 l = sz) := hv
        clear hv
        obtain ⟨N, rfl⟩ : ∃ N, N = sz := ⟨_, rfl⟩
        cases s
        · by_cases hf : N ≤ 9223372036854775807
          · have HE : Hid (smB false N = true) := by show _ = _; unfold smB; rw [decide_eq_true_iff]; exact hf
            have HE2 : Hid (smV false N = (N : Int)) := by show _ = _; unfold smV; rw [HE.out]; rfl
            go_wp2_with fail
            refine bodyPost_ret (v := .tuple #[.int .i64 ((N : Int)), .bool true]) (by simp [results, Tryd.results29, go_sem]) rfl ⟨?_, HBW.out⟩
            rw [HV.out, HE.out, HE2.out]
          · have HE : Hid (smB false N = false) := by show _ = _; unfold smB; rw [decide_eq_false_iff_not]; exact hf
            have HE2 : Hid (smV false N = 0) := by show _ = _; unfold smV; rw [HE.out]; rfl
            go_wp2_with fail
            refine bodyPost_ret (v := .tuple #[.int .i64 0, .bool false]) (by simp [results, Tryd.results29, go_sem]) rfl ⟨?_, HBW.out⟩
            rw [HV.out, HE.out, HE2.out]
        · by_cases hf : N ≤ 9223372036854775808
          · have HE : Hid (smB true N = true) := by show _ = _; unfold smB; rw [decide_eq_true_iff]; exact hf
            have HE2 : Hid (smV true N = -(N : Int)) := by show _ = _; unfold smV; rw [HE.out]; rfl
            have hwr : IntKind.i64.wrap (IntKind.u64.wrap (-(N : Int))) = -(N : Int) := by rw [wrap64]; simp [IntKind.wrap, IntKind.bits, IntKind.signed]; omega
            go_wp2_with fail
            refine bodyPost_ret (v := .tuple #[.int .i64 (-(N : Int)), .bool true]) (by simp [results, Tryd.results29, go_sem]) rfl ⟨?_, HBW.out⟩
            rw [HV.out, HE.out, HE2.out]
          · have HE : Hid (smB true N = false) := by show _ = _; unfold smB; rw [decide_eq_false_iff_not]; exact hf
            have HE2 : Hid (smV true N = 0) := by show _ = _; unfold smV; rw [HE.out]; rfl
            go_wp2_with fail
            refine bodyPost_ret (v := .tuple #[.int .i64 0, .bool false]) (by simp [results, Tryd.results29, go_sem]) rfl ⟨?_, HBW.out⟩
            rw [HV.out, HE.out, HE2.out]
theorem smB_sg (s : Bool) (N : Nat) : smB (sgB s N) N = smB s N := by
  unfold smB sgB
  cases s <;> by_cases h : N = 0 <;> simp [h]
theorem smV_sg (s : Bool) (N : Nat) : smV (sgB s N) N = smV s N := by
  unfold smV
  rw [smB_sg]
  unfold sgB
  cases s <;> by_cases h : N = 0 <;> simp [h]
theorem tk_big {l : List Nat} (hw : Wd 4294967296 l) (h : 2 < tk l) : 18446744073709551616 ≤ vl 4294967296 l := by
  have hf := trim_form hw
  have hlen : (l.take (tk l)).length = tk l := by have := (tk_trim l).le; simp; omega
  have h1 := hf.low (by intro h0; rw [h0] at hlen; simp at hlen; omega)
  rw [hlen, trim_val] at h1
  have h3 := Nat.pow_le_pow_right (n := 4294967296) (by omega) (show 2 ≤ tk l - 1 by omega)
  have h4 : 4294967296 ^ 2 = 18446744073709551616 := by decide
  omega
set_option maxHeartbeats 2000000 in
set_option maxRecDepth 100000 in
theorem rsmall_at (s : Bool) (ao : Option Addr) (n cap : Nat) (l : List Nat) (w : World) (hl : Sl w ao n cap l) (hz : ao = none → cap = 0) (hn : n ≤ 1000) (s1 : Bool) (e1 : sgB s (vl 4294967296 l) = s1) :
    Calls Tryd.prog 31 #[.agg #[.bool s, .slice ao n cap]] w fun e w' => e = .returned (.tuple #[.int .i64 (smV s (vl 4294967296 l)), .bool (smB s (vl 4294967296 l))]) ∧ Below w.heap.size w w' := by
  have HL : Hid (Sl w ao n cap l) := hl
  have HZ : Hid (ao = none → cap = 0) := hz
  have K1 := tk_le hl
  have HM1 : Hid (smB s1 (vl 4294967296 l) = smB s (vl 4294967296 l)) := by show _ = _; rw [← e1, smB_sg]
  have HM2 : Hid (smV s1 (vl 4294967296 l) = smV s (vl 4294967296 l)) := by show _ = _; rw [← e1, smV_sg]
  have S1 : Hid (sgB s (vl 4294967296 l) = s1) := e1
  clear hl hz e1
  go_enter Tryd.func31, Tryd.ntmps31
  go_wp2_with fail
  generalize hW : (World.alloc _ _) = W
  obtain ⟨x1, hb0, hz0⟩ := boxes1 w (.bool s) (.slice ao n cap) 24 hW
  have X1 : Hid (Box W w.heap.size (.bool s) (.slice ao n cap)) := x1
  have HB : Hid (Below w.heap.size w W) := hb0
  have HS : Hid (w.heap.size + 1 ≤ W.heap.size) := Nat.le_of_eq hz0.symm
  clear hW x1 hb0 hz0
  refine (rform_any s ao n cap l _ (HL.out.below HB.out (Nat.le_refl _)) HZ.out (by omega)).mono ?_
  rintro e V1 ⟨a1, c1, rfl, ho, hnc, hb⟩
  rw [S1.out]
  have O1 : Hid (Own V1 (w.heap.size + 1) a1 (tk l) c1 (l.take (tk l))) := ho.mono (by have := HS.out; omega)
  have X1 : Hid (Box V1 w.heap.size (.bool s) (.slice ao n cap)) := X1.out.below hb X1.out.lt
  have HB : Hid (Below w.heap.size w V1) := HB.out.trans (hb.mono HB.out.size)
  clear ho hnc hb HS
  have z0 := X1.out.z0
  have z1 := X1.out.z1
  have f0 := X1.out.f0
  have f1 := X1.out.f1
  obtain ⟨V2, hV⟩ : ∃ V2, ((V1.setCell ⟨w.heap.size, 0, none⟩ (.bool s1)).setCell ⟨w.heap.size, 1, none⟩ (.slice a1 (tk l) c1)) = V2 := ⟨_, rfl⟩
  obtain ⟨xt, d3, d4, d5, d6⟩ := set_own hV X1.out
  have O2 : Hid (Own V2 (w.heap.size + 1) a1 (tk l) c1 (l.take (tk l))) := d5 _ _ _ _ _ O1.out (by omega)
  have X2 : Hid (Box V2 w.heap.size (.bool s1) (.slice a1 (tk l) c1)) := xt
  have HB : Hid (Below w.heap.size w V2) := d4 _ _ HB.out (Nat.le_refl _)
  clear xt d3 d4 d5 d6 O1
  have y0 := X2.out.z0
  have y1 := X2.out.z1
  by_cases h2 : 2 < tk l
  · have hbig := tk_big HL.out.wd h2
    have HE : Hid (smB s (vl 4294967296 l) = false) := by
      show _ = _
      unfold smB
      rw [decide_eq_false_iff_not]
      cases s <;> simp <;> omega
    clear hbig
    go_wp2_with fail
    refine bodyPost_ret (v := .tuple #[.int .i64 0, .bool false]) (by simp [results, Tryd.results31, go_sem]) rfl ⟨?_, HB.out⟩
    simp [smV, HE.out]
  · go_wp2_with fail
    go_loopw [4, 5] (fun uv iv wr => ∃ j u : Nat, j ≤ tk l ∧ iv = .int .i64 ((j : Int) - 1) ∧ uv = .int .u64 u ∧ u < 4294967296 ^ (tk l - j) ∧ Hid (u = vl 4294967296 ((l.take (tk l)).drop j)) ∧ wr = V2) (fun _ iv _ => (intOf iv + 1).toNat)
    case atStart => exact ⟨tk l, 0, Nat.le_refl _, by go_num, rfl, Nat.pow_pos (by omega), by show _ = _; rw [List.drop_of_length_le (by rw [O2.out.sl.len]; exact Nat.le_refl _)]; rfl, rfl⟩
    case round =>
      obtain ⟨j, u, hj, rfl, rfl, hu, HV, rfl⟩ := hrel
      by_cases hlt : 0 < j
      · obtain ⟨i, rfl⟩ : ∃ i, j = i + 1 := ⟨j - 1, by omega⟩
        obtain ⟨bl, ol, rfl, hbl, hcl⟩ := O2.out.sl.at_ (by omega)
        obtain ⟨x, hx⟩ : ∃ x, x = (l.take (tk l)).getD i 0 := ⟨_, rfl⟩
        have hcx := hcl i (by omega)
        rw [← hx] at hcx
        have hxb : x ≤ 4294967295 := by have := O2.out.sl.wd.at (by omega) i; omega
        have HXX : Hid (x = (l.take (tk l)).getD i 0) := hx
        have hub : u ≤ 4294967295 := by
          have := Nat.pow_le_pow_right (n := 4294967296) (by omega) (show tk l - (i + 1) ≤ 1 by omega)
          omega
        have hor := or_words u x (by omega) (by omega)
        have hu2 : u * 4294967296 + x < 4294967296 ^ (tk l - i) := by
          rw [show tk l - i = (tk l - (i + 1)) + 1 from by omega, Nat.pow_succ]
          have := Nat.mul_le_mul_right 4294967296 (show u + 1 ≤ _ from hu)
          omega
        have HU2 : Hid (_ < _) := hu2
        clear hx hcl hu hu2
        go_wp2_with fail
        go_roundw
        case rel => exact ⟨i, u * 4294967296 + x, by omega, by go_num, by congr 1, HU2.out, by show _ = _; rw [vl_drop_prev _ _ (by rw [O2.out.sl.len]; omega), ← HV.out, ← HXX.out]; omega, trivial⟩
        case measure => simp [intOf]
      · obtain rfl : j = 0 := by omega
        have hv : vl 4294967296 l = u := by rw [HV.out, List.drop_zero, trim_val]
        have hN : u ≤ 18446744073709551615 := by
          have := Nat.pow_le_pow_right (n := 4294967296) (by omega) (show tk l - 0 ≤ 2 by omega)
          have h4 : 4294967296 ^ 2 = 18446744073709551616 := by decide
          omega
        clear HV hu
        have HV : Hid (vl 4294967296 l = u) := hv
        clear hv
        obtain ⟨N, rfl⟩ : ∃ N, N = u := ⟨_, rfl⟩
        cases s1
        · by_cases hf : N ≤ 9223372036854775807
          · have HE : Hid (smB false N = true) := by show _ = _; unfold smB; rw [decide_eq_true_iff]; exact hf
            have HE2 : Hid (smV false N = (N : Int)) := by show _ = _; unfold smV; rw [HE.out]; rfl
            have hfi : (N : Int) < 9223372036854775808 := by omega
            have hlt3 : decide ((N : Int) < 9223372036854775808) = true := decide_eq_true hfi
            clear hf hN
            go_wp2_with fail
            refine bodyPost_ret (v := .tuple #[.int .i64 ((N : Int)), .bool true]) (by simp [results, Tryd.results31, go_sem]) rfl ⟨?_, HB.out⟩
            rw [← HM1.out, ← HM2.out, HV.out, HE.out, HE2.out]
          · have HE : Hid (smB false N = false) := by show _ = _; unfold smB; rw [decide_eq_false_iff_not]; exact hf
            have HE2 : Hid (smV false N = 0) := by show _ = _; unfold smV; rw [HE.out]; rfl
            have hfi : ¬ (N : Int) < 9223372036854775808 := by omega
            have hlt3 : decide ((N : Int) < 9223372036854775808) = false := decide_eq_false hfi
            clear hf hN
            go_wp2_with fail
            refine bodyPost_ret (v := .tuple #[.int .i64 0, .bool false]) (by simp [results, Tryd.results31, go_sem]) rfl ⟨?_, HB.out⟩
            rw [← HM1.out, ← HM2.out, HV.out, HE.out, HE2.out]
        · by_cases hf : N ≤ 9223372036854775808
          · have HE : Hid (smB true N = true) := by show _ = _; unfold smB; rw [decide_eq_true_iff]; exact hf
            have HE2 : Hid (smV true N = -(N : Int)) := by show _ = _; unfold smV; rw [HE.out]; rfl
            have hwr : IntKind.i64.wrap (IntKind.u64.wrap (-(N : Int))) = -(N : Int) := by rw [wrap64]; simp [IntKind.wrap, IntKind.bits, IntKind.signed]; omega
            go_wp2_with fail
            refine bodyPost_ret (v := .tuple #[.int .i64 (-(N : Int)), .bool true]) (by simp [results, Tryd.results31, go_sem]) rfl ⟨?_, HB.out⟩
            rw [← HM1.out, ← HM2.out, HV.out, HE.out, HE2.out]
          · have HE : Hid (smB true N = false) := by show _ = _; unfold smB; rw [decide_eq_false_iff_not]; exact hf
            have HE2 : Hid (smV true N = 0) := by show _ = _; unfold smV; rw [HE.out]; rfl
            go_wp2_with fail
            refine bodyPost_ret (v := .tuple #[.int .i64 0, .bool false]) (by simp [results, Tryd.results31, go_sem]) rfl ⟨?_, HB.out⟩
            rw [← HM1.out, ← HM2.out, HV.out, HE.out, HE2.out]
theorem rsmall_any (s : Bool) (ao : Option Addr) (n cap : Nat) (l : List Nat) (w : World) (hl : Sl w ao n cap l) (hz : ao = none → cap = 0) (hn : n ≤ 1000) :
    Calls Tryd.prog 31 #[.agg #[.bool s, .slice ao n cap]] w fun e w' => e = .returned (.tuple #[.int .i64 (smV s (vl 4294967296 l)), .bool (smB s (vl 4294967296 l))]) ∧ Below w.heap.size w w' := rsmall_at s ao n cap l w hl hz hn _ rfl
end Go.Proofs.YtimjafgaadafdaaDoor
