/-
  The contract of the document's own Quo at every argument.
-/
import Derived.Test.YtfkkhabpnnealaaDoorRefG
import Derived.Test.YtfkkhabpnnealaaDoorDivC
namespace Go.Proofs.YtfkkhabpnnealaaDoor
open Go.RowKit
attribute [local go_sem ↓] Go.wp_at_zero Go.wp_at_succ
open Go.Sort (Holds putRow holds_putRow putRow_self putRow_set cell?_putRow_other)
theorem below_set2 {B : Nat} {w V : World} (h : Below B w V) {b : Nat} (hb : B ≤ b) (u v : Value) : Below B w ((V.setCell ⟨b, 0, none⟩ u).setCell ⟨b, 1, none⟩ v) := (h.setCell (p := ⟨b, 0, none⟩) hb u).setCell (p := ⟨b, 1, none⟩) hb v
theorem QuoP.at {w w' : World} {s t s1 s2 q1 q2 : Bool} {N M : Nat} {v1 v2 : Value} (h1 : bigN N = false) (h2 : bigN M = false) (h0 : M ≠ 0) (e1 : sgB s N = s1) (e2 : sgB t M = s2) (hq : q1 = sgB (!(s1 == s2)) (N / M)) (hr : q2 = sgB s1 (N % M))
    (i1 : IntR w' w.heap.size v1 q1 (N / M)) (i2 : IntR w' w.heap.size v2 q2 (N % M)) (hb : Below w.heap.size w w') : QuoP w w' (.returned (.tuple #[v1, v2, .int .i64 0])) s N t M := by
  have hQ : quoQ N M = N / M := by simp [quoQ, h1, h2, h0]
  have hR : quoR N M = N % M := by simp [quoR, h1, h2, h0]
  have g1 : sgB (s != t) (N / M) = q1 := by
    rw [hq]
    by_cases hz : N / M = 0
    · rw [hz, sgB_zero, sgB_zero]
    · have hN : N ≠ 0 := fun h => hz (by rw [h]; simp)
      rw [← e1, ← e2, sgB_pos hN, sgB_pos h0]
      rfl
  have g2 : sgB s (N % M) = q2 := by
    rw [hr]
    by_cases hz : N % M = 0
    · rw [hz, sgB_zero, sgB_zero]
    · have hN : N ≠ 0 := fun h => hz (by rw [h]; simp)
      rw [← e1, sgB_pos hN]
  refine ⟨⟨v1, v2, ?_, ?_, ?_⟩, hb⟩
  · simp [quoE, h1, h2, h0]
  · rw [hQ, g1]; exact i1
  · rw [hR, g2]; exact i2
theorem or_bit (y t : Nat) (hy : y < 4294967296) (ht : t < 32) (hz : y % 2 ^ (t + 1) = 0) : bits BinOp.or IntKind.u32 (y : Int) (2 ^ t % 4294967296) = ((y + 2 ^ t : Nat) : Int) ∧ y + 2 ^ t < 4294967296 := by
  have h2 : 2 ^ t < 4294967296 := by have := Nat.pow_lt_pow_right (a := 2) (by omega) ht; simpa using this
  have e : (2 : Int) ^ t % 4294967296 = ((2 ^ t : Nat) : Int) := by
    have : ((2 ^ t % 4294967296 : Nat) : Int) = (2 : Int) ^ t % 4294967296 := by rw [Int.natCast_emod]; simp
    rw [← this, Nat.mod_eq_of_lt h2]
  have hj := nat_join (t + 1) y (2 ^ t) hz (Nat.pow_lt_pow_right (by omega) (by omega))
  have h := u32_or_nat y (2 ^ t) hy h2
  have hl := Nat.or_lt_two_pow (n := 32) (x := y) (y := 2 ^ t) (by simpa using hy) (by simpa using h2)
  rw [hj] at h hl
  rw [e]
  exact ⟨h, by simpa using hl⟩
theorem set_bit (d : List Nat) (i y : Nat) (hy : y = d.getD (i / 32) 0) (hi : i / 32 < d.length) : vl 4294967296 (d.set (i / 32) (y + 2 ^ (i % 32))) = vl 4294967296 d + 2 ^ i := by
  have h := vl_set d (i / 32) (y + 2 ^ (i % 32)) hi
  rw [← hy, Nat.mul_add] at h
  have e : 4294967296 ^ (i / 32) * 2 ^ (i % 32) = 2 ^ i := by
    rw [word_pow, ← Nat.pow_add, show 32 * (i / 32) + i % 32 = i from by omega]
  rw [e] at h
  omega
theorem wd_set {d : List Nat} {k x : Nat} (h : Wd 4294967296 d) (hx : x < 4294967296) : Wd 4294967296 (d.set k x) := fun z hz => by
  rcases List.mem_or_eq_of_mem_set hz with h1 | h1
  · exact h z h1
  · rw [h1]; exact hx
theorem bit_and (x t : Nat) (hx : x < 4294967296) : bits BinOp.and IntKind.u32 ((x : Int) / 2 ^ t) 1 = ((x / 2 ^ t % 2 : Nat) : Int) := by
  have e : (x : Int) / 2 ^ t = ((x / 2 ^ t : Nat) : Int) := by rw [Int.natCast_ediv]; simp
  have h := u32_and_nat (x / 2 ^ t) 1 (Nat.lt_of_le_of_lt (Nat.div_le_self _ _) hx) (by omega)
  rw [e, ← nat_mask1]
  exact h
theorem bit_eq {l : List Nat} (hw : Wd 4294967296 l) (i x : Nat) (hx : x = l.getD (i / 32) 0) : x / 2 ^ (i % 32) % 2 = vl 4294967296 l / 2 ^ i % 2 := by
  have h := word_bit (vl 4294967296 l) (i / 32) (i % 32) x (Nat.mod_lt _ (by omega)) (by rw [hx, getD_vl l _ hw])
  rw [h, show 32 * (i / 32) + i % 32 = i from by omega]
theorem lit_sl (w : World) (x : Nat) (hx : x < 4294967296) : Sl (w.alloc (.cells #[.int .u32 (x : Int)] 73)) (some ⟨w.heap.size, 0, none⟩) 1 1 [x] := by
  refine ⟨rfl, Nat.le_refl _, by omega, by simpa [Wd] using hx, fun _ => ⟨w.heap.size, 0, rfl, by simp, fun j hj => ?_⟩⟩
  obtain rfl : j = 0 := by omega
  rw [World.cell?_alloc_new]
  rfl
set_option maxRecDepth 100000 in
set_option maxHeartbeats 2000000 in
theorem rquo_big1 (s t : Bool) (ao : Option Addr) (n cap : Nat) (l : List Nat) (ap : Option Addr) (m capb : Nat) (p : List Nat) (w : World) (hl : Sl w ao n cap l) (hp : Sl w ap m capb p) (hz1 : ao = none → cap = 0) (hz2 : ap = none → capb = 0) (hn : n ≤ 1000) (hb1 : bigN (vl 4294967296 l) = true) :
    Calls Tryd.prog 31 #[.agg #[.bool s, .slice ao n cap], .agg #[.bool t, .slice ap m capb]] w fun e w' => e = .returned (.tuple #[.agg #[.bool false, .slice none 0 0], .agg #[.bool false, .slice none 0 0], .int .i64 2]) ∧ Below w.heap.size w w' := by
  have HL : Hid (Sl w ao n cap l) := hl
  have HP : Hid (Sl w ap m capb p) := hp
  have HZ1 : Hid (ao = none → cap = 0) := hz1
  have HZ2 : Hid (ap = none → capb = 0) := hz2
  have K1 := tk_le hl
  have K2 := tk_le hp
  clear hl hp hz1 hz2
  have B1 : Hid (bigN (vl 4294967296 l) = true) := hb1
  clear hb1
  go_enter Tryd.func31, Tryd.ntmps31
  go_wp2_with fail
  generalize hW : (World.alloc _ _) = W
  obtain ⟨x1, x2, x3, x4, hbW, hzW⟩ := boxes4 w (.bool s) (.slice ao n cap) (.bool t) (.slice ap m capb) (.bool false) (.slice none 0 0) (.bool false) (.slice none 0 0) 24 24 24 24 0 hW
  clear hW
  have X1 : Hid (Box W (w.heap.size) (.bool s) (.slice ao n cap)) := x1
  have X2 : Hid (Box W (w.heap.size + 1) (.bool t) (.slice ap m capb)) := x2
  have X3 : Hid (Box W (w.heap.size + 1 + 1) (.bool false) (.slice none 0 0)) := x3
  have X4 : Hid (Box W (w.heap.size + 1 + 1 + 1) (.bool false) (.slice none 0 0)) := x4
  have HB : Hid (Below w.heap.size w W) := hbW
  have HS : Hid (w.heap.size + 1 + 1 + 1 + 1 ≤ W.heap.size) := Nat.le_of_eq hzW.symm
  clear hbW hzW x1 x2 x3 x4
  refine (rlarge_any s ao n cap l _ (HL.out.below HB.out (Nat.le_refl _)) HZ1.out (by omega)).mono ?_
  rintro e V1 ⟨rfl, hb⟩
  rw [B1.out]
  have X1 : Hid (Box V1 (w.heap.size) (.bool s) (.slice ao n cap)) := X1.out.below hb X1.out.lt
  have X2 : Hid (Box V1 (w.heap.size + 1) (.bool t) (.slice ap m capb)) := X2.out.below hb X2.out.lt
  have X3 : Hid (Box V1 (w.heap.size + 1 + 1) (.bool false) (.slice none 0 0)) := X3.out.below hb X3.out.lt
  have X4 : Hid (Box V1 (w.heap.size + 1 + 1 + 1) (.bool false) (.slice none 0 0)) := X4.out.below hb X4.out.lt
  have HB : Hid (Below w.heap.size w V1) := HB.out.trans (hb.mono HB.out.size)
  have HS : Hid (w.heap.size + 1 + 1 + 1 + 1 ≤ V1.heap.size) := Nat.le_trans HS.out hb.size
  clear hb
  have x1z0 := X1.out.z0
  have x1z1 := X1.out.z1
  have x1f0 := X1.out.f0
  have x1f1 := X1.out.f1
  have x2z0 := X2.out.z0
  have x2z1 := X2.out.z1
  have x2f0 := X2.out.f0
  have x2f1 := X2.out.f1
  have x3z0 := X3.out.z0
  have x3z1 := X3.out.z1
  have x3f0 := X3.out.f0
  have x3f1 := X3.out.f1
  have x4z0 := X4.out.z0
  have x4z1 := X4.out.z1
  have x4f0 := X4.out.f0
  have x4f1 := X4.out.f1
  go_wp2_with fail
  refine bodyPost_ret (v := .tuple #[.agg #[.bool false, .slice none 0 0], .agg #[.bool false, .slice none 0 0], .int .i64 2]) (by simp [results, Tryd.results31, go_sem, x3z0, x3z1, x4z0, x4z1]) rfl ⟨rfl, ?_⟩
  exact below_set2 (below_set2 HB.out (by omega) _ _) (by omega) _ _
set_option maxRecDepth 100000 in
set_option maxHeartbeats 2000000 in
theorem rquo_big2 (s t : Bool) (ao : Option Addr) (n cap : Nat) (l : List Nat) (ap : Option Addr) (m capb : Nat) (p : List Nat) (w : World) (hl : Sl w ao n cap l) (hp : Sl w ap m capb p) (hz1 : ao = none → cap = 0) (hz2 : ap = none → capb = 0) (hn : n ≤ 1000) (hm : m ≤ 1000) (hb1 : bigN (vl 4294967296 l) = false) (hb2 : bigN (vl 4294967296 p) = true) :
    Calls Tryd.prog 31 #[.agg #[.bool s, .slice ao n cap], .agg #[.bool t, .slice ap m capb]] w fun e w' => e = .returned (.tuple #[.agg #[.bool false, .slice none 0 0], .agg #[.bool false, .slice none 0 0], .int .i64 2]) ∧ Below w.heap.size w w' := by
  have HL : Hid (Sl w ao n cap l) := hl
  have HP : Hid (Sl w ap m capb p) := hp
  have HZ1 : Hid (ao = none → cap = 0) := hz1
  have HZ2 : Hid (ap = none → capb = 0) := hz2
  have K1 := tk_le hl
  have K2 := tk_le hp
  clear hl hp hz1 hz2
  have B1 : Hid (bigN (vl 4294967296 l) = false) := hb1
  have B2 : Hid (bigN (vl 4294967296 p) = true) := hb2
  clear hb1 hb2
  go_enter Tryd.func31, Tryd.ntmps31
  go_wp2_with fail
  generalize hW : (World.alloc _ _) = W
  obtain ⟨x1, x2, x3, x4, hbW, hzW⟩ := boxes4 w (.bool s) (.slice ao n cap) (.bool t) (.slice ap m capb) (.bool false) (.slice none 0 0) (.bool false) (.slice none 0 0) 24 24 24 24 0 hW
  clear hW
  have X1 : Hid (Box W (w.heap.size) (.bool s) (.slice ao n cap)) := x1
  have X2 : Hid (Box W (w.heap.size + 1) (.bool t) (.slice ap m capb)) := x2
  have X3 : Hid (Box W (w.heap.size + 1 + 1) (.bool false) (.slice none 0 0)) := x3
  have X4 : Hid (Box W (w.heap.size + 1 + 1 + 1) (.bool false) (.slice none 0 0)) := x4
  have HB : Hid (Below w.heap.size w W) := hbW
  have HS : Hid (w.heap.size + 1 + 1 + 1 + 1 ≤ W.heap.size) := Nat.le_of_eq hzW.symm
  clear hbW hzW x1 x2 x3 x4
  refine (rlarge_any s ao n cap l _ (HL.out.below HB.out (Nat.le_refl _)) HZ1.out (by omega)).mono ?_
  rintro e V1 ⟨rfl, hb⟩
  rw [B1.out]
  have X1 : Hid (Box V1 (w.heap.size) (.bool s) (.slice ao n cap)) := X1.out.below hb X1.out.lt
  have X2 : Hid (Box V1 (w.heap.size + 1) (.bool t) (.slice ap m capb)) := X2.out.below hb X2.out.lt
  have X3 : Hid (Box V1 (w.heap.size + 1 + 1) (.bool false) (.slice none 0 0)) := X3.out.below hb X3.out.lt
  have X4 : Hid (Box V1 (w.heap.size + 1 + 1 + 1) (.bool false) (.slice none 0 0)) := X4.out.below hb X4.out.lt
  have HB : Hid (Below w.heap.size w V1) := HB.out.trans (hb.mono HB.out.size)
  have HS : Hid (w.heap.size + 1 + 1 + 1 + 1 ≤ V1.heap.size) := Nat.le_trans HS.out hb.size
  clear hb
  have x1z0 := X1.out.z0
  have x1z1 := X1.out.z1
  have x1f0 := X1.out.f0
  have x1f1 := X1.out.f1
  have x2z0 := X2.out.z0
  have x2z1 := X2.out.z1
  have x2f0 := X2.out.f0
  have x2f1 := X2.out.f1
  have x3z0 := X3.out.z0
  have x3z1 := X3.out.z1
  have x3f0 := X3.out.f0
  have x3f1 := X3.out.f1
  have x4z0 := X4.out.z0
  have x4z1 := X4.out.z1
  have x4f0 := X4.out.f0
  have x4f1 := X4.out.f1
  go_wp2_with fail
  refine (rlarge_any t ap m capb p _ (HP.out.below HB.out (Nat.le_refl _)) HZ2.out (by omega)).mono ?_
  rintro e V2 ⟨rfl, hb⟩
  rw [B2.out]
  clear x1z0 x1z1 x1f0 x1f1 x2z0 x2z1 x2f0 x2f1 x3z0 x3z1 x3f0 x3f1 x4z0 x4z1 x4f0 x4f1
  have X1 : Hid (Box V2 (w.heap.size) (.bool s) (.slice ao n cap)) := X1.out.below hb X1.out.lt
  have X2 : Hid (Box V2 (w.heap.size + 1) (.bool t) (.slice ap m capb)) := X2.out.below hb X2.out.lt
  have X3 : Hid (Box V2 (w.heap.size + 1 + 1) (.bool false) (.slice none 0 0)) := X3.out.below hb X3.out.lt
  have X4 : Hid (Box V2 (w.heap.size + 1 + 1 + 1) (.bool false) (.slice none 0 0)) := X4.out.below hb X4.out.lt
  have HB : Hid (Below w.heap.size w V2) := HB.out.trans (hb.mono HB.out.size)
  have HS : Hid (w.heap.size + 1 + 1 + 1 + 1 ≤ V2.heap.size) := Nat.le_trans HS.out hb.size
  clear hb
  have x1z0 := X1.out.z0
  have x1z1 := X1.out.z1
  have x1f0 := X1.out.f0
  have x1f1 := X1.out.f1
  have x2z0 := X2.out.z0
  have x2z1 := X2.out.z1
  have x2f0 := X2.out.f0
  have x2f1 := X2.out.f1
  have x3z0 := X3.out.z0
  have x3z1 := X3.out.z1
  have x3f0 := X3.out.f0
  have x3f1 := X3.out.f1
  have x4z0 := X4.out.z0
  have x4z1 := X4.out.z1
  have x4f0 := X4.out.f0
  have x4f1 := X4.out.f1
  go_wp2_with fail
  refine bodyPost_ret (v := .tuple #[.agg #[.bool false, .slice none 0 0], .agg #[.bool false, .slice none 0 0], .int .i64 2]) (by simp [results, Tryd.results31, go_sem, x3z0, x3z1, x4z0, x4z1]) rfl ⟨rfl, ?_⟩
  exact below_set2 (below_set2 HB.out (by omega) _ _) (by omega) _ _
set_option maxRecDepth 100000 in
set_option maxHeartbeats 2000000 in
theorem rquo_zero (s t : Bool) (ao : Option Addr) (n cap : Nat) (l : List Nat) (ap : Option Addr) (m capb : Nat) (p : List Nat) (w : World) (hl : Sl w ao n cap l) (hp : Sl w ap m capb p) (hz1 : ao = none → cap = 0) (hz2 : ap = none → capb = 0) (hn : n ≤ 1000) (hm : m ≤ 1000) (hb1 : bigN (vl 4294967296 l) = false) (hb2 : bigN (vl 4294967296 p) = false) (s1 s2 : Bool) (e1 : sgB s (vl 4294967296 l) = s1) (e2 : sgB t (vl 4294967296 p) = s2) (h0 : tk p = 0) :
    Calls Tryd.prog 31 #[.agg #[.bool s, .slice ao n cap], .agg #[.bool t, .slice ap m capb]] w fun e w' => e = .returned (.tuple #[.agg #[.bool false, .slice none 0 0], .agg #[.bool false, .slice none 0 0], .int .i64 5]) ∧ Below w.heap.size w w' := by
  have HL : Hid (Sl w ao n cap l) := hl
  have HP : Hid (Sl w ap m capb p) := hp
  have HZ1 : Hid (ao = none → cap = 0) := hz1
  have HZ2 : Hid (ap = none → capb = 0) := hz2
  have K1 := tk_le hl
  have K2 := tk_le hp
  clear hl hp hz1 hz2
  have B1 : Hid (bigN (vl 4294967296 l) = false) := hb1
  have B2 : Hid (bigN (vl 4294967296 p) = false) := hb2
  have S1 : Hid (sgB s (vl 4294967296 l) = s1) := e1
  have S2 : Hid (sgB t (vl 4294967296 p) = s2) := e2
  clear hb1 hb2 e1 e2
  go_enter Tryd.func31, Tryd.ntmps31
  go_wp2_with fail
  generalize hW : (World.alloc _ _) = W
  obtain ⟨x1, x2, x3, x4, hbW, hzW⟩ := boxes4 w (.bool s) (.slice ao n cap) (.bool t) (.slice ap m capb) (.bool false) (.slice none 0 0) (.bool false) (.slice none 0 0) 24 24 24 24 0 hW
  clear hW
  have X1 : Hid (Box W (w.heap.size) (.bool s) (.slice ao n cap)) := x1
  have X2 : Hid (Box W (w.heap.size + 1) (.bool t) (.slice ap m capb)) := x2
  have X3 : Hid (Box W (w.heap.size + 1 + 1) (.bool false) (.slice none 0 0)) := x3
  have X4 : Hid (Box W (w.heap.size + 1 + 1 + 1) (.bool false) (.slice none 0 0)) := x4
  have HB : Hid (Below w.heap.size w W) := hbW
  have HS : Hid (w.heap.size + 1 + 1 + 1 + 1 ≤ W.heap.size) := Nat.le_of_eq hzW.symm
  clear hbW hzW x1 x2 x3 x4
  refine (rlarge_any s ao n cap l _ (HL.out.below HB.out (Nat.le_refl _)) HZ1.out (by omega)).mono ?_
  rintro e V1 ⟨rfl, hb⟩
  rw [B1.out]
  have X1 : Hid (Box V1 (w.heap.size) (.bool s) (.slice ao n cap)) := X1.out.below hb X1.out.lt
  have X2 : Hid (Box V1 (w.heap.size + 1) (.bool t) (.slice ap m capb)) := X2.out.below hb X2.out.lt
  have X3 : Hid (Box V1 (w.heap.size + 1 + 1) (.bool false) (.slice none 0 0)) := X3.out.below hb X3.out.lt
  have X4 : Hid (Box V1 (w.heap.size + 1 + 1 + 1) (.bool false) (.slice none 0 0)) := X4.out.below hb X4.out.lt
  have HB : Hid (Below w.heap.size w V1) := HB.out.trans (hb.mono HB.out.size)
  have HS : Hid (w.heap.size + 1 + 1 + 1 + 1 ≤ V1.heap.size) := Nat.le_trans HS.out hb.size
  clear hb
  have x2z0 := X2.out.z0
  have x2z1 := X2.out.z1
  have x2f0 := X2.out.f0
  have x2f1 := X2.out.f1
  go_wp2_with fail
  refine (rlarge_any t ap m capb p _ (HP.out.below HB.out (Nat.le_refl _)) HZ2.out (by omega)).mono ?_
  rintro e V2 ⟨rfl, hb⟩
  rw [B2.out]
  clear x2z0 x2z1 x2f0 x2f1
  have X1 : Hid (Box V2 (w.heap.size) (.bool s) (.slice ao n cap)) := X1.out.below hb X1.out.lt
  have X2 : Hid (Box V2 (w.heap.size + 1) (.bool t) (.slice ap m capb)) := X2.out.below hb X2.out.lt
  have X3 : Hid (Box V2 (w.heap.size + 1 + 1) (.bool false) (.slice none 0 0)) := X3.out.below hb X3.out.lt
  have X4 : Hid (Box V2 (w.heap.size + 1 + 1 + 1) (.bool false) (.slice none 0 0)) := X4.out.below hb X4.out.lt
  have HB : Hid (Below w.heap.size w V2) := HB.out.trans (hb.mono HB.out.size)
  have HS : Hid (w.heap.size + 1 + 1 + 1 + 1 ≤ V2.heap.size) := Nat.le_trans HS.out hb.size
  clear hb
  have x1z0 := X1.out.z0
  have x1z1 := X1.out.z1
  have x1f0 := X1.out.f0
  have x1f1 := X1.out.f1
  go_wp2_with fail
  refine (rform_any s ao n cap l _ (HL.out.below HB.out (Nat.le_refl _)) HZ1.out (by omega)).mono ?_
  rintro e V3 ⟨a1, c1, rfl, ho, hnc, hb⟩
  rw [S1.out]
  have O1 : Hid (Own V3 (w.heap.size + 1 + 1 + 1 + 1) a1 (tk l) c1 (l.take (tk l))) := ho.mono (by have := HS.out; omega)
  have N1 : Hid (a1 = none → c1 = 0) := hnc
  clear ho hnc
  clear x1z0 x1z1 x1f0 x1f1
  have X1 : Hid (Box V3 (w.heap.size) (.bool s) (.slice ao n cap)) := X1.out.below hb X1.out.lt
  have X2 : Hid (Box V3 (w.heap.size + 1) (.bool t) (.slice ap m capb)) := X2.out.below hb X2.out.lt
  have X3 : Hid (Box V3 (w.heap.size + 1 + 1) (.bool false) (.slice none 0 0)) := X3.out.below hb X3.out.lt
  have X4 : Hid (Box V3 (w.heap.size + 1 + 1 + 1) (.bool false) (.slice none 0 0)) := X4.out.below hb X4.out.lt
  have HB : Hid (Below w.heap.size w V3) := HB.out.trans (hb.mono HB.out.size)
  have HS : Hid (w.heap.size + 1 + 1 + 1 + 1 ≤ V3.heap.size) := Nat.le_trans HS.out hb.size
  clear hb
  have x1z0 := X1.out.z0
  have x1z1 := X1.out.z1
  have x1f0 := X1.out.f0
  have x1f1 := X1.out.f1
  have y20 : ((V3.setCell ⟨w.heap.size, 0, none⟩ (.bool s1)).setCell ⟨w.heap.size, 1, none⟩ (.slice a1 (tk l) c1)).cell? ⟨w.heap.size + 1, 0, none⟩ = some (.bool t) := (set2_other (by omega)).trans X2.out.z0
  have y21 : ((V3.setCell ⟨w.heap.size, 0, none⟩ (.bool s1)).setCell ⟨w.heap.size, 1, none⟩ (.slice a1 (tk l) c1)).cell? ⟨w.heap.size + 1, 1, none⟩ = some (.slice ap m capb) := (set2_other (by omega)).trans X2.out.z1
  have y30 : ((V3.setCell ⟨w.heap.size, 0, none⟩ (.bool s1)).setCell ⟨w.heap.size, 1, none⟩ (.slice a1 (tk l) c1)).cell? ⟨w.heap.size + 1 + 1, 0, none⟩ = some (.bool false) := (set2_other (by omega)).trans X3.out.z0
  have y31 : ((V3.setCell ⟨w.heap.size, 0, none⟩ (.bool s1)).setCell ⟨w.heap.size, 1, none⟩ (.slice a1 (tk l) c1)).cell? ⟨w.heap.size + 1 + 1, 1, none⟩ = some (.slice none 0 0) := (set2_other (by omega)).trans X3.out.z1
  have y40 : ((V3.setCell ⟨w.heap.size, 0, none⟩ (.bool s1)).setCell ⟨w.heap.size, 1, none⟩ (.slice a1 (tk l) c1)).cell? ⟨w.heap.size + 1 + 1 + 1, 0, none⟩ = some (.bool false) := (set2_other (by omega)).trans X4.out.z0
  have y41 : ((V3.setCell ⟨w.heap.size, 0, none⟩ (.bool s1)).setCell ⟨w.heap.size, 1, none⟩ (.slice a1 (tk l) c1)).cell? ⟨w.heap.size + 1 + 1 + 1, 1, none⟩ = some (.slice none 0 0) := (set2_other (by omega)).trans X4.out.z1
  go_wp2_with fail
  generalize hV : ((V3.setCell ⟨w.heap.size, 0, none⟩ (.bool s1)).setCell ⟨w.heap.size, 1, none⟩ (.slice a1 (tk l) c1)) = V4 at *
  clear x1z0 x1z1 x1f0 x1f1 y20 y21 y30 y31 y40 y41
  obtain ⟨xt, d3, d4, d5, d6⟩ := set_own hV X1.out
  clear hV
  have X2 : Hid (Box V4 (w.heap.size + 1) (.bool t) (.slice ap m capb)) := d3 _ _ _ (by omega) X2.out
  have X3 : Hid (Box V4 (w.heap.size + 1 + 1) (.bool false) (.slice none 0 0)) := d3 _ _ _ (by omega) X3.out
  have X4 : Hid (Box V4 (w.heap.size + 1 + 1 + 1) (.bool false) (.slice none 0 0)) := d3 _ _ _ (by omega) X4.out
  have X1 : Hid (Box V4 (w.heap.size) (.bool s1) (.slice a1 (tk l) c1)) := xt
  have O1 : Hid (Own V4 (w.heap.size + 1 + 1 + 1 + 1) a1 (tk l) c1 (l.take (tk l))) := d5 _ _ _ _ _ O1.out (by omega)
  have HB : Hid (Below w.heap.size w V4) := d4 _ _ HB.out (by omega)
  have HS : Hid (w.heap.size + 1 + 1 + 1 + 1 ≤ V4.heap.size) := (by have := HS.out; show _ ≤ _; omega)
  clear xt d3 d4 d5 d6
  refine (rform_any t ap m capb p _ (HP.out.below HB.out (Nat.le_refl _)) HZ2.out (by omega)).mono ?_
  rintro e V5 ⟨a2, c2, rfl, ho, hnc, hb⟩
  rw [S2.out]
  have O2 : Hid (Own V5 (w.heap.size + 1 + 1 + 1 + 1) a2 (tk p) c2 (p.take (tk p))) := ho.mono (by have := HS.out; omega)
  have N2 : Hid (a2 = none → c2 = 0) := hnc
  clear ho hnc
  have X1 : Hid (Box V5 (w.heap.size) (.bool s1) (.slice a1 (tk l) c1)) := X1.out.below hb X1.out.lt
  have X2 : Hid (Box V5 (w.heap.size + 1) (.bool t) (.slice ap m capb)) := X2.out.below hb X2.out.lt
  have X3 : Hid (Box V5 (w.heap.size + 1 + 1) (.bool false) (.slice none 0 0)) := X3.out.below hb X3.out.lt
  have X4 : Hid (Box V5 (w.heap.size + 1 + 1 + 1) (.bool false) (.slice none 0 0)) := X4.out.below hb X4.out.lt
  have O1 : Hid (Own V5 (w.heap.size + 1 + 1 + 1 + 1) a1 (tk l) c1 (l.take (tk l))) := O1.out.below hb (Nat.le_refl _)
  have HB : Hid (Below w.heap.size w V5) := HB.out.trans (hb.mono HB.out.size)
  have HS : Hid (w.heap.size + 1 + 1 + 1 + 1 ≤ V5.heap.size) := Nat.le_trans HS.out hb.size
  clear hb
  rw [h0]
  have x1z0 := X1.out.z0
  have x1z1 := X1.out.z1
  have x1f0 := X1.out.f0
  have x1f1 := X1.out.f1
  have x2z0 := X2.out.z0
  have x2z1 := X2.out.z1
  have x2f0 := X2.out.f0
  have x2f1 := X2.out.f1
  have x3z0 := X3.out.z0
  have x3z1 := X3.out.z1
  have x3f0 := X3.out.f0
  have x3f1 := X3.out.f1
  have x4z0 := X4.out.z0
  have x4z1 := X4.out.z1
  have x4f0 := X4.out.f0
  have x4f1 := X4.out.f1
  have y10 : ((V5.setCell ⟨w.heap.size + 1, 0, none⟩ (.bool s2)).setCell ⟨w.heap.size + 1, 1, none⟩ (.slice a2 0 c2)).cell? ⟨w.heap.size, 0, none⟩ = some (.bool s1) := (set2_other (by omega)).trans X1.out.z0
  have y11 : ((V5.setCell ⟨w.heap.size + 1, 0, none⟩ (.bool s2)).setCell ⟨w.heap.size + 1, 1, none⟩ (.slice a2 0 c2)).cell? ⟨w.heap.size, 1, none⟩ = some (.slice a1 (tk l) c1) := (set2_other (by omega)).trans X1.out.z1
  have y30 : ((V5.setCell ⟨w.heap.size + 1, 0, none⟩ (.bool s2)).setCell ⟨w.heap.size + 1, 1, none⟩ (.slice a2 0 c2)).cell? ⟨w.heap.size + 1 + 1, 0, none⟩ = some (.bool false) := (set2_other (by omega)).trans X3.out.z0
  have y31 : ((V5.setCell ⟨w.heap.size + 1, 0, none⟩ (.bool s2)).setCell ⟨w.heap.size + 1, 1, none⟩ (.slice a2 0 c2)).cell? ⟨w.heap.size + 1 + 1, 1, none⟩ = some (.slice none 0 0) := (set2_other (by omega)).trans X3.out.z1
  have y40 : ((V5.setCell ⟨w.heap.size + 1, 0, none⟩ (.bool s2)).setCell ⟨w.heap.size + 1, 1, none⟩ (.slice a2 0 c2)).cell? ⟨w.heap.size + 1 + 1 + 1, 0, none⟩ = some (.bool false) := (set2_other (by omega)).trans X4.out.z0
  have y41 : ((V5.setCell ⟨w.heap.size + 1, 0, none⟩ (.bool s2)).setCell ⟨w.heap.size + 1, 1, none⟩ (.slice a2 0 c2)).cell? ⟨w.heap.size + 1 + 1 + 1, 1, none⟩ = some (.slice none 0 0) := (set2_other (by omega)).trans X4.out.z1
  go_wp2_with fail
  refine bodyPost_ret (v := .tuple #[.agg #[.bool false, .slice none 0 0], .agg #[.bool false, .slice none 0 0], .int .i64 5]) (by simp [results, Tryd.results31, go_sem, x3z0, x3z1, x4z0, x4z1]) rfl ⟨rfl, ?_⟩
  exact below_set2 (below_set2 (below_set2 HB.out (by omega) _ _) (by omega) _ _) (by omega) _ _
set_option maxRecDepth 100000 in
set_option maxHeartbeats 4000000 in
theorem rquo_at (s t : Bool) (ao : Option Addr) (n cap : Nat) (l : List Nat) (ap : Option Addr) (m capb : Nat) (p : List Nat) (w : World) (hl : Sl w ao n cap l) (hp : Sl w ap m capb p) (hz1 : ao = none → cap = 0) (hz2 : ap = none → capb = 0) (hn : n ≤ 1000) (hm : m ≤ 1000) (hb1 : bigN (vl 4294967296 l) = false) (hb2 : bigN (vl 4294967296 p) = false) (s1 s2 : Bool) (e1 : sgB s (vl 4294967296 l) = s1) (e2 : sgB t (vl 4294967296 p) = s2) (h0 : tk p ≠ 0) :
    Calls Tryd.prog 31 #[.agg #[.bool s, .slice ao n cap], .agg #[.bool t, .slice ap m capb]] w fun e w' => QuoP w w' e s (vl 4294967296 l) t (vl 4294967296 p) := by
  have HL : Hid (Sl w ao n cap l) := hl
  have HP : Hid (Sl w ap m capb p) := hp
  have HZ1 : Hid (ao = none → cap = 0) := hz1
  have HZ2 : Hid (ap = none → capb = 0) := hz2
  have K1 := tk_le hl
  have K2 := tk_le hp
  clear hl hp hz1 hz2
  have B1 : Hid (bigN (vl 4294967296 l) = false) := hb1
  have B2 : Hid (bigN (vl 4294967296 p) = false) := hb2
  have S1 : Hid (sgB s (vl 4294967296 l) = s1) := e1
  have S2 : Hid (sgB t (vl 4294967296 p) = s2) := e2
  clear hb1 hb2 e1 e2
  obtain ⟨i0, hi, hz0, hz1, hz2⟩ := info_parts Tryd.info73
  go_enter Tryd.func31, Tryd.ntmps31
  go_wp2_with fail
  generalize hW : (World.alloc _ _) = W
  obtain ⟨x1, x2, x3, x4, hbW, hzW⟩ := boxes4 w (.bool s) (.slice ao n cap) (.bool t) (.slice ap m capb) (.bool false) (.slice none 0 0) (.bool false) (.slice none 0 0) 24 24 24 24 0 hW
  clear hW
  have X1 : Hid (Box W (w.heap.size) (.bool s) (.slice ao n cap)) := x1
  have X2 : Hid (Box W (w.heap.size + 1) (.bool t) (.slice ap m capb)) := x2
  have X3 : Hid (Box W (w.heap.size + 1 + 1) (.bool false) (.slice none 0 0)) := x3
  have X4 : Hid (Box W (w.heap.size + 1 + 1 + 1) (.bool false) (.slice none 0 0)) := x4
  have HB : Hid (Below w.heap.size w W) := hbW
  have HS : Hid (w.heap.size + 1 + 1 + 1 + 1 ≤ W.heap.size) := Nat.le_of_eq hzW.symm
  clear hbW hzW x1 x2 x3 x4
  refine (rlarge_any s ao n cap l _ (HL.out.below HB.out (Nat.le_refl _)) HZ1.out (by omega)).mono ?_
  rintro e V1 ⟨rfl, hb⟩
  rw [B1.out]
  have X1 : Hid (Box V1 (w.heap.size) (.bool s) (.slice ao n cap)) := X1.out.below hb X1.out.lt
  have X2 : Hid (Box V1 (w.heap.size + 1) (.bool t) (.slice ap m capb)) := X2.out.below hb X2.out.lt
  have X3 : Hid (Box V1 (w.heap.size + 1 + 1) (.bool false) (.slice none 0 0)) := X3.out.below hb X3.out.lt
  have X4 : Hid (Box V1 (w.heap.size + 1 + 1 + 1) (.bool false) (.slice none 0 0)) := X4.out.below hb X4.out.lt
  have HB : Hid (Below w.heap.size w V1) := HB.out.trans (hb.mono HB.out.size)
  have HS : Hid (w.heap.size + 1 + 1 + 1 + 1 ≤ V1.heap.size) := Nat.le_trans HS.out hb.size
  clear hb
  have x2z0 := X2.out.z0
  have x2z1 := X2.out.z1
  have x2f0 := X2.out.f0
  have x2f1 := X2.out.f1
  go_wp2_with fail
  refine (rlarge_any t ap m capb p _ (HP.out.below HB.out (Nat.le_refl _)) HZ2.out (by omega)).mono ?_
  rintro e V2 ⟨rfl, hb⟩
  rw [B2.out]
  clear x2z0 x2z1 x2f0 x2f1
  have X1 : Hid (Box V2 (w.heap.size) (.bool s) (.slice ao n cap)) := X1.out.below hb X1.out.lt
  have X2 : Hid (Box V2 (w.heap.size + 1) (.bool t) (.slice ap m capb)) := X2.out.below hb X2.out.lt
  have X3 : Hid (Box V2 (w.heap.size + 1 + 1) (.bool false) (.slice none 0 0)) := X3.out.below hb X3.out.lt
  have X4 : Hid (Box V2 (w.heap.size + 1 + 1 + 1) (.bool false) (.slice none 0 0)) := X4.out.below hb X4.out.lt
  have HB : Hid (Below w.heap.size w V2) := HB.out.trans (hb.mono HB.out.size)
  have HS : Hid (w.heap.size + 1 + 1 + 1 + 1 ≤ V2.heap.size) := Nat.le_trans HS.out hb.size
  clear hb
  have x1z0 := X1.out.z0
  have x1z1 := X1.out.z1
  have x1f0 := X1.out.f0
  have x1f1 := X1.out.f1
  go_wp2_with fail
  refine (rform_any s ao n cap l _ (HL.out.below HB.out (Nat.le_refl _)) HZ1.out (by omega)).mono ?_
  rintro e V3 ⟨a1, c1, rfl, ho, hnc, hb⟩
  rw [S1.out]
  have O1 : Hid (Own V3 (w.heap.size + 1 + 1 + 1 + 1) a1 (tk l) c1 (l.take (tk l))) := ho.mono (by have := HS.out; omega)
  have N1 : Hid (a1 = none → c1 = 0) := hnc
  clear ho hnc
  clear x1z0 x1z1 x1f0 x1f1
  have X1 : Hid (Box V3 (w.heap.size) (.bool s) (.slice ao n cap)) := X1.out.below hb X1.out.lt
  have X2 : Hid (Box V3 (w.heap.size + 1) (.bool t) (.slice ap m capb)) := X2.out.below hb X2.out.lt
  have X3 : Hid (Box V3 (w.heap.size + 1 + 1) (.bool false) (.slice none 0 0)) := X3.out.below hb X3.out.lt
  have X4 : Hid (Box V3 (w.heap.size + 1 + 1 + 1) (.bool false) (.slice none 0 0)) := X4.out.below hb X4.out.lt
  have HB : Hid (Below w.heap.size w V3) := HB.out.trans (hb.mono HB.out.size)
  have HS : Hid (w.heap.size + 1 + 1 + 1 + 1 ≤ V3.heap.size) := Nat.le_trans HS.out hb.size
  clear hb
  have x1z0 := X1.out.z0
  have x1z1 := X1.out.z1
  have x1f0 := X1.out.f0
  have x1f1 := X1.out.f1
  have y20 : ((V3.setCell ⟨w.heap.size, 0, none⟩ (.bool s1)).setCell ⟨w.heap.size, 1, none⟩ (.slice a1 (tk l) c1)).cell? ⟨w.heap.size + 1, 0, none⟩ = some (.bool t) := (set2_other (by omega)).trans X2.out.z0
  have y21 : ((V3.setCell ⟨w.heap.size, 0, none⟩ (.bool s1)).setCell ⟨w.heap.size, 1, none⟩ (.slice a1 (tk l) c1)).cell? ⟨w.heap.size + 1, 1, none⟩ = some (.slice ap m capb) := (set2_other (by omega)).trans X2.out.z1
  have y30 : ((V3.setCell ⟨w.heap.size, 0, none⟩ (.bool s1)).setCell ⟨w.heap.size, 1, none⟩ (.slice a1 (tk l) c1)).cell? ⟨w.heap.size + 1 + 1, 0, none⟩ = some (.bool false) := (set2_other (by omega)).trans X3.out.z0
  have y31 : ((V3.setCell ⟨w.heap.size, 0, none⟩ (.bool s1)).setCell ⟨w.heap.size, 1, none⟩ (.slice a1 (tk l) c1)).cell? ⟨w.heap.size + 1 + 1, 1, none⟩ = some (.slice none 0 0) := (set2_other (by omega)).trans X3.out.z1
  have y40 : ((V3.setCell ⟨w.heap.size, 0, none⟩ (.bool s1)).setCell ⟨w.heap.size, 1, none⟩ (.slice a1 (tk l) c1)).cell? ⟨w.heap.size + 1 + 1 + 1, 0, none⟩ = some (.bool false) := (set2_other (by omega)).trans X4.out.z0
  have y41 : ((V3.setCell ⟨w.heap.size, 0, none⟩ (.bool s1)).setCell ⟨w.heap.size, 1, none⟩ (.slice a1 (tk l) c1)).cell? ⟨w.heap.size + 1 + 1 + 1, 1, none⟩ = some (.slice none 0 0) := (set2_other (by omega)).trans X4.out.z1
  go_wp2_with fail
  generalize hV : ((V3.setCell ⟨w.heap.size, 0, none⟩ (.bool s1)).setCell ⟨w.heap.size, 1, none⟩ (.slice a1 (tk l) c1)) = V4 at *
  clear x1z0 x1z1 x1f0 x1f1 y20 y21 y30 y31 y40 y41
  obtain ⟨xt, d3, d4, d5, d6⟩ := set_own hV X1.out
  clear hV
  have X2 : Hid (Box V4 (w.heap.size + 1) (.bool t) (.slice ap m capb)) := d3 _ _ _ (by omega) X2.out
  have X3 : Hid (Box V4 (w.heap.size + 1 + 1) (.bool false) (.slice none 0 0)) := d3 _ _ _ (by omega) X3.out
  have X4 : Hid (Box V4 (w.heap.size + 1 + 1 + 1) (.bool false) (.slice none 0 0)) := d3 _ _ _ (by omega) X4.out
  have X1 : Hid (Box V4 (w.heap.size) (.bool s1) (.slice a1 (tk l) c1)) := xt
  have O1 : Hid (Own V4 (w.heap.size + 1 + 1 + 1 + 1) a1 (tk l) c1 (l.take (tk l))) := d5 _ _ _ _ _ O1.out (by omega)
  have HB : Hid (Below w.heap.size w V4) := d4 _ _ HB.out (by omega)
  have HS : Hid (w.heap.size + 1 + 1 + 1 + 1 ≤ V4.heap.size) := (by have := HS.out; show _ ≤ _; omega)
  clear xt d3 d4 d5 d6
  refine (rform_any t ap m capb p _ (HP.out.below HB.out (Nat.le_refl _)) HZ2.out (by omega)).mono ?_
  rintro e V5 ⟨a2, c2, rfl, ho, hnc, hb⟩
  rw [S2.out]
  have O2 : Hid (Own V5 (w.heap.size + 1 + 1 + 1 + 1) a2 (tk p) c2 (p.take (tk p))) := ho.mono (by have := HS.out; omega)
  have N2 : Hid (a2 = none → c2 = 0) := hnc
  clear ho hnc
  have X1 : Hid (Box V5 (w.heap.size) (.bool s1) (.slice a1 (tk l) c1)) := X1.out.below hb X1.out.lt
  have X2 : Hid (Box V5 (w.heap.size + 1) (.bool t) (.slice ap m capb)) := X2.out.below hb X2.out.lt
  have X3 : Hid (Box V5 (w.heap.size + 1 + 1) (.bool false) (.slice none 0 0)) := X3.out.below hb X3.out.lt
  have X4 : Hid (Box V5 (w.heap.size + 1 + 1 + 1) (.bool false) (.slice none 0 0)) := X4.out.below hb X4.out.lt
  have O1 : Hid (Own V5 (w.heap.size + 1 + 1 + 1 + 1) a1 (tk l) c1 (l.take (tk l))) := O1.out.below hb (Nat.le_refl _)
  have HB : Hid (Below w.heap.size w V5) := HB.out.trans (hb.mono HB.out.size)
  have HS : Hid (w.heap.size + 1 + 1 + 1 + 1 ≤ V5.heap.size) := Nat.le_trans HS.out hb.size
  clear hb
  have x1z0 := X1.out.z0
  have x1z1 := X1.out.z1
  have x1f0 := X1.out.f0
  have x1f1 := X1.out.f1
  have x2z0 := X2.out.z0
  have x2z1 := X2.out.z1
  have x2f0 := X2.out.f0
  have x2f1 := X2.out.f1
  have x3z0 := X3.out.z0
  have x3z1 := X3.out.z1
  have x3f0 := X3.out.f0
  have x3f1 := X3.out.f1
  have x4z0 := X4.out.z0
  have x4z1 := X4.out.z1
  have x4f0 := X4.out.f0
  have x4f1 := X4.out.f1
  have y10 : ((V5.setCell ⟨w.heap.size + 1, 0, none⟩ (.bool s2)).setCell ⟨w.heap.size + 1, 1, none⟩ (.slice a2 (tk p) c2)).cell? ⟨w.heap.size, 0, none⟩ = some (.bool s1) := (set2_other (by omega)).trans X1.out.z0
  have y11 : ((V5.setCell ⟨w.heap.size + 1, 0, none⟩ (.bool s2)).setCell ⟨w.heap.size + 1, 1, none⟩ (.slice a2 (tk p) c2)).cell? ⟨w.heap.size, 1, none⟩ = some (.slice a1 (tk l) c1) := (set2_other (by omega)).trans X1.out.z1
  have y30 : ((V5.setCell ⟨w.heap.size + 1, 0, none⟩ (.bool s2)).setCell ⟨w.heap.size + 1, 1, none⟩ (.slice a2 (tk p) c2)).cell? ⟨w.heap.size + 1 + 1, 0, none⟩ = some (.bool false) := (set2_other (by omega)).trans X3.out.z0
  have y31 : ((V5.setCell ⟨w.heap.size + 1, 0, none⟩ (.bool s2)).setCell ⟨w.heap.size + 1, 1, none⟩ (.slice a2 (tk p) c2)).cell? ⟨w.heap.size + 1 + 1, 1, none⟩ = some (.slice none 0 0) := (set2_other (by omega)).trans X3.out.z1
  have y40 : ((V5.setCell ⟨w.heap.size + 1, 0, none⟩ (.bool s2)).setCell ⟨w.heap.size + 1, 1, none⟩ (.slice a2 (tk p) c2)).cell? ⟨w.heap.size + 1 + 1 + 1, 0, none⟩ = some (.bool false) := (set2_other (by omega)).trans X4.out.z0
  have y41 : ((V5.setCell ⟨w.heap.size + 1, 0, none⟩ (.bool s2)).setCell ⟨w.heap.size + 1, 1, none⟩ (.slice a2 (tk p) c2)).cell? ⟨w.heap.size + 1 + 1 + 1, 1, none⟩ = some (.slice none 0 0) := (set2_other (by omega)).trans X4.out.z1
  go_wp2_with (at_make; generalize hV : ((V5.setCell ⟨w.heap.size + 1, 0, none⟩ (.bool s2)).setCell ⟨w.heap.size + 1, 1, none⟩ (.slice a2 (tk p) c2)) = V6 at *; clear x1z0 x1z1 x1f0 x1f1 x2z0 x2z1 x2f0 x2f1 x3z0 x3z1 x3f0 x3f1 x4z0 x4z1 x4f0 x4f1 y10 y11 y30 y31 y40 y41; obtain ⟨xt, d3, d4, d5, d6⟩ := set_own hV X2.out; clear hV; have X1 : Hid (Box V6 (w.heap.size) (.bool s1) (.slice a1 (tk l) c1)) := d3 _ _ _ (by omega) X1.out; have X3 : Hid (Box V6 (w.heap.size + 1 + 1) (.bool false) (.slice none 0 0)) := d3 _ _ _ (by omega) X3.out; have X4 : Hid (Box V6 (w.heap.size + 1 + 1 + 1) (.bool false) (.slice none 0 0)) := d3 _ _ _ (by omega) X4.out; have X2 : Hid (Box V6 (w.heap.size + 1) (.bool s2) (.slice a2 (tk p) c2)) := xt; have O1 : Hid (Own V6 (w.heap.size + 1 + 1 + 1 + 1) a1 (tk l) c1 (l.take (tk l))) := d5 _ _ _ _ _ O1.out (by omega); have O2 : Hid (Own V6 (w.heap.size + 1 + 1 + 1 + 1) a2 (tk p) c2 (p.take (tk p))) := d5 _ _ _ _ _ O2.out (by omega); have HB : Hid (Below w.heap.size w V6) := d4 _ _ HB.out (by omega); have HS : Hid (w.heap.size + 1 + 1 + 1 + 1 ≤ V6.heap.size) := (by have := HS.out; show _ ≤ _; omega); clear xt d3 d4 d5 d6; refine wpList_make_full V6 rfl (.tmp 36) (.tmp 36) 22 rfl V6.heap.size 73 i0 (.int .u32 0) 1 Tryd.underlying22 hi hz0 hz1 .i64 .i64 _ _ (tk l) rfl rfl (by omega) (by omega) (by rw [hz2]; omega) (by unfold maxLen; omega) (Nat.le_refl _) ?_; intro w1 hown hgrow; have HBQ : Hid (Below V6.heap.size V6 w1) := ((Below.refl _ V6).grown hgrow (Nat.le_refl _) (by intro k hk; cases hk)); have HO : Hid (w1.heap[V6.heap.size]? = some (.cells ((List.replicate (tk l) 0).map eU).toArray 73 (0, 0))) := (by rw [made_zeros] at hown; exact (made_heap hown).1); clear hown hgrow; have z11 := (X1.out.below HBQ.out X1.out.lt).z1)
  go_loopw [8, 9] (fun rv iv wr => ∃ (j kr cr : Nat) (ar : Option Addr) (r d : List Nat), j ≤ 32 * tk l ∧ iv = .int .i64 ((j : Int) - 1) ∧ rv = .slice ar kr cr ∧ kr ≤ tk p ∧ Hid (Own wr (V6.heap.size + 1) ar kr cr r) ∧ Hid (Form 4294967296 r) ∧ Hid (ar = none → cr = 0) ∧ Hid (BitR (vl 4294967296 l) (vl 4294967296 p) j (vl 4294967296 d) (vl 4294967296 r)) ∧ Hid (Wd 4294967296 d) ∧ Hid (d.length = tk l) ∧ Hid (Holds eU wr V6.heap.size 0 d.toArray) ∧ Hid (V6.heap.size < wr.heap.size) ∧ Hid (Below V6.heap.size V6 wr)) (fun _ iv _ => (intOf iv + 1).toNat)
  case atStart => exact ⟨32 * tk l, 0, 0, none, [], List.replicate (tk l) 0, Nat.le_refl _, by go_num, rfl, Nat.zero_le _, ⟨Sl.nil _, fun h => by omega⟩, trivial, fun _ => rfl, by rw [vl_replicate]; exact BitR.start (by rw [← trim_val l]; have h := vl_lt 4294967296 _ (trim_form HL.out.wd).wd; rw [O1.out.sl.len] at h; exact h), wd_replicate _, by simp [Hid], (holds_heap HO.out).1, (holds_heap HO.out).2, HBQ⟩
  case round =>
    clear HO HBQ z11
    obtain ⟨j, kr, cr, ar, r, d, hj, rfl, rfl, hkr, OR, FR, NR, BR, WD, LD, HH, HQ, HBQ⟩ := hrel
    by_cases hlt : 0 < j
    · obtain ⟨i, rfl⟩ : ∃ i, j = i + 1 := ⟨j - 1, by omega⟩
      have hi32 : i / 32 < tk l := by omega
      obtain ⟨bl, ol, rfl, hbl, hcl⟩ := O1.out.sl.at_ (by omega)
      obtain ⟨x, hx⟩ : ∃ x, x = (l.take (tk l)).getD (i / 32) 0 := ⟨_, rfl⟩
      have hcx := hcl (i / 32) hi32
      rw [← hx] at hcx
      have HCX : Hid (bl < V6.heap.size ∧ V6.cell? ⟨bl, ol + i / 32, none⟩ = some (.int .u32 (x : Int))) := ⟨hbl, hcx⟩
      have hxb : x ≤ 4294967295 := by have := O1.out.sl.wd.at (by omega) (i / 32); omega
      have HX : Hid (x = (l.take (tk l)).getD (i / 32) 0) := hx
      clear hx hcl hbl hcx
      go_wp2_with fail
      refine (rtimes_any ar kr cr r (some ⟨wr.heap.size, 0, none⟩) 1 1 [2] _ (OR.out.sl.below ((Below.refl _ wr).alloc (Nat.le_refl _) _) (Nat.le_refl _)) (lit_sl wr 2 (by omega)) (by omega) (by omega)).mono ?_
      rintro e U1 ⟨r1, rfl, ho, hv, hb⟩
      generalize hg : (World.alloc wr _).heap.size = g at ho hb ⊢
      obtain rfl : g = wr.heap.size + 1 := by rw [← hg]; simp
      clear hg
      have hb1 : Below wr.heap.size wr U1 := ((Below.refl _ wr).alloc (Nat.le_refl _) _).trans (hb.mono (by omega))
      have O4 : Hid (Own U1 (V6.heap.size + 1) (some ⟨wr.heap.size + 1, 0, none⟩) (kr + 1) (kr + 1) r1) := ho.mono (by have := HQ.out; omega)
      have V4 : Hid (vl 4294967296 r1 = vl 4294967296 r * 2) := by rw [hv]; simp [vl, Hid]
      have HH : Hid (Holds eU U1 V6.heap.size 0 d.toArray) := holds_below HH.out hb1 HQ.out
      have HQ : Hid (V6.heap.size < U1.heap.size) := Nat.lt_of_lt_of_le HQ.out hb1.size
      have HBQ : Hid (Below V6.heap.size V6 U1) := HBQ.out.trans (hb1.mono HBQ.out.size)
      clear ho hv hb hb1 OR
      have x1 := X1.out.below HBQ.out X1.out.lt
      have y1 := x1.z1
      have hcx := (HBQ.out.cell (p := ⟨bl, ol + i / 32, none⟩) HCX.out.1).trans HCX.out.2
      clear x1
      go_wp2_with fail
      rw [bit_and x (i % 32) (by omega)]
      obtain ⟨bt, hbt⟩ : ∃ bt, x / 2 ^ (i % 32) % 2 = bt := ⟨_, rfl⟩
      rw [hbt]
      have hbb : bt ≤ 1 := by omega
      have BT : Hid (bt = vl 4294967296 l / 2 ^ i % 2) := by show _ = _; rw [← hbt, bit_eq O1.out.sl.wd i x HX.out, trim_val]
      clear hbt hcx y1
      refine (rplus_any (some ⟨wr.heap.size + 1, 0, none⟩) (kr + 1) (kr + 1) r1 (some ⟨U1.heap.size, 0, none⟩) 1 1 [bt] _ (O4.out.sl.below ((Below.refl _ U1).alloc (Nat.le_refl _) _) (Nat.le_refl _)) (lit_sl U1 bt (by omega)) (by omega) (by omega)).mono ?_
      rintro e U2 ⟨a5, k5, c5, r5, rfl, ho, hn5, hk5, hv, hb⟩
      have hk5 : k5 ≤ kr + 2 := by omega
      have hb1 : Below U1.heap.size U1 U2 := ((Below.refl _ U1).alloc (Nat.le_refl _) _).trans (hb.mono (by simp))
      have V5 : Hid (vl 4294967296 r5 = vl 4294967296 r * 2 + bt) := by rw [hv, V4.out]; simp [vl, Hid]
      have N5 : Hid (a5 = none → c5 = 0) := hn5
      have O5 : Hid (Own U2 (V6.heap.size + 1) a5 k5 c5 r5) := ho.mono (by have := HQ.out; simp; omega)
      clear ho hv hb hn5 O4 V4
      have HH : Hid (Holds eU U2 V6.heap.size 0 d.toArray) := holds_below HH.out hb1 HQ.out
      have HQ : Hid (V6.heap.size < U2.heap.size) := Nat.lt_of_lt_of_le HQ.out hb1.size
      have HBQ : Hid (Below V6.heap.size V6 U2) := HBQ.out.trans (hb1.mono HBQ.out.size)
      clear hb1
      go_wp2_with fail
      refine (rtrim_any a5 k5 c5 r5 _ O5.out.sl N5.out (by omega)).mono ?_
      rintro e U3 ⟨a6, c6, rfl, ho, hn6, hb1⟩
      have N6 : Hid (a6 = none → c6 = 0) := hn6
      have O6 : Hid (Own U3 (V6.heap.size + 1) a6 (tk r5) c6 (r5.take (tk r5))) := ho.mono (by have := HQ.out; omega)
      have F6 : Hid (Form 4294967296 (r5.take (tk r5))) := trim_form O5.out.sl.wd
      have K6 := tk_le O5.out.sl
      clear ho hn6 O5
      have HH : Hid (Holds eU U3 V6.heap.size 0 d.toArray) := holds_below HH.out hb1 HQ.out
      have HQ : Hid (V6.heap.size < U3.heap.size) := Nat.lt_of_lt_of_le HQ.out hb1.size
      have HBQ : Hid (Below V6.heap.size V6 U3) := HBQ.out.trans (hb1.mono HBQ.out.size)
      clear hb1
      have z21 := (X2.out.below HBQ.out X2.out.lt).z1
      go_wp2_with fail
      refine (rsize_any a6 (tk r5) c6 (r5.take (tk r5)) a2 (tk p) c2 (p.take (tk p)) _ O6.out.sl (O2.out.sl.below HBQ.out (Nat.le_refl _)) F6.out (trim_form HP.out.wd) (by omega) (by omega)).mono ?_
      rintro e U4 ⟨rfl, hb1⟩
      rw [trim_val, trim_val, V5.out]
      have O6 : Hid (Own U4 (V6.heap.size + 1) a6 (tk r5) c6 (r5.take (tk r5))) := O6.out.below hb1 (Nat.le_refl _)
      have HH : Hid (Holds eU U4 V6.heap.size 0 d.toArray) := holds_below HH.out hb1 HQ.out
      have HQ : Hid (V6.heap.size < U4.heap.size) := Nat.lt_of_lt_of_le HQ.out hb1.size
      have HBQ : Hid (Below V6.heap.size V6 U4) := HBQ.out.trans (hb1.mono HBQ.out.size)
      clear hb1
      clear z21
      obtain ⟨cv, hcv⟩ : ∃ cv, cmpI ((vl 4294967296 r * 2 + bt : Nat) : Int) (vl 4294967296 p : Nat) = cv := ⟨_, rfl⟩
      by_cases hge : vl 4294967296 p ≤ vl 4294967296 r * 2 + bt
      · have hcp : 0 ≤ cv := by rw [← hcv]; exact cmpI_ge (by omega)
        rw [hcv]
        have HGE : Hid (vl 4294967296 p ≤ vl 4294967296 r * 2 + bt) := hge
        clear hcv hge
        have z21 := (X2.out.below HBQ.out X2.out.lt).z1
        go_wp2_with fail
        refine (rminus_any a6 (tk r5) c6 (r5.take (tk r5)) a2 (tk p) c2 (p.take (tk p)) _ O6.out.sl (O2.out.sl.below HBQ.out (Nat.le_refl _)) (by omega) (by have h := form_len_le (trim_form HP.out.wd) F6.out (by rw [trim_val, trim_val, V5.out]; exact HGE.out); rw [O6.out.sl.len, O2.out.sl.len] at h; exact h) (by rw [trim_val, trim_val, V5.out]; exact HGE.out)).mono ?_
        rintro e U5 ⟨a7, c7, r7, rfl, ho, hn7, hv, hb1⟩
        rw [trim_val, trim_val, V5.out] at hv
        have V7 : Hid (vl 4294967296 r7 = vl 4294967296 r * 2 + bt - vl 4294967296 p) := Nat.eq_sub_of_add_eq hv
        have N7 : Hid (a7 = none → c7 = 0) := hn7
        have O7 : Hid (Own U5 (V6.heap.size + 1) a7 (tk r5) c7 r7) := ho.mono (by have := HQ.out; omega)
        clear ho hn7 hv O6 z21
        have HH : Hid (Holds eU U5 V6.heap.size 0 d.toArray) := holds_below HH.out hb1 HQ.out
        have HQ : Hid (V6.heap.size < U5.heap.size) := Nat.lt_of_lt_of_le HQ.out hb1.size
        have HBQ : Hid (Below V6.heap.size V6 U5) := HBQ.out.trans (hb1.mono HBQ.out.size)
        clear hb1
        go_wp2_with fail
        refine (rtrim_any a7 (tk r5) c7 r7 _ O7.out.sl N7.out (by omega)).mono ?_
        rintro e U6 ⟨a8, c8, rfl, ho, hn8, hb1⟩
        have N8 : Hid (a8 = none → c8 = 0) := hn8
        have O8 : Hid (Own U6 (V6.heap.size + 1) a8 (tk r7) c8 (r7.take (tk r7))) := ho.mono (by have := HQ.out; omega)
        have F8 : Hid (Form 4294967296 (r7.take (tk r7))) := trim_form O7.out.sl.wd
        clear ho hn8 O7
        have HH : Hid (Holds eU U6 V6.heap.size 0 d.toArray) := holds_below HH.out hb1 HQ.out
        have HQ : Hid (V6.heap.size < U6.heap.size) := Nat.lt_of_lt_of_le HQ.out hb1.size
        have HBQ : Hid (Below V6.heap.size V6 U6) := HBQ.out.trans (hb1.mono HBQ.out.size)
        clear hb1
        obtain ⟨hcd, hfd⟩ := holds_cell HH.out (i / 32) (by rw [LD.out]; exact hi32)
        rw [Nat.zero_add] at hcd hfd
        obtain ⟨y, hy⟩ : ∃ y, y = d.getD (i / 32) 0 := ⟨_, rfl⟩
        rw [← hy] at hcd
        have hyb : y ≤ 4294967295 := by have := WD.out.at (by omega) (i / 32); omega
        have HY : Hid (y = d.getD (i / 32) 0) := hy
        clear hy
        have hq1 : (0 : Int) ≤ (i : Int) / 32 := by omega
        have hq2 : (i : Int) / 32 < (tk l : Int) := by omega
        go_wp2_with fail
        go_region
        obtain ⟨hor, hlt2⟩ := or_bit y (i % 32) (by omega) (Nat.mod_lt _ (by omega)) (by rw [HY.out]; exact BR.out.word WD.out)
        have HOR : Hid (_ = _) := hor
        have HL2 : Hid (_ < _) := hlt2
        clear hor hlt2
        go_wp2_with fail
        go_roundw
        case rel =>
          have hM : 0 < vl 4294967296 p := Nat.pos_of_ne_zero fun h => h0 (tk_zero HP.out.wd h)
          have hB := BR.out.high BT.out hM HGE.out
          have hd : vl 4294967296 (d.set (i / 32) (y + 2 ^ (i % 32))) = vl 4294967296 d + 2 ^ i := set_bit d i y HY.out (by rw [LD.out]; exact hi32)
          refine ⟨i, tk r7, c8, a8, r7.take (tk r7), d.set (i / 32) (y + 2 ^ (i % 32)), by omega, by go_num, rfl, ?_, ?_, F8, N8, ?_, ?_, ?_, ?_, ?_, ?_⟩
          · have h := form_len_le F8.out (trim_form HP.out.wd) (by rw [trim_val, trim_val, V7.out, hB.r]; exact Nat.le_of_lt (Nat.mod_lt _ hM))
            rw [O8.out.sl.len, O2.out.sl.len] at h
            exact h
          · exact (O8.out.setCell (a := ⟨V6.heap.size, i / 32, none⟩) (by show V6.heap.size < V6.heap.size + 1; omega) _).below (Below.refl _ _).drew (Nat.le_refl _)
          · rw [hd, trim_val, V7.out]; exact hB
          · exact wd_set WD.out HL2.out
          · show _ = _; rw [List.length_set]; exact LD.out
          · exact holds_below (holds_set HH.out (by rw [LD.out]; exact hi32) HOR.out) (Below.refl (V6.heap.size + 1) _).drew (by omega)
          · have := HQ.out; simpa [Hid] using this
          · exact (HBQ.out.setCell (p := ⟨V6.heap.size, i / 32, none⟩) (Nat.le_refl _) _).drew
        case measure => simp [intOf]
      · have hcp : cv = -1 := by rw [← hcv]; exact cmpI_lt (by omega)
        rw [hcv]
        have HLT : Hid (vl 4294967296 r * 2 + bt < vl 4294967296 p) := Nat.lt_of_not_le hge
        clear hcv hge
        subst hcp
        go_wp2_with fail
        go_roundw
        case rel => exact ⟨i, tk r5, c6, a6, r5.take (tk r5), d, by omega, by go_num, rfl, (by have h := form_len_le F6.out (trim_form HP.out.wd) (by rw [trim_val, trim_val, V5.out]; exact Nat.le_of_lt HLT.out); rw [O6.out.sl.len, O2.out.sl.len] at h; exact h), O6, F6, N6, (by rw [trim_val, V5.out]; exact BR.out.low BT.out HLT.out), WD, LD, HH, HQ, HBQ⟩
        case measure => simp [intOf]
    · obtain rfl : j = 0 := by omega
      obtain ⟨q1, Q1⟩ : ∃ v, Hid (sgB (!(s1 == s2)) (vl 4294967296 d) = v) := ⟨_, rfl⟩
      obtain ⟨q2, Q2⟩ : ∃ v, Hid (sgB s1 (vl 4294967296 r) = v) := ⟨_, rfl⟩
      go_wp2_with fail
      have hb1 : Below wr.heap.size wr wr.drew := (Below.refl _ _).drew
      have OR : Hid (Own wr.drew (V6.heap.size + 1) ar kr cr r) := OR.out.below hb1 (Nat.le_refl _)
      have HH : Hid (Holds eU wr.drew V6.heap.size 0 d.toArray) := holds_below HH.out hb1 HQ.out
      have HQ : Hid (V6.heap.size < wr.drew.heap.size) := Nat.lt_of_lt_of_le HQ.out hb1.size
      have HBQ : Hid (Below V6.heap.size V6 wr.drew) := HBQ.out.trans (hb1.mono HBQ.out.size)
      clear hb1
      have OD : Hid (Own wr.drew V6.heap.size (some ⟨V6.heap.size, 0, none⟩) (tk l) (tk l) d) := Own.of_holds LD.out (Nat.le_refl _) (by omega) WD.out (Nat.le_refl _) HQ.out HH.out
      have KR := tk_le OR.out.sl
      have KD := tk_le OD.out.sl
      have kS : wr.drew.cell? ⟨w.heap.size, 0, none⟩ = some (.bool s1) ∧ wr.drew.cell? ⟨w.heap.size + 1, 0, none⟩ = some (.bool s2) := ⟨(X1.out.below HBQ.out X1.out.lt).z0, (X2.out.below HBQ.out X2.out.lt).z0⟩
      refine wp_region_held_drew (S := fun w' => w'.cell? ⟨w.heap.size, 0, none⟩ = some (.bool s1) ∧ w'.cell? ⟨w.heap.size + 1, 0, none⟩ = some (.bool s2)) (by kernel_rfl) (by exact kS) (fun hHeld => ?_)
      clear hHeld
      refine wpAnyH_take (i := 0) (oi := { dst := some 88, op := Op.fieldAddr 24 (Operand.tmp 2) 0, type := 0, pos := "exact.go:201", after := #[], guard := none }) (v := ?_) rfl (by kernel_rfl) (by kernel_rfl) (by kernel_rfl) (fun _ _ _ h => h) (Or.inl ⟨by rfl, ?_⟩) (by exact kS) ?_
      rotate_left
      · intro w hSw; (try dsimp only at hSw); (go_simp <;> with_reducible rfl)
      try simp only [Act.put, List.setIfInBounds_toArray, List.set_cons_zero, List.set_cons_succ]
      refine wpAnyH_take (i := 1) (oi := { dst := some 89, op := Op.load 4 (Operand.tmp 88), type := 4, pos := "exact.go:201", after := #[{ on := 0, ground := Ground.data }], guard := none }) (v := ?_) rfl (by kernel_rfl) (by kernel_rfl) (by kernel_rfl) (fun _ _ _ h => h) (Or.inl ⟨by rfl, ?_⟩) (by exact kS) ?_
      rotate_left
      · intro w hSw; (try dsimp only at hSw); (go_simp <;> with_reducible rfl)
      try simp only [Act.put, List.setIfInBounds_toArray, List.set_cons_zero, List.set_cons_succ]
      refine wpAnyH_take (i := 2) (oi := { dst := some 90, op := Op.fieldAddr 24 (Operand.tmp 3) 0, type := 0, pos := "exact.go:201", after := #[], guard := none }) (v := ?_) rfl (by kernel_rfl) (by kernel_rfl) (by kernel_rfl) (fun _ _ _ h => h) (Or.inl ⟨by rfl, ?_⟩) (by exact kS) ?_
      rotate_left
      · intro w hSw; (try dsimp only at hSw); (go_simp <;> with_reducible rfl)
      try simp only [Act.put, List.setIfInBounds_toArray, List.set_cons_zero, List.set_cons_succ]
      refine wpAnyH_take (i := 3) (oi := { dst := some 91, op := Op.load 4 (Operand.tmp 90), type := 4, pos := "exact.go:201", after := #[{ on := 2, ground := Ground.data }], guard := none }) (v := ?_) rfl (by kernel_rfl) (by kernel_rfl) (by kernel_rfl) (fun _ _ _ h => h) (Or.inl ⟨by rfl, ?_⟩) (by exact kS) ?_
      rotate_left
      · intro w hSw; (try dsimp only at hSw); (go_simp <;> with_reducible rfl)
      try simp only [Act.put, List.setIfInBounds_toArray, List.set_cons_zero, List.set_cons_succ]
      refine wpAnyH_take (i := 4) (oi := { dst := some 92, op := Op.binOp BinOp.neq 4 (Operand.tmp 89) (Operand.tmp 91) 4, type := 4, pos := "exact.go:201", after := #[{ on := 1, ground := Ground.data }, { on := 3, ground := Ground.data }], guard := none }) (v := ?_) rfl (by kernel_rfl) (by kernel_rfl) (by kernel_rfl) (fun _ _ _ h => h) (Or.inl ⟨by rfl, ?_⟩) (by exact kS) ?_
      rotate_left
      · intro w hSw; (try dsimp only at hSw); (go_simp <;> with_reducible rfl)
      try simp only [Act.put, List.setIfInBounds_toArray, List.set_cons_zero, List.set_cons_succ]
      refine wpAnyH_take (i := 5) (oi := { dst := some 93, op := Op.move (Operand.tmp 7), type := 22, pos := "exact.go:201", after := #[], guard := none }) (v := ?_) rfl (by kernel_rfl) (by kernel_rfl) (by kernel_rfl) (fun _ _ _ h => h) (Or.inl ⟨by rfl, ?_⟩) (by exact kS) ?_
      rotate_left
      · intro w hSw; (try dsimp only at hSw); (go_simp <;> with_reducible rfl)
      try simp only [Act.put, List.setIfInBounds_toArray, List.set_cons_zero, List.set_cons_succ]
      refine wpAnyH_take (i := 7) (oi := { dst := some 95, op := Op.fieldAddr 24 (Operand.tmp 2) 0, type := 0, pos := "exact.go:201", after := #[], guard := none }) (v := ?_) rfl (by kernel_rfl) (by kernel_rfl) (by kernel_rfl) (fun _ _ _ h => h) (Or.inl ⟨by rfl, ?_⟩) (by exact kS) ?_
      rotate_left
      · intro w hSw; (try dsimp only at hSw); (go_simp <;> with_reducible rfl)
      try simp only [Act.put, List.setIfInBounds_toArray, List.set_cons_zero, List.set_cons_succ]
      refine wpAnyH_take (i := 8) (oi := { dst := some 96, op := Op.load 4 (Operand.tmp 95), type := 4, pos := "exact.go:201", after := #[{ on := 7, ground := Ground.data }], guard := none }) (v := ?_) rfl (by kernel_rfl) (by kernel_rfl) (by kernel_rfl) (fun _ _ _ h => h) (Or.inl ⟨by rfl, ?_⟩) (by exact kS) ?_
      rotate_left
      · intro w hSw; (try dsimp only at hSw); (go_simp <;> with_reducible rfl)
      try simp only [Act.put, List.setIfInBounds_toArray, List.set_cons_zero, List.set_cons_succ]
      refine wpAnyH_take (i := 9) (oi := { dst := some 97, op := Op.move (Operand.tmp 8), type := 22, pos := "exact.go:201", after := #[], guard := none }) (v := ?_) rfl (by kernel_rfl) (by kernel_rfl) (by kernel_rfl) (fun _ _ _ h => h) (Or.inl ⟨by rfl, ?_⟩) (by exact kS) ?_
      rotate_left
      · intro w hSw; (try dsimp only at hSw); (go_simp <;> with_reducible rfl)
      try simp only [Act.put, List.setIfInBounds_toArray, List.set_cons_zero, List.set_cons_succ]
      refine wpAnyH_ready (rs := [6]) (by kernel_rfl) (by simp) ?_
      refine AllReadyH.cons (o := { dst := some 94, op := Op.call { callee := Callee.value (Operand.func 47), args := #[Operand.tmp 92, Operand.tmp 93], argTypes := #[4, 22] }, type := 24, pos := "exact.go:201", after := #[{ on := 4, ground := Ground.data }, { on := 5, ground := Ground.data }], guard := none }) rfl (fun K hK => ?_) AllReadyH.nil
      go_simp
      refine (rform_any _ (some ⟨V6.heap.size, 0, none⟩) (tk l) (tk l) d _ (by exact OD.out.sl) (fun h => by cases h) (by omega)).mono ?_
      rintro e U8 ⟨a8, c8, rfl, ho, hn8, hb1⟩
      rw [Q1.out]
      have O8 : Hid (Own U8 (w.heap.size + 1 + 1 + 1 + 1) a8 (tk d) c8 (d.take (tk d))) := ho.mono (by have := HS.out; have := HBQ.out.size; omega)
      clear ho hn8
      have OR : Hid (Own U8 (V6.heap.size + 1) ar kr cr r) := OR.out.below hb1 (Nat.le_refl _)
      have HH : Hid (Holds eU U8 V6.heap.size 0 d.toArray) := holds_below HH.out hb1 HQ.out
      have HQ : Hid (V6.heap.size < U8.heap.size) := Nat.lt_of_lt_of_le HQ.out hb1.size
      have HBQ : Hid (Below V6.heap.size V6 U8) := HBQ.out.trans (hb1.mono HBQ.out.size)
      clear hb1
      clear kS
      have kS : U8.cell? ⟨w.heap.size, 0, none⟩ = some (.bool s1) ∧ U8.cell? ⟨w.heap.size + 1, 0, none⟩ = some (.bool s2) := ⟨(X1.out.below HBQ.out X1.out.lt).z0, (X2.out.below HBQ.out X2.out.lt).z0⟩
      go_wp2_with fail
      refine hK.out _ _ (by exact kS) (fun hHeld => ?_)
      clear hK K hHeld
      try simp only [Act.put, List.setIfInBounds_toArray, List.set_cons_zero, List.set_cons_succ]
      refine wpAnyH_ready (rs := [10]) (by kernel_rfl) (by simp) ?_
      refine AllReadyH.cons (o := { dst := some 98, op := Op.call { callee := Callee.value (Operand.func 47), args := #[Operand.tmp 96, Operand.tmp 97], argTypes := #[4, 22] }, type := 24, pos := "exact.go:201", after := #[{ on := 8, ground := Ground.data }, { on := 9, ground := Ground.data }, { on := 6, ground := Ground.chain }], guard := none }) rfl (fun K hK => ?_) AllReadyH.nil
      go_simp
      refine (rform_any _ ar kr cr r _ (by exact OR.out.sl) NR.out (by omega)).mono ?_
      rintro e U9 ⟨a9, c9, rfl, ho, hn9, hb1⟩
      rw [Q2.out]
      have O9 : Hid (Own U9 (w.heap.size + 1 + 1 + 1 + 1) a9 (tk r) c9 (r.take (tk r))) := ho.mono (by have := HS.out; have := HBQ.out.size; omega)
      clear ho hn9
      have O8 : Hid (Own U9 (w.heap.size + 1 + 1 + 1 + 1) a8 (tk d) c8 (d.take (tk d))) := O8.out.below hb1 (Nat.le_refl _)
      have HH : Hid (Holds eU U9 V6.heap.size 0 d.toArray) := holds_below HH.out hb1 HQ.out
      have HQ : Hid (V6.heap.size < U9.heap.size) := Nat.lt_of_lt_of_le HQ.out hb1.size
      have HBQ : Hid (Below V6.heap.size V6 U9) := HBQ.out.trans (hb1.mono HBQ.out.size)
      clear hb1
      clear kS
      have kS : U9.cell? ⟨w.heap.size, 0, none⟩ = some (.bool s1) ∧ U9.cell? ⟨w.heap.size + 1, 0, none⟩ = some (.bool s2) := ⟨(X1.out.below HBQ.out X1.out.lt).z0, (X2.out.below HBQ.out X2.out.lt).z0⟩
      have Y1 : Hid (Box U9 (w.heap.size) (.bool s1) (.slice a1 (tk l) c1)) := X1.out.below HBQ.out X1.out.lt
      have Y2 : Hid (Box U9 (w.heap.size + 1) (.bool s2) (.slice a2 (tk p) c2)) := X2.out.below HBQ.out X2.out.lt
      have Y3 : Hid (Box U9 (w.heap.size + 1 + 1) (.bool false) (.slice none 0 0)) := X3.out.below HBQ.out X3.out.lt
      have Y4 : Hid (Box U9 (w.heap.size + 1 + 1 + 1) (.bool false) (.slice none 0 0)) := X4.out.below HBQ.out X4.out.lt
      have v3z0 := Y3.out.z0
      have v3z1 := Y3.out.z1
      have v3f0 := Y3.out.f0
      have v3f1 := Y3.out.f1
      have HBw : Hid (Below w.heap.size w U9) := HB.out.trans (HBQ.out.mono HB.out.size)
      clear OR OD HH
      go_wp2_with fail
      refine hK.out _ _ (by exact kS) (fun hHeld => ?_)
      clear hK K hHeld
      try simp only [Act.put, List.setIfInBounds_toArray, List.set_cons_zero, List.set_cons_succ]
      refine wpAnyH_ready (rs := [11]) (by kernel_rfl) (by simp) ?_
      refine AllReadyH.cons (o := { dst := none, op := Op.store 24 (Operand.tmp 4) (Operand.tmp 94), type := 0, pos := "exact.go:201", after := #[{ on := 6, ground := Ground.data }, { on := 10, ground := Ground.chain }, { on := 0, ground := Ground.phase }, { on := 1, ground := Ground.phase }, { on := 2, ground := Ground.phase }, { on := 3, ground := Ground.phase }, { on := 4, ground := Ground.phase }, { on := 5, ground := Ground.phase }, { on := 6, ground := Ground.phase }, { on := 7, ground := Ground.textOnly Departure.lateStores }, { on := 8, ground := Ground.textOnly Departure.lateStores }, { on := 9, ground := Ground.textOnly Departure.lateStores }, { on := 10, ground := Ground.textOnly Departure.lateStoresUnsure }], guard := none }) rfl (fun K hK => ?_) AllReadyH.nil
      go_simp
      generalize hU : ((U9.setCell ⟨w.heap.size + 1 + 1, 0, none⟩ (.bool q1)).setCell ⟨w.heap.size + 1 + 1, 1, none⟩ (.slice a8 (tk d) c8)) = U10
      clear v3z0 v3z1 v3f0 v3f1
      obtain ⟨xt, d3, d4, d5, d6⟩ := set_own hU Y3.out
      clear hU
      have Y1 : Hid (Box U10 (w.heap.size) (.bool s1) (.slice a1 (tk l) c1)) := d3 _ _ _ (by omega) Y1.out
      have Y2 : Hid (Box U10 (w.heap.size + 1) (.bool s2) (.slice a2 (tk p) c2)) := d3 _ _ _ (by omega) Y2.out
      have Y4 : Hid (Box U10 (w.heap.size + 1 + 1 + 1) (.bool false) (.slice none 0 0)) := d3 _ _ _ (by omega) Y4.out
      have Y3 : Hid (Box U10 (w.heap.size + 1 + 1) (.bool q1) (.slice a8 (tk d) c8)) := xt
      have O8 : Hid (Own U10 (w.heap.size + 1 + 1 + 1 + 1) a8 (tk d) c8 (d.take (tk d))) := d5 _ _ _ _ _ O8.out (by omega)
      have O9 : Hid (Own U10 (w.heap.size + 1 + 1 + 1 + 1) a9 (tk r) c9 (r.take (tk r))) := d5 _ _ _ _ _ O9.out (by omega)
      have HBw : Hid (Below w.heap.size w U10) := d4 _ _ HBw.out (by omega)
      clear xt d3 d4 d5 d6 kS
      have kS : U10.cell? ⟨w.heap.size, 0, none⟩ = some (.bool s1) ∧ U10.cell? ⟨w.heap.size + 1, 0, none⟩ = some (.bool s2) := ⟨Y1.out.z0, Y2.out.z0⟩
      have v4z0 := Y4.out.z0
      have v4z1 := Y4.out.z1
      have v4f0 := Y4.out.f0
      have v4f1 := Y4.out.f1
      refine hK.out _ _ (by exact kS) (fun hHeld => ?_)
      clear hK K hHeld
      try simp only [Act.put, List.setIfInBounds_toArray, List.set_cons_zero, List.set_cons_succ]
      refine wpAnyH_ready (rs := [12]) (by kernel_rfl) (by simp) ?_
      refine AllReadyH.cons (o := { dst := none, op := Op.store 24 (Operand.tmp 5) (Operand.tmp 98), type := 0, pos := "exact.go:201", after := #[{ on := 10, ground := Ground.data }, { on := 11, ground := Ground.chain }, { on := 0, ground := Ground.phase }, { on := 1, ground := Ground.phase }, { on := 2, ground := Ground.phase }, { on := 3, ground := Ground.phase }, { on := 4, ground := Ground.phase }, { on := 5, ground := Ground.phase }, { on := 6, ground := Ground.phase }, { on := 7, ground := Ground.phase }, { on := 8, ground := Ground.phase }, { on := 9, ground := Ground.phase }, { on := 10, ground := Ground.phase }, { on := 11, ground := Ground.phase }], guard := none }) rfl (fun K hK => ?_) AllReadyH.nil
      go_simp
      generalize hU : ((U10.setCell ⟨w.heap.size + 1 + 1 + 1, 0, none⟩ (.bool q2)).setCell ⟨w.heap.size + 1 + 1 + 1, 1, none⟩ (.slice a9 (tk r) c9)) = U11
      clear v4z0 v4z1 v4f0 v4f1
      obtain ⟨xt, d3, d4, d5, d6⟩ := set_own hU Y4.out
      clear hU
      have Y1 : Hid (Box U11 (w.heap.size) (.bool s1) (.slice a1 (tk l) c1)) := d3 _ _ _ (by omega) Y1.out
      have Y2 : Hid (Box U11 (w.heap.size + 1) (.bool s2) (.slice a2 (tk p) c2)) := d3 _ _ _ (by omega) Y2.out
      have Y3 : Hid (Box U11 (w.heap.size + 1 + 1) (.bool q1) (.slice a8 (tk d) c8)) := d3 _ _ _ (by omega) Y3.out
      have Y4 : Hid (Box U11 (w.heap.size + 1 + 1 + 1) (.bool q2) (.slice a9 (tk r) c9)) := xt
      have O8 : Hid (Own U11 (w.heap.size + 1 + 1 + 1 + 1) a8 (tk d) c8 (d.take (tk d))) := d5 _ _ _ _ _ O8.out (by omega)
      have O9 : Hid (Own U11 (w.heap.size + 1 + 1 + 1 + 1) a9 (tk r) c9 (r.take (tk r))) := d5 _ _ _ _ _ O9.out (by omega)
      have HBw : Hid (Below w.heap.size w U11) := d4 _ _ HBw.out (by omega)
      clear xt d3 d4 d5 d6 kS
      have kS : U11.cell? ⟨w.heap.size, 0, none⟩ = some (.bool s1) ∧ U11.cell? ⟨w.heap.size + 1, 0, none⟩ = some (.bool s2) := ⟨Y1.out.z0, Y2.out.z0⟩
      refine hK.out _ _ (by exact kS) (fun hHeld => ?_)
      clear hK K hHeld
      try simp only [Act.put, List.setIfInBounds_toArray, List.set_cons_zero, List.set_cons_succ]
      refine wpAnyH_take (i := 13) (oi := { dst := some 6, op := Op.assign (Operand.const (Value.int IntKind.i64 0)), type := 3, pos := "exact.go:201", after := #[{ on := 12, ground := Ground.chain }, { on := 0, ground := Ground.phase }, { on := 1, ground := Ground.phase }, { on := 2, ground := Ground.phase }, { on := 3, ground := Ground.phase }, { on := 4, ground := Ground.phase }, { on := 5, ground := Ground.phase }, { on := 6, ground := Ground.phase }, { on := 7, ground := Ground.phase }, { on := 8, ground := Ground.phase }, { on := 9, ground := Ground.phase }, { on := 10, ground := Ground.phase }, { on := 11, ground := Ground.phase }, { on := 12, ground := Ground.phase }], guard := none }) (v := ?_) rfl (by kernel_rfl) (by kernel_rfl) (by kernel_rfl) (fun _ _ _ h => h) (Or.inl ⟨by rfl, ?_⟩) (by exact kS) ?_
      rotate_left
      · intro w hSw; (try dsimp only at hSw); (go_simp <;> with_reducible rfl)
      try simp only [Act.put, List.setIfInBounds_toArray, List.set_cons_zero, List.set_cons_succ]
      refine wpAnyH_done (by kernel_rfl) ?_ _
      go_wp2_with fail
      have e3 := Y3.out.z0
      have e4 := Y3.out.z1
      have e5 := Y4.out.z0
      have e6 := Y4.out.z1
      obtain ⟨hq, hr⟩ := BR.out.done
      refine bodyPost_ret (v := .tuple #[.agg #[.bool q1, .slice a8 (tk d) c8], .agg #[.bool q2, .slice a9 (tk r) c9], .int .i64 0]) (by simp [results, Tryd.results31, go_sem, e3, e4, e5, e6]) rfl (QuoP.at B1.out B2.out (fun h => h0 (tk_zero HP.out.wd h)) S1.out S2.out (by rw [← Q1.out, hq]) (by rw [← Q2.out, hr]) ⟨a8, tk d, c8, d.take (tk d), rfl, O8.out.sl, trim_form WD.out, by rw [trim_val, hq], (O8.out.mono (by omega)).base⟩ ⟨a9, tk r, c9, r.take (tk r), rfl, O9.out.sl, trim_form FR.out.wd, by rw [trim_val, hr], (O9.out.mono (by omega)).base⟩ HBw.out)
theorem rquo_any (s t : Bool) (ao : Option Addr) (n cap : Nat) (l : List Nat) (ap : Option Addr) (m capb : Nat) (p : List Nat) (w : World) (hl : Sl w ao n cap l) (hp : Sl w ap m capb p) (hz1 : ao = none → cap = 0) (hz2 : ap = none → capb = 0) (hn : n ≤ 1000) (hm : m ≤ 1000) :
    Calls Tryd.prog 31 #[.agg #[.bool s, .slice ao n cap], .agg #[.bool t, .slice ap m capb]] w fun e w' => QuoP w w' e s (vl 4294967296 l) t (vl 4294967296 p) := by
  have big : ∀ (E : Int) (e : Ending) (w' : World), quoE (vl 4294967296 l) (vl 4294967296 p) = E → quoQ (vl 4294967296 l) (vl 4294967296 p) = 0 → quoR (vl 4294967296 l) (vl 4294967296 p) = 0 → e = .returned (.tuple #[.agg #[.bool false, .slice none 0 0], .agg #[.bool false, .slice none 0 0], .int .i64 E]) ∧ Below w.heap.size w w' → QuoP w w' e s (vl 4294967296 l) t (vl 4294967296 p) := by
    intro E e w' hE hQ hR ⟨he, hb⟩
    refine ⟨⟨_, _, by rw [he, hE], ?_, ?_⟩, hb⟩
    · rw [hQ, sgB_zero]; exact IntR.zero _ _
    · rw [hR, sgB_zero]; exact IntR.zero _ _
  cases h1 : bigN (vl 4294967296 l)
  · cases h2 : bigN (vl 4294967296 p)
    · by_cases h0 : tk p = 0
      · have hM : vl 4294967296 p = 0 := by rw [← trim_val, h0]; rfl
        exact (rquo_zero s t ao n cap l ap m capb p w hl hp hz1 hz2 hn hm h1 h2 _ _ rfl rfl h0).mono fun e w' h => big 5 e w' (by unfold quoE; rw [h1, h2, hM]; rfl) (by simp [quoQ, hM]) (by simp [quoR, hM]) h
      · exact rquo_at s t ao n cap l ap m capb p w hl hp hz1 hz2 hn hm h1 h2 _ _ rfl rfl h0
    · exact (rquo_big2 s t ao n cap l ap m capb p w hl hp hz1 hz2 hn hm h1 h2).mono fun e w' h => big 2 e w' (by simp [quoE, h2]) (by simp [quoQ, h2]) (by simp [quoR, h2]) h
  · exact (rquo_big1 s t ao n cap l ap m capb p w hl hp hz1 hz2 hn h1).mono fun e w' h => big 2 e w' (by simp [quoE, h1]) (by simp [quoQ, h1]) (by simp [quoR, h1]) h
end Go.Proofs.YtfkkhabpnnealaaDoor

