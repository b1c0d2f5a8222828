/-
  The contracts of the law's own in, awake and of recastalike.Whole.
-/
import Derived.Test.YtimjafgaadafdaaDoorWalkO
import Derived.Test.YtimjafgaadafdaaDoorWalkL
import Derived.Test.YtimjafgaadafdaaDoorWalkF
namespace Go.Proofs.YtimjafgaadafdaaDoor
open Go.RowKit
attribute [local go_sem ↓] Go.wp_at_zero Go.wp_at_succ
theorem form_len_lt {r : List Nat} {k : Nat} (h : Form 4294967296 r) (hv : vl 4294967296 r < 4294967296 ^ k) : r.length ≤ k := by
  rcases Nat.lt_or_ge k r.length with h1 | h1
  · have h2 := h.low (by intro h0; rw [h0] at h1; simp at h1)
    have h3 := Nat.pow_le_pow_right (n := 4294967296) (by omega) (show k ≤ r.length - 1 by omega)
    omega
  · exact h1
theorem IntR.open {w : World} {base : Nat} {v : Value} {s : Bool} {N : Nat} (h : IntR w base v s N) (hN : N < 4294967296 ^ 40) :
    ∃ (ao : Option Addr) (k cap : Nat) (r : List Nat), v = .agg #[.bool s, .slice ao k cap] ∧ Sl w ao k cap r ∧ vl 4294967296 r = N ∧ k ≤ 40 := by
  obtain ⟨ao, k, cap, r, e, h1, h2, h3, _⟩ := h.ex
  refine ⟨ao, k, cap, r, e, h1, h3, ?_⟩
  rw [← h1.len]
  exact form_len_lt h2 (by rw [h3]; exact hN)
theorem small_lt {N : Nat} (h : N ≤ 18446744073709551615) : N < 4294967296 ^ 40 := by
  have h1 := Nat.pow_le_pow_right (n := 4294967296) (by omega) (show 2 ≤ 40 by omega)
  have h2 : 4294967296 ^ 2 = 18446744073709551616 := by simp
  omega
theorem decT_uniq {s : Bool} {N : Nat} {D : List Nat} {t : ByteArray} (h : decT s N t) (fd : Form 10 D) (hv : vl 10 D = N) : t = (if N = 0 then ⟨#[48]⟩ else if s then ⟨#[45]⟩ ++ txt D else txt D) := by
  obtain ⟨E, fe, he, ht⟩ := h
  rw [ht, Form.uniq fe fd (he.trans hv.symm)]
theorem dec_m3 {t : ByteArray} (h : decT true 3 t) : t = ⟨#[45, 51]⟩ := by
  rw [decT_uniq (D := [3]) h (by simp [Form]) rfl]; rfl
theorem dec_m1 {t : ByteArray} (h : decT true 1 t) : t = ⟨#[45, 49]⟩ := by
  rw [decT_uniq (D := [1]) h (by simp [Form]) rfl]; rfl
set_option maxHeartbeats 1000000 in
theorem in_any (s : Bool) (ao : Option Addr) (n cap : Nat) (w : World) (hn : n ≤ 9223372036854775807) :
    Calls Tryd.prog 9 #[.agg #[.bool s, .slice ao n cap]] w fun e w' => e = .returned (.bool (decide (n ≤ 40))) ∧ Below w.heap.size w w' := by
  go_enter Tryd.func9, Tryd.ntmps9
  go_wp2
  go_ret
  exact ⟨ret_bool (decide_eq_decide.2 (by omega)), (Below.refl _ _).alloc (Nat.le_refl _) _⟩
set_option maxHeartbeats 4000000 in
set_option maxRecDepth 100000 in
theorem awake_any (w : World) : Calls Tryd.prog 10 #[] w fun e w' => e = .returned (.bool true) ∧ Below w.heap.size w w' := by
  go_enter Tryd.func10, Tryd.ntmps10
  go_wp2_with fail
  refine (of_any (-7) _ (by omega) (by omega)).mono ?_
  rintro e w1 ⟨x1, rfl, hx1, hb1⟩
  obtain ⟨a1, k1, c1, r1, rfl, s1, v1, m1⟩ := hx1.open (small_lt (by decide))
  have S1 : Hid (Sl w1 a1 k1 c1 r1) := s1
  have HB1 : Hid (Below w.heap.size w w1) := hb1
  have V1 : Hid (vl 4294967296 r1 = 7) := v1
  clear hx1 hb1 s1 v1
  rw [show sgB (decide ((-7 : Int) < 0)) (-7 : Int).natAbs = true from rfl]
  go_wp2_with fail
  refine (of_any 2 _ (by omega) (by omega)).mono ?_
  rintro e w2 ⟨x2, rfl, hx2, hb2⟩
  obtain ⟨a2, k2, c2, r2, rfl, s2, v2, m2⟩ := hx2.open (small_lt (by decide))
  have S2 : Hid (Sl w2 a2 k2 c2 r2) := s2
  have S1 : Hid (Sl w2 a1 k1 c1 r1) := S1.out.below hb2 (Nat.le_refl _)
  have HB2 : Hid (Below w.heap.size w w2) := HB1.out.trans (hb2.mono HB1.out.size)
  have V2 : Hid (vl 4294967296 r2 = 2) := v2
  clear hx2 hb2 s2 v2
  rw [show sgB (decide ((2 : Int) < 0)) (2 : Int).natAbs = false from rfl]
  go_wp2_with fail
  refine (quo_any true false a1 k1 c1 r1 a2 k2 c2 r2 w2 S1.out S2.out (by omega) (by omega)).mono ?_
  rintro e w3 ⟨⟨u1, u2, rfl, hu1, hu2⟩, hb3⟩
  rw [V1.out, V2.out] at hu1 hu2 ⊢
  have e0 : quoE 7 2 = 0 := by simp [quoE, bigN]
  have e1 : quoQ 7 2 = 3 := by simp [quoQ, bigN]
  have e2 : quoR 7 2 = 1 := by simp [quoR, bigN]
  rw [e0]
  rw [e1] at hu1
  rw [e2] at hu2
  clear e0 e1 e2
  obtain ⟨a3, k3, c3, r3, rfl, s3, v3, m3⟩ := hu1.open (small_lt (by omega))
  obtain ⟨a4, k4, c4, r4, rfl, s4, v4, m4⟩ := hu2.open (small_lt (by omega))
  rw [show sgB (true != false) 3 = true from rfl, show sgB true 1 = true from rfl]
  have S3 : Hid (Sl w3 a3 k3 c3 r3) := s3
  have S4 : Hid (Sl w3 a4 k4 c4 r4) := s4
  have V3 : Hid (vl 4294967296 r3 = 3) := v3
  have V4 : Hid (vl 4294967296 r4 = 1) := v4
  have HB3 : Hid (Below w.heap.size w w3) := HB2.out.trans (hb3.mono HB2.out.size)
  clear hu1 hu2 hb3 s3 s4 v3 v4 S1 S2
  go_wp2_with fail
  obtain ⟨_, y2, hbW, hzW⟩ := boxes2 w3 (.bool true) (.slice a3 k3 c3) (.bool true) (.slice a4 k4 c4) 24 24 0 rfl
  have Y2 : Hid (Box _ _ _ _) := y2
  have HBW : Hid (Below _ _ _) := hbW
  have HZW : Hid (_ = _) := hzW
  clear y2 hbW hzW
  refine (text_any true a3 k3 c3 r3 _ (S3.out.below HBW.out (Nat.le_refl _)) (by omega)).mono ?_
  rintro e w4 ⟨t, rfl, ht, hb4⟩
  rw [V3.out] at ht
  rw [dec_m3 ht]
  have y := Y2.out.below hb4 Y2.out.lt
  have d0 := y.z0
  have d1 := y.z1
  have S4 : Hid (Sl w4 a4 k4 c4 r4) := (S4.out.below HBW.out (Nat.le_refl _)).below hb4 (Nat.le_refl _)
  have HB4 : Hid (Below w.heap.size w w4) := (HB3.out.trans (HBW.out.mono HB3.out.size)).trans (hb4.mono (Nat.le_trans HB3.out.size HBW.out.size))
  clear ht hb4 y Y2 HBW HZW
  go_wp2_with fail
  refine (text_any true a4 k4 c4 r4 _ S4.out (by omega)).mono ?_
  rintro e w5 ⟨t5, rfl, ht, hb5⟩
  rw [V4.out] at ht
  rw [dec_m1 ht]
  have HB5 : Hid (Below w.heap.size w w5) := HB4.out.trans (hb5.mono HB4.out.size)
  clear ht hb5
  go_wp2_with fail
  go_ret
  exact ⟨rfl, HB5.out⟩
set_option maxHeartbeats 4000000 in
theorem whole_same (s : Bool) (ao : Option Addr) (n cap : Nat) (l : List Nat) (ap : Option Addr) (capb : Nat) (w : World) (hl : Sl w ao n cap l) (hp : Sl w ap n capb l) :
    Calls Tryd.prog 16 #[.agg #[.bool s, .slice ao n cap], .agg #[.bool s, .slice ap n capb]] w fun e w' => e = .returned (.bool true) ∧ Below w.heap.size w w' := by
  have HL : Hid (Sl w ao n cap l) := hl
  have HP : Hid (Sl w ap n capb l) := hp
  have hmx := hl.mx
  have hle := hl.lec
  have hss : (s != s) = false := by simp
  clear hl hp
  go_enter Tryd.func16, Tryd.ntmps16
  go_wp2_with fail
  obtain ⟨y1, y2, hbW, hzW⟩ := boxes2 w (.bool s) (.slice ao n cap) (.bool s) (.slice ap n capb) 24 24 0 rfl
  have Y1 : Hid (Box _ _ _ _) := y1
  have Y2 : Hid (Box _ _ _ _) := y2
  have HBW : Hid (Below w.heap.size w _) := hbW
  clear y1 y2 hbW hzW
  go_loopw [5] (fun iv wr => ∃ k : Nat, k ≤ n ∧ iv = .int .i64 k ∧ Hid (Box wr w.heap.size (.bool s) (.slice ao n cap)) ∧ Hid (Box wr (w.heap.size + 1) (.bool s) (.slice ap n capb)) ∧ Hid (Below w.heap.size w wr)) (fun iv _ => n - (intOf iv).toNat)
  case atStart => exact ⟨0, Nat.zero_le _, rfl, Y1, Y2, HBW⟩
  case round =>
    clear Y1 Y2 HBW
    obtain ⟨k, hk, rfl, Y1, Y2, HB⟩ := hrel
    have c1 := Y1.out.z1
    have d1 := Y2.out.z1
    by_cases hlt : k < n
    · obtain ⟨bl, ol, rfl, hbl, hcl⟩ := HL.out.at_ (by omega)
      obtain ⟨bp, op, rfl, hbp, hcp⟩ := HP.out.at_ (by omega)
      have hcx := (HB.out.cell (p := ⟨bl, ol + k, none⟩) hbl).trans (hcl k (by omega))
      have hcy := (HB.out.cell (p := ⟨bp, op + k, none⟩) hbp).trans (hcp k (by omega))
      generalize l.getD k 0 = x at hcx hcy
      clear hcl hcp hbl hbp
      go_wp2_with fail
      go_quiet (fail)
      go_wp2_with fail
      go_roundw
      case rel => exact ⟨k + 1, by omega, by go_num, Y1.out.below (below_drews (Below.refl (w.heap.size + 1) _) _) (by omega), Y2.out.below (below_drews (Below.refl (w.heap.size + 1 + 1) _) _) (by omega), below_drews HB.out _⟩
      case measure => simp [intOf]; omega
    · go_wp2_with fail
      go_ret
      exact ⟨rfl, HB.out⟩
/-- two Ints in form of one value are alike -/
theorem whole_any {w : World} {b1 b2 : Nat} {v1 v2 : Value} {s : Bool} {N : Nat} (h1 : IntR w b1 v1 s N) (h2 : IntR w b2 v2 s N) :
    Calls Tryd.prog 16 #[v1, v2] w fun e w' => e = .returned (.bool true) ∧ Below w.heap.size w w' := by
  obtain ⟨ao, k, cap, r, rfl, s1, f1, e1, _⟩ := h1.ex
  obtain ⟨ap, m, capb, p, rfl, s2, f2, e2, _⟩ := h2.ex
  have e : r = p := Form.uniq f1 f2 (e1.trans e2.symm)
  subst e
  obtain rfl : k = m := s1.len.symm.trans s2.len
  exact whole_same s ao k cap r ap capb w s1 s2
end Go.Proofs.YtimjafgaadafdaaDoor
