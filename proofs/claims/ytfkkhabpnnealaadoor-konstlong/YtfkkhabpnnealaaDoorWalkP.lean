/-
  The contracts of the law's own in, awake and of recastalike.Whole.
-/
import Derived.Test.YtfkkhabpnnealaaDoorWalkO
import Derived.Test.YtfkkhabpnnealaaDoorWalkL
import Derived.Test.YtfkkhabpnnealaaDoorWalkF
namespace Go.Proofs.YtfkkhabpnnealaaDoor
open Go.RowKit
attribute [local go_sem ↓] Go.wp_at_zero Go.wp_at_succ
theorem form_len_lt {r : List Nat} {k : Nat} (h : Form 4294967296 r) (hv : vl 4294967296 r < 4294967296 ^ k) : r.length ≤ k := by
  rcases Nat.lt_or_ge k r.length with h1 | h1
  · have h2 := h.low (by intro h0; rw [h0] at h1; simp at h1)
    have h3 := Nat.pow_le_pow_right (n := 4294967296) (by omega) (show k ≤ r.length - 1 by omega)
    omega
  · exact h1
theorem IntR.open {w : World} {base : Nat} {v : Value} {s : Bool} {N : Nat} (h : IntR w base v s N) (hN : N < 4294967296 ^ 40) :
    ∃ (ao : Option Addr) (k cap : Nat) (r : List Nat), v = .agg #[.bool s, .slice ao k cap] ∧ Sl w ao k cap r ∧ vl 4294967296 r = N ∧ k ≤ 40 := by
  obtain ⟨ao, k, cap, r, e, h1, h2, h3, _⟩ := h.ex
  refine ⟨ao, k, cap, r, e, h1, h3, ?_⟩
  rw [← h1.len]
  exact form_len_lt h2 (by rw [h3]; exact hN)
theorem small_lt {N : Nat} (h : N ≤ 18446744073709551615) : N < 4294967296 ^ 40 := by
  have h1 := Nat.pow_le_pow_right (n := 4294967296) (by omega) (show 2 ≤ 40 by omega)
  have h2 : 4294967296 ^ 2 = 18446744073709551616 := by simp
  omega
theorem decT_uniq {s : Bool} {N : Nat} {D : List Nat} {t : ByteArray} (h : decT s N t) (fd : Form 10 D) (hv : vl 10 D = N) : t = (if N = 0 then ⟨#[48]⟩ else if s then ⟨#[45]⟩ ++ txt D else txt D) := by
  obtain ⟨E, fe, he, ht⟩ := h
  rw [ht, Form.uniq fe fd (he.trans hv.symm)]
theorem dec_m3 {t : ByteArray} (h : decT true 3 t) : t = ⟨#[45, 51]⟩ := by
  rw [decT_uniq (D := [3]) h (by simp [Form]) rfl]; rfl
theorem dec_m1 {t : ByteArray} (h : decT true 1 t) : t = ⟨#[45, 49]⟩ := by
  rw [decT_uniq (D := [1]) h (by simp [Form]) rfl]; rfl
set_option maxRecDepth 100000 in
set_option maxHeartbeats 4000000 in
theorem whole_same (s : Bool) (ao : Option Addr) (n cap : Nat) (l : List Nat) (ap : Option Addr) (capb : Nat) (w : World) (hl : Sl w ao n cap l) (hp : Sl w ap n capb l) :
    Calls Tryd.prog 32 #[.agg #[.bool s, .slice ao n cap], .agg #[.bool s, .slice ap n capb]] w fun e w' => e = .returned (.bool true) ∧ Below w.heap.size w w' := by
  have HL : Hid (Sl w ao n cap l) := hl
  have HP : Hid (Sl w ap n capb l) := hp
  have hmx := hl.mx
  have hle := hl.lec
  have hss : (s != s) = false := by simp
  clear hl hp
  go_enter Tryd.func32, Tryd.ntmps32
  go_wp2_with fail
  obtain ⟨y1, y2, hbW, hzW⟩ := boxes2 w (.bool s) (.slice ao n cap) (.bool s) (.slice ap n capb) 24 24 0 rfl
  have Y1 : Hid (Box _ _ _ _) := y1
  have Y2 : Hid (Box _ _ _ _) := y2
  have HBW : Hid (Below w.heap.size w _) := hbW
  clear y1 y2 hbW hzW
  go_loopw [5] (fun iv wr => ∃ k : Nat, k ≤ n ∧ iv = .int .i64 k ∧ Hid (Box wr w.heap.size (.bool s) (.slice ao n cap)) ∧ Hid (Box wr (w.heap.size + 1) (.bool s) (.slice ap n capb)) ∧ Hid (Below w.heap.size w wr)) (fun iv _ => n - (intOf iv).toNat)
  case atStart => exact ⟨0, Nat.zero_le _, rfl, Y1, Y2, HBW⟩
  case round =>
    clear Y1 Y2 HBW
    obtain ⟨k, hk, rfl, Y1, Y2, HB⟩ := hrel
    have c1 := Y1.out.z1
    have d1 := Y2.out.z1
    by_cases hlt : k < n
    · obtain ⟨bl, ol, rfl, hbl, hcl⟩ := HL.out.at_ (by omega)
      obtain ⟨bp, op, rfl, hbp, hcp⟩ := HP.out.at_ (by omega)
      have hcx := (HB.out.cell (p := ⟨bl, ol + k, none⟩) hbl).trans (hcl k (by omega))
      have hcy := (HB.out.cell (p := ⟨bp, op + k, none⟩) hbp).trans (hcp k (by omega))
      generalize l.getD k 0 = x at hcx hcy
      clear hcl hcp hbl hbp
      go_wp2_with fail
      go_quiet (fail)
      go_wp2_with fail
      go_roundw
      case rel => exact ⟨k + 1, by omega, by go_num, Y1.out.below (below_drews (Below.refl (w.heap.size + 1) _) _) (by omega), Y2.out.below (below_drews (Below.refl (w.heap.size + 1 + 1) _) _) (by omega), below_drews HB.out _⟩
      case measure => simp [intOf]; omega
    · go_wp2_with fail
      go_ret
      exact ⟨rfl, HB.out⟩
/-- two Ints in form of one value are alike -/
theorem whole_any {w : World} {b1 b2 : Nat} {v1 v2 : Value} {s : Bool} {N : Nat} (h1 : IntR w b1 v1 s N) (h2 : IntR w b2 v2 s N) :
    Calls Tryd.prog 32 #[v1, v2] w fun e w' => e = .returned (.bool true) ∧ Below w.heap.size w w' := by
  obtain ⟨ao, k, cap, r, rfl, s1, f1, e1, _⟩ := h1.ex
  obtain ⟨ap, m, capb, p, rfl, s2, f2, e2, _⟩ := h2.ex
  have e : r = p := Form.uniq f1 f2 (e1.trans e2.symm)
  subst e
  obtain rfl : k = m := s1.len.symm.trans s2.len
  exact whole_same s ao k cap r ap capb w s1 s2
end Go.Proofs.YtfkkhabpnnealaaDoor

