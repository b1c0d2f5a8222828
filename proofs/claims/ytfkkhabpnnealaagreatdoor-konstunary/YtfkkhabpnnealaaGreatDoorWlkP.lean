/-
  The contract of exact.Quo at every argument (3).
-/
import Derived.Test.YtfkkhabpnnealaaGreatDoorWalkJ
import Derived.Test.YtfkkhabpnnealaaGreatDoorWalkE
import Derived.Test.YtfkkhabpnnealaaGreatDoorWalkO
namespace Go.Proofs.YtfkkhabpnnealaaGreatDoor
open Go.RowKit
attribute [local go_sem ↓] Go.wp_at_zero Go.wp_at_succ
open Go.Sort (Holds putRow holds_putRow putRow_self putRow_set cell?_putRow_other)
def quoE (N M : Nat) : Int := if bigN N || bigN M then 2 else if M = 0 then 5 else 0
def quoQ (N M : Nat) : Nat := if bigN N || bigN M then 0 else if M = 0 then 0 else N / M
def quoR (N M : Nat) : Nat := if bigN N || bigN M then 0 else if M = 0 then 0 else N % M
/-- what Quo answers -/
structure QuoP (w w' : World) (e : Ending) (s1 : Bool) (N : Nat) (s2 : Bool) (M : Nat) : Prop where
  ex : ∃ v1 v2, e = .returned (.tuple #[v1, v2, .int .i64 (quoE N M)]) ∧ IntR w' w.heap.size v1 (sgB (s1 != s2) (quoQ N M)) (quoQ N M) ∧ IntR w' w.heap.size v2 (sgB s1 (quoR N M)) (quoR N M)
  below : Below w.heap.size w w'
theorem quo_any (s t : Bool) (ao : Option Addr) (n cap : Nat) (l : List Nat) (ap : Option Addr) (m capb : Nat) (p : List Nat) (w : World) (hl : Sl w ao n cap l) (hp : Sl w ap m capb p) (hn : n ≤ 1000) (hm : m ≤ 1000) :
    Calls Tryz.prog 65 #[.agg #[.bool s, .slice ao n cap], .agg #[.bool t, .slice ap m capb]] w fun e w' => QuoP w w' e s (vl 4294967296 l) t (vl 4294967296 p) := by
  cases hbig : (bigN (vl 4294967296 l) || bigN (vl 4294967296 p))
  · have h1 : bigN (vl 4294967296 l) = false := by cases h : bigN (vl 4294967296 l) <;> simp_all
    have h2 : bigN (vl 4294967296 p) = false := by cases h : bigN (vl 4294967296 p) <;> simp_all
    by_cases h0 : vl 4294967296 p = 0
    · refine (quo_zero s t ao n cap l ap m capb p w hl hp hn hm h1 h0).mono fun e w' ⟨he, hb⟩ => ⟨⟨.agg #[.bool false, .slice none 0 0], .agg #[.bool false, .slice none 0 0], ?_, ?_, ?_⟩, hb⟩
      · rw [he]; unfold quoE; rw [hbig, if_neg (by simp), if_pos h0]
      · unfold quoQ; rw [hbig, if_neg (by simp), if_pos h0, sgB_zero]; exact IntR.zero _ _
      · unfold quoR; rw [hbig, if_neg (by simp), if_pos h0, sgB_zero]; exact IntR.zero _ _
    · refine (quo_ok s t ao n cap l ap m capb p w hl hp hn hm h1 h2 h0).mono fun e w' ⟨v1, v2, he, hi1, hi2, hb⟩ => ⟨⟨v1, v2, ?_, ?_, ?_⟩, hb⟩
      · rw [he]; simp only [quoE, hbig, h0, if_false]; rfl
      · simp only [quoQ, hbig, h0, if_false]; exact hi1
      · simp only [quoR, hbig, h0, if_false]; exact hi2
  · refine (quo_big s t ao n cap l ap m capb p w hl hp hn hm hbig).mono fun e w' ⟨he, hb⟩ => ⟨⟨.agg #[.bool false, .slice none 0 0], .agg #[.bool false, .slice none 0 0], ?_, ?_, ?_⟩, hb⟩
    · rw [he]; simp only [quoE, hbig, if_true]
    · simp only [quoQ, hbig, if_true, sgB_zero]; exact IntR.zero _ _
    · simp only [quoR, hbig, if_true, sgB_zero]; exact IntR.zero _ _
end Go.Proofs.YtfkkhabpnnealaaGreatDoor

/-
  The contracts of exact.Neg, Of, Small at every argument.
-/
namespace Go.Proofs.YtfkkhabpnnealaaGreatDoor
open Go.RowKit
attribute [local go_sem ↓] Go.wp_at_zero Go.wp_at_succ
open Go.Sort (Holds putRow holds_putRow putRow_self putRow_set cell?_putRow_other)
theorem ne_boxes1 (n : Nat) : n + 1 ≠ n := by omega
set_option maxRecDepth 100000 in
set_option maxHeartbeats 2000000 in
theorem neg_any (s : Bool) (ao : Option Addr) (n cap : Nat) (l : List Nat) (w : World) (hl : Sl w ao n cap l) (hn : n ≤ 1000) :
    Calls Tryz.prog 25 #[.agg #[.bool s, .slice ao n cap]] w fun e w' => ∃ v, e = .returned v ∧ IntR w' w.heap.size v (sgB (!s) (vl 4294967296 l)) (vl 4294967296 l) ∧ Below w.heap.size w w' := by
  have HL : Hid (Sl w ao n cap l) := hl
  have K1 := tk_le hl
  clear hl
  go_enter Tryz.func25, Tryz.ntmps25
  go_wp2_with fail
  generalize hW : (World.alloc _ _) = W
  obtain ⟨x1, x2, hbW, hzW⟩ := boxes2 w _ _ _ _ _ _ 0 hW
  clear hW
  have HBW : Hid (Below w.heap.size w W) := hbW
  have a0 := x1.z0
  have a1 := x1.z1
  have X1 : Hid (Box W w.heap.size _ _) := x1
  have X2 : Hid (Box W (w.heap.size + 1) _ _) := x2
  have L1 : w.heap.size < W.drew.heap.size := by show _ < W.heap.size; omega
  have L2 : w.heap.size + 1 < W.drew.heap.size := by show _ < W.heap.size; omega
  clear hbW hzW x1 x2
  have S1 : Hid (Sl W.drew ao n cap l) := (HL.out.below HBW.out (Nat.le_refl _)).below (Below.refl _ _).drew (Nat.le_refl _)
  go_region_held3 (fun w' => w'.cell? ⟨w.heap.size, 0, none⟩ = some (.bool s) ∧ w'.cell? ⟨w.heap.size, 1, none⟩ = some (.slice ao n cap))
    (first | exact And.intro ((set2_other (ne_boxes1 _)).trans c0) ((set2_other (ne_boxes1 _)).trans c1) | go_keep)
    (first | (go_at_call 48; refine (trimmed_eq ao n cap l _ (by exact S1.out)).mono ?_; rintro e w1 ⟨rfl, rfl⟩) | (go_at_call 47; refine (clone_any ao (tk l) cap (l.take (tk l)) _ (by exact S1.out.trim) (by omega)).mono ?_; rintro e w2 ⟨ao2, cap2, rfl, ho2, hb2⟩; have X12 := X1.out.below ((Below.refl _ W).drew.trans hb2) L1; have X22 : Hid (Box w2 _ _ _) := X2.out.below ((Below.refl _ W).drew.trans hb2) L2; have c0 := X12.z0; have c1 := X12.z1; have X12 : Hid (Box w2 _ _ _) := X12; have HB2 : Hid (Below _ _ w2) := hb2; have HO2 : Hid (Own w2 _ _ _ _ _) := ho2; clear hb2 ho2) | (go_at_call 46; refine (inForm_any (!s) ao2 (tk l) cap2 (l.take (tk l)) w2 HO2.out.sl).mono ?_; rintro e w3 ⟨v3, rfl, hf3, hb3⟩; rw [trim_val] at hf3; have HF3 : Hid (FormR _ _ _ _ v3 _ _) := hf3; obtain ⟨ao', k', cap', r', rfl, h1, h2, h3, h4⟩ := hf3.ex; have HB3 : Hid (Below _ _ w3) := hb3; have X33 := X22.out.below hb3 X22.out.lt; have X13 := X12.out.below hb3 X12.out.lt; have z0 := X33.z0; have z1 := X33.z1; have f0 := X33.f0; have f1 := X33.f1; have c0 := X13.z0; have c1 := X13.z1; clear hf3 h1 h2 h3 h4 hb3 X33 X13))
  all_goals
    go_wp2_with fail
    obtain ⟨q1, q2⟩ := end_box (R := w.heap.size + 1) (u := .bool (sgB (!s) (vl 4294967296 l))) (x := .slice ao' k' cap') HBW.out ((Below.refl _ W).drew.trans HB2.out) HB3.out (by omega) L2 HO2.out HF3.out
    refine bodyPost_ret (v := .agg #[.bool (sgB (!s) (vl 4294967296 l)), .slice ao' k' cap']) (by simp [results, Tryz.results25, go_sem, z0, z1]) rfl ⟨_, rfl, q1, q2⟩
theorem own_two {w : World} {base b x y : Nat} (h : Box w b (.int .u32 (x : Int)) (.int .u32 (y : Int))) (hx : x < 4294967296) (hy : y < 4294967296) (hb : base ≤ b) : Own w base (some ⟨b, 0, none⟩) 2 2 [x, y] := by
  refine Own.of_holds rfl (Nat.le_refl _) (by omega) (by simp [Wd]; exact ⟨hx, hy⟩) hb h.lt (holds_of fun k hk => ?_)
  match k, hk with
  | 0, _ => exact ⟨h.z0, h.f0⟩
  | 1, _ => exact ⟨h.z1, h.f1⟩
theorem vl_two (N : Nat) : vl 4294967296 [N % 4294967296, N / 4294967296] = N := by
  simp only [vl]; omega
set_option maxRecDepth 100000 in
set_option maxHeartbeats 2000000 in
theorem of_abs (N : Nat) (neg : Bool) (w : World) (h : N ≤ 9223372036854775808) (hn : neg = true → 1 ≤ N) (hp : neg = false → N ≤ 9223372036854775807) :
    Calls Tryz.prog 39 #[.int .i64 (if neg then -(N : Int) else N)] w fun e w' => ∃ x, e = .returned x ∧ IntR w' w.heap.size x (sgB neg N) N ∧ Below w.heap.size w w' := by
  have e1 : (N : Int) % 4294967296 = ((N % 4294967296 : Nat) : Int) := by omega
  have e2 : (N : Int) / 4294967296 = ((N / 4294967296 : Nat) : Int) := by omega
  have E1 : Hid (_ = _) := e1
  have E2 : Hid (_ = _) := e2
  clear e1 e2
  have HV : Hid (vl 4294967296 [N % 4294967296, N / 4294967296] = N) := vl_two N
  cases neg
  · have h1 := hp rfl
    clear hn hp
    go_enter Tryz.func39, Tryz.ntmps39
    go_wp2_with fail
    rw [E1.out, E2.out]
    generalize hW : (World.alloc _ _) = W
    obtain ⟨x1, x2, hbW, hzW⟩ := boxes2 w _ _ _ _ _ _ 0 hW
    have ho := own_two (base := w.heap.size + 1) x2 (by omega) (by omega) (Nat.le_refl _)
    have HO : Hid (Own W _ _ _ _ _) := ho
    have HBW : Hid (Below w.heap.size w W) := hbW
    have X1 : Hid (Box W w.heap.size _ _) := x1
    clear hW x1 x2 hbW ho
    refine (inForm_any false _ _ _ [N % 4294967296, N / 4294967296] _ HO.out.sl).mono ?_
    rintro e w3 ⟨v3, rfl, hf3, hb3⟩
    rw [HV.out] at hf3
    have HF3 : Hid (FormR _ _ _ _ v3 _ _) := hf3
    obtain ⟨ao', k', cap', r', rfl, h1, h2, h3, h4⟩ := hf3.ex
    have HB3 : Hid (Below _ _ w3) := hb3
    have X33 := X1.out.below hb3 X1.out.lt
    have z0 := X33.z0
    have z1 := X33.z1
    have f0 := X33.f0
    have f1 := X33.f1
    clear hf3 h1 h2 h3 h4 hb3 X33
    go_wp2_with fail
    have ho2 := ((HO.out.below HB3.out (Nat.le_refl _)).setCell (a := ⟨w.heap.size, 0, none⟩) (by show w.heap.size < w.heap.size + 1; omega) (.bool (sgB false N))).setCell (a := ⟨w.heap.size, 1, none⟩) (by show w.heap.size < w.heap.size + 1; omega) (.slice ao' k' cap')
    refine bodyPost_ret (v := .agg #[.bool (sgB false N), .slice ao' k' cap']) (by simp [results, Tryz.results39, go_sem, z0, z1]) rfl ⟨_, rfl, HF3.out.int ho2.sl (ho2.mono (by omega)).base, ?_⟩
    exact (((HBW.out.trans (HB3.out.mono (by omega))).setCell (p := ⟨w.heap.size, 0, none⟩) (Nat.le_refl _) _).setCell (p := ⟨w.heap.size, 1, none⟩) (Nat.le_refl _) _)
  · have h1 := hn rfl
    have hwr : IntKind.u64.wrap (-IntKind.u64.wrap (-(N : Int))) = (N : Int) := by rw [IntKind.wrap_u64, IntKind.wrap_u64]; omega
    clear hn hp
    go_enter Tryz.func39, Tryz.ntmps39
    go_wp2_with fail
    rw [E1.out, E2.out]
    generalize hW : (World.alloc _ _) = W
    obtain ⟨x1, x2, hbW, hzW⟩ := boxes2 w _ _ _ _ _ _ 0 hW
    have ho := own_two (base := w.heap.size + 1) x2 (by omega) (by omega) (Nat.le_refl _)
    have HO : Hid (Own W _ _ _ _ _) := ho
    have HBW : Hid (Below w.heap.size w W) := hbW
    have X1 : Hid (Box W w.heap.size _ _) := x1
    clear hW x1 x2 hbW ho
    refine (inForm_any true _ _ _ [N % 4294967296, N / 4294967296] _ HO.out.sl).mono ?_
    rintro e w3 ⟨v3, rfl, hf3, hb3⟩
    rw [HV.out] at hf3
    have HF3 : Hid (FormR _ _ _ _ v3 _ _) := hf3
    obtain ⟨ao', k', cap', r', rfl, h1, h2, h3, h4⟩ := hf3.ex
    have HB3 : Hid (Below _ _ w3) := hb3
    have X33 := X1.out.below hb3 X1.out.lt
    have z0 := X33.z0
    have z1 := X33.z1
    have f0 := X33.f0
    have f1 := X33.f1
    clear hf3 h1 h2 h3 h4 hb3 X33
    go_wp2_with fail
    have ho2 := ((HO.out.below HB3.out (Nat.le_refl _)).setCell (a := ⟨w.heap.size, 0, none⟩) (by show w.heap.size < w.heap.size + 1; omega) (.bool (sgB true N))).setCell (a := ⟨w.heap.size, 1, none⟩) (by show w.heap.size < w.heap.size + 1; omega) (.slice ao' k' cap')
    refine bodyPost_ret (v := .agg #[.bool (sgB true N), .slice ao' k' cap']) (by simp [results, Tryz.results39, go_sem, z0, z1]) rfl ⟨_, rfl, HF3.out.int ho2.sl (ho2.mono (by omega)).base, ?_⟩
    exact (((HBW.out.trans (HB3.out.mono (by omega))).setCell (p := ⟨w.heap.size, 0, none⟩) (Nat.le_refl _) _).setCell (p := ⟨w.heap.size, 1, none⟩) (Nat.le_refl _) _)
theorem of_any (v : Int) (w : World) (h0 : -9223372036854775808 ≤ v) (h1 : v ≤ 9223372036854775807) :
    Calls Tryz.prog 39 #[.int .i64 v] w fun e w' => ∃ x, e = .returned x ∧ IntR w' w.heap.size x (sgB (decide (v < 0)) v.natAbs) v.natAbs ∧ Below w.heap.size w w' := by
  by_cases hv : v < 0
  · have := of_abs v.natAbs true w (by omega) (fun _ => by omega) (fun h => by cases h)
    rw [if_pos rfl, show -(v.natAbs : Int) = v from by omega] at this
    rw [decide_eq_true hv]
    exact this
  · have := of_abs v.natAbs false w (by omega) (fun h => by cases h) (fun _ => by omega)
    rw [if_neg (by simp), show (v.natAbs : Int) = v from by omega] at this
    rw [decide_eq_false hv]
    exact this
end Go.Proofs.YtfkkhabpnnealaaGreatDoor

/-
  The contracts of the law's own in, awake and of recastalike.Whole.
-/
namespace Go.Proofs.YtfkkhabpnnealaaGreatDoor
open Go.RowKit
attribute [local go_sem ↓] Go.wp_at_zero Go.wp_at_succ
theorem form_len_lt {r : List Nat} {k : Nat} (h : Form 4294967296 r) (hv : vl 4294967296 r < 4294967296 ^ k) : r.length ≤ k := by
  rcases Nat.lt_or_ge k r.length with h1 | h1
  · have h2 := h.low (by intro h0; rw [h0] at h1; simp at h1)
    have h3 := Nat.pow_le_pow_right (n := 4294967296) (by omega) (show k ≤ r.length - 1 by omega)
    omega
  · exact h1
theorem IntR.open {w : World} {base : Nat} {v : Value} {s : Bool} {N : Nat} (h : IntR w base v s N) (hN : N < 4294967296 ^ 40) :
    ∃ (ao : Option Addr) (k cap : Nat) (r : List Nat), v = .agg #[.bool s, .slice ao k cap] ∧ Sl w ao k cap r ∧ vl 4294967296 r = N ∧ k ≤ 40 := by
  obtain ⟨ao, k, cap, r, e, h1, h2, h3, _⟩ := h.ex
  refine ⟨ao, k, cap, r, e, h1, h3, ?_⟩
  rw [← h1.len]
  exact form_len_lt h2 (by rw [h3]; exact hN)
theorem small_lt {N : Nat} (h : N ≤ 18446744073709551615) : N < 4294967296 ^ 40 := by
  have h1 := Nat.pow_le_pow_right (n := 4294967296) (by omega) (show 2 ≤ 40 by omega)
  have h2 : 4294967296 ^ 2 = 18446744073709551616 := by simp
  omega
theorem decT_uniq {s : Bool} {N : Nat} {D : List Nat} {t : ByteArray} (h : decT s N t) (fd : Form 10 D) (hv : vl 10 D = N) : t = (if N = 0 then ⟨#[48]⟩ else if s then ⟨#[45]⟩ ++ txt D else txt D) := by
  obtain ⟨E, fe, he, ht⟩ := h
  rw [ht, Form.uniq fe fd (he.trans hv.symm)]
theorem dec_m3 {t : ByteArray} (h : decT true 3 t) : t = ⟨#[45, 51]⟩ := by
  rw [decT_uniq (D := [3]) h (by simp [Form]) rfl]; rfl
theorem dec_m1 {t : ByteArray} (h : decT true 1 t) : t = ⟨#[45, 49]⟩ := by
  rw [decT_uniq (D := [1]) h (by simp [Form]) rfl]; rfl
set_option maxRecDepth 100000 in
set_option maxHeartbeats 4000000 in
theorem whole_same (s : Bool) (ao : Option Addr) (n cap : Nat) (l : List Nat) (ap : Option Addr) (capb : Nat) (w : World) (hl : Sl w ao n cap l) (hp : Sl w ap n capb l) :
    Calls Tryz.prog 27 #[.agg #[.bool s, .slice ao n cap], .agg #[.bool s, .slice ap n capb]] w fun e w' => e = .returned (.bool true) ∧ Below w.heap.size w w' := by
  have HL : Hid (Sl w ao n cap l) := hl
  have HP : Hid (Sl w ap n capb l) := hp
  have hmx := hl.mx
  have hle := hl.lec
  have hss : (s != s) = false := by simp
  clear hl hp
  go_enter Tryz.func27, Tryz.ntmps27
  go_wp2_with fail
  obtain ⟨y1, y2, hbW, hzW⟩ := boxes2 w (.bool s) (.slice ao n cap) (.bool s) (.slice ap n capb) 24 24 0 rfl
  have Y1 : Hid (Box _ _ _ _) := y1
  have Y2 : Hid (Box _ _ _ _) := y2
  have HBW : Hid (Below w.heap.size w _) := hbW
  clear y1 y2 hbW hzW
  go_loopw [5] (fun iv wr => ∃ k : Nat, k ≤ n ∧ iv = .int .i64 k ∧ Hid (Box wr w.heap.size (.bool s) (.slice ao n cap)) ∧ Hid (Box wr (w.heap.size + 1) (.bool s) (.slice ap n capb)) ∧ Hid (Below w.heap.size w wr)) (fun iv _ => n - (intOf iv).toNat)
  case atStart => exact ⟨0, Nat.zero_le _, rfl, Y1, Y2, HBW⟩
  case round =>
    clear Y1 Y2 HBW
    obtain ⟨k, hk, rfl, Y1, Y2, HB⟩ := hrel
    have c1 := Y1.out.z1
    have d1 := Y2.out.z1
    by_cases hlt : k < n
    · obtain ⟨bl, ol, rfl, hbl, hcl⟩ := HL.out.at_ (by omega)
      obtain ⟨bp, op, rfl, hbp, hcp⟩ := HP.out.at_ (by omega)
      have hcx := (HB.out.cell (p := ⟨bl, ol + k, none⟩) hbl).trans (hcl k (by omega))
      have hcy := (HB.out.cell (p := ⟨bp, op + k, none⟩) hbp).trans (hcp k (by omega))
      generalize l.getD k 0 = x at hcx hcy
      clear hcl hcp hbl hbp
      go_wp2_with fail
      go_quiet (fail)
      go_wp2_with fail
      go_roundw
      case rel => exact ⟨k + 1, by omega, by go_num, Y1.out.below (below_drews (Below.refl (w.heap.size + 1) _) _) (by omega), Y2.out.below (below_drews (Below.refl (w.heap.size + 1 + 1) _) _) (by omega), below_drews HB.out _⟩
      case measure => simp [intOf]; omega
    · go_wp2_with fail
      go_ret
      exact ⟨rfl, HB.out⟩
/-- two Ints in form of one value are alike -/
theorem whole_any {w : World} {b1 b2 : Nat} {v1 v2 : Value} {s : Bool} {N : Nat} (h1 : IntR w b1 v1 s N) (h2 : IntR w b2 v2 s N) :
    Calls Tryz.prog 27 #[v1, v2] w fun e w' => e = .returned (.bool true) ∧ Below w.heap.size w w' := by
  obtain ⟨ao, k, cap, r, rfl, s1, f1, e1, _⟩ := h1.ex
  obtain ⟨ap, m, capb, p, rfl, s2, f2, e2, _⟩ := h2.ex
  have e : r = p := Form.uniq f1 f2 (e1.trans e2.symm)
  subst e
  obtain rfl : k = m := s1.len.symm.trans s2.len
  exact whole_same s ao k cap r ap capb w s1 s2
end Go.Proofs.YtfkkhabpnnealaaGreatDoor

