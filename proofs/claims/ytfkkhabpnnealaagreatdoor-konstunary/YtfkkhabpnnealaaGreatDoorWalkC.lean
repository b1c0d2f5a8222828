/-
  The contracts of exact's multiplied, compared, large, inForm, limited, sign at every argument, and of bits.Len32.
-/
import Derived.Test.YtfkkhabpnnealaaGreatDoorWalkB
import Derived.Test.YtfkkhabpnnealaaGreatDoorPlnA
import Derived.Test.YtfkkhabpnnealaaGreatDoorShfA
import Derived.BigQuiet
namespace Go.Proofs.YtfkkhabpnnealaaGreatDoor
open Go.RowKit
attribute [local go_sem ↓] Go.wp_at_zero Go.wp_at_succ
open Go.Sort (Holds putRow holds_putRow putRow_self putRow_set cell?_putRow_other)
theorem len32_any (x : Int) (w : World) (h0 : 0 ≤ x) (h1 : x ≤ 4294967295) :
    Calls Tryz.prog 100 #[.int .u32 x] w fun e w' => e = .returned (.int .i64 (Lib.bitLen x.toNat)) ∧ w' = w := Any.bits_Len32 Tryz.lays128 x w h0 h1
theorem win_getD (d : List Nat) (i m j : Nat) (h : j < m) : ((d.drop i).take m).getD j 0 = d.getD (i + j) 0 := by
  simp only [List.getD_eq_getElem?_getD, List.getElem?_take, h, if_true, List.getElem?_drop]
theorem holds_win {w : World} {g : Nat} {d : List Nat} (h : Holds eU w g 0 d.toArray) (i m : Nat) (hi : i + m ≤ d.length) : Holds eU w g i ((d.drop i).take m).toArray := holds_of fun k hk => by
  have hk' : k < m := by simp at hk; omega
  have := holds_cell h (i + k) (by omega)
  rw [win_getD d i m k hk']
  simpa using this
theorem holds_put_win {w : World} {g : Nat} {d r : List Nat} (h : Holds eU w g 0 d.toArray) (i : Nat) (hi : i + r.length ≤ d.length) : Holds eU (putRow eU w g i r.toArray) g 0 (d.take i ++ (r ++ d.drop (i + r.length))).toArray := holds_of fun k hk => by
  have hlen : (d.take i).length = i := by simp; omega
  have hk2 : k < d.length := by simp at hk; omega
  have h0 := holds_cell h k hk2
  rw [Nat.zero_add] at h0 ⊢
  refine ⟨?_, by rw [Go.Sort.frozen?_putRow]; exact h0.2⟩
  by_cases h1 : i ≤ k ∧ k < i + r.length
  · obtain ⟨j, rfl⟩ : ∃ j, k = i + j := ⟨k - i, by omega⟩
    have hw := holds_win h i r.length hi
    have := (holds_cell (holds_putRow eU w g i _ r.toArray hw (by simp; omega)) j (by omega)).1
    rw [this]
    simp only [List.getD_eq_getElem?_getD]
    rw [List.getElem?_append_right (by omega), hlen, Nat.add_sub_cancel_left, List.getElem?_append_left (by omega)]
  · rw [cell?_putRow_other eU w g i _ _ (Or.inr (by simp; omega)), h0.1]
    simp only [List.getD_eq_getElem?_getD]
    rcases Nat.lt_or_ge k i with h2 | h2
    · rw [List.getElem?_append_left (by omega), List.getElem?_take, if_pos h2]
    · rw [List.getElem?_append_right (by omega), hlen, List.getElem?_append_right (by omega), List.getElem?_drop]
      rw [show i + r.length + (k - i - r.length) = k from by omega]
set_option maxRecDepth 100000 in
set_option maxHeartbeats 2000000 in
theorem multiplied_any (ao : Option Addr) (n cap : Nat) (l : List Nat) (ap : Option Addr) (m capb : Nat) (p : List Nat) (w : World) (hl : Sl w ao n cap l) (hp : Sl w ap m capb p) (hn : n ≤ 100000) (hm : m ≤ 100000) :
    Calls Tryz.prog 87 #[.slice ao n cap, .slice ap m capb] w fun e w' => ∃ r, e = .returned (.slice (some ⟨w.heap.size, 0, none⟩) (n + m) (n + m)) ∧ Own w' w.heap.size (some ⟨w.heap.size, 0, none⟩) (n + m) (n + m) r ∧ vl 4294967296 r = vl 4294967296 l * vl 4294967296 p ∧ Holds eU w' w.heap.size 0 r.toArray ∧ w.heap.size < w'.heap.size ∧ Below w.heap.size w w' := by
  have HL : Hid (Sl w ao n cap l) := hl
  have HP : Hid (Sl w ap m capb p) := hp
  clear hl hp
  obtain ⟨i0, hi, hz0, hz1, hz2⟩ := info_parts Tryz.info70
  go_enter Tryz.func87, Tryz.ntmps87
  go_wp2_with (at_make; refine wpList_make_full w rfl (.tmp 12) (.tmp 12) 22 rfl w.heap.size 70 i0 (.int .u32 0) 1 Tryz.underlying22 hi hz0 hz1 .i64 .i64 _ _ (n + m) rfl rfl (by omega) (by omega) (by rw [hz2]; omega) (by unfold maxLen; omega) (Nat.le_refl _) ?_; intro w1 hown hgrow; have hb1 : Hid (Below w.heap.size w w1) := ((Below.refl _ w).grown hgrow (Nat.le_refl _) (by intro k hk; cases hk)); have HO : Hid (w1.heap[w.heap.size]? = some (.cells ((List.replicate (n + m) 0).map eU).toArray 70 (0, 0))) := (by rw [made_zeros] at hown; exact (made_heap hown).1); clear hown hgrow)
  go_loopw [16] (fun i wr => ∃ (k : Nat) (d : List Nat), k ≤ n ∧ i = .int .i64 k ∧ MulR l p k d ∧ Hid (Holds eU wr w.heap.size 0 d.toArray) ∧ Hid (w.heap.size < wr.heap.size) ∧ Hid (Below w.heap.size w wr)) (fun i _ => n - (intOf i).toNat)
  case atStart => exact ⟨0, List.replicate (n + m) 0, Nat.zero_le _, rfl, ⟨by have := HL.out.len; have := HP.out.len; simp; omega, wd_replicate _, by rw [vl_replicate]; simp [vl], by rw [List.drop_replicate, vl_replicate]⟩, (holds_heap HO.out).1, (holds_heap HO.out).2, hb1⟩
  case round =>
    obtain ⟨k, d, hk, rfl, hr, HH, HZ, HB⟩ := hrel
    have HR : Hid (MulR l p k d) := hr
    clear hr
    by_cases hlt : k < n
    · obtain ⟨bl, ol, rfl, hbl, hcl⟩ := HL.out.at_ (by omega)
      have hcx := (HB.out.cell (p := ⟨bl, ol + k, none⟩) hbl).trans (hcl k hlt)
      obtain ⟨x, hx⟩ : ∃ x, x = l.getD k 0 := ⟨_, rfl⟩
      rw [← hx] at hcx
      have hxb : x ≤ 4294967295 := by have := HL.out.wd.at (by omega) k; omega
      have HX : Hid (x = l.getD k 0) := hx
      clear hx hcl hbl
      go_wp2_with fail
      refine (addTimes_any w.heap.size k (k + m + 1 - k) (n + m - k) ((d.drop k).take (m + 1)) ap m capb p x wr (holds_win HH.out k (m + 1) (by rw [HR.out.len, HL.out.len, HP.out.len]; omega)) (by have := HR.out.len; have := HL.out.len; have := HP.out.len; simp; omega) ((HR.out.wd.drop k).take _) (HP.out.below HB.out (Nat.le_refl _)) (HP.out.apart (Nat.le_refl _)) hxb (by omega)).mono ?_
      rintro e w3 ⟨r, c, rfl, rfl, hr⟩
      rw [show k + m + 1 - k = m + 1 from by omega] at hr
      have H3 : Hid (AddR ((d.drop k).take (m + 1)) p x (m + 1) r c) := hr
      clear hr
      go_wp2
      go_roundw
      case rel =>
        have e1 := HL.out.len
        have e2 := HP.out.len
        have e3 := HR.out.len
        have e4 := H3.out.len
        have e5 := H3.out.full (by simp; omega) (by omega)
        subst e2
        exact ⟨k + 1, d.take k ++ (r ++ d.drop (k + (p.length + 1))), by omega, by go_num, HR.out.step (by omega) HP.out.wd HL.out.wd e4 H3.out.wd (by rw [← HX.out]; exact e5), by have := holds_put_win (r := r) HH.out k (by omega); rw [e4] at this; exact this, by have := HZ.out; simpa [Hid] using this, below_putRow HB.out (Nat.le_refl _) _ _⟩
      case measure => simp [intOf]; omega
    · go_wp2
      go_ret
      obtain rfl : k = n := by omega
      have e1 := HL.out.len
      have e2 := HP.out.len
      exact ⟨d, rfl, Own.of_holds (by rw [HR.out.len]; omega) (Nat.le_refl _) (by omega) HR.out.wd (Nat.le_refl _) HZ.out HH.out, by rw [HR.out.eq, List.take_of_length_le (by omega)], HH.out, HZ.out, HB.out⟩
theorem below_drews {B : Nat} {a w : World} (h : Below B a w) (n : Nat) : Below B a (w.drewN n) := ⟨h.os, h.tape, h.output, h.size, h.block⟩
set_option maxRecDepth 100000 in
set_option maxHeartbeats 2000000 in
theorem compared_any (ao : Option Addr) (n cap : Nat) (l : List Nat) (ap : Option Addr) (m capb : Nat) (p : List Nat) (w : World) (hl : Sl w ao n cap l) (hp : Sl w ap m capb p) (fl : Form 4294967296 l) (fp : Form 4294967296 p) (hn : n ≤ 1000000) (hm : m ≤ 1000000) :
    Calls Tryz.prog 69 #[.slice ao n cap, .slice ap m capb] w fun e w' => e = .returned (.int .i64 (cmpI (vl 4294967296 l) (vl 4294967296 p))) ∧ Below w.heap.size w w' := by
  have HL : Hid (Sl w ao n cap l) := hl
  have HP : Hid (Sl w ap m capb p) := hp
  have e1 := hl.len
  have e2 := hp.len
  clear hl hp
  rcases Nat.lt_trichotomy n m with hlt | rfl | hlt
  · have hv := Form.len_lt (e := 4294967296) (by omega) fl.wd fp (by omega)
    have HE : Hid (cmpI (vl 4294967296 l) (vl 4294967296 p) = cmpI n m) := by show _ = _; rw [cmpI_lt (by omega), cmpI_lt (by omega)]
    clear hv e1 e2
    go_enter Tryz.func69, Tryz.ntmps69
    go_wp2_with (go_at_call 68; refine (cmpInt_any _ _ _).mono ?_; rintro e w' ⟨rfl, rfl⟩)
    go_ret
    exact ⟨ret_int HE.out.symm, Below.refl _ _⟩
  · have E1 : Hid (l.length = n) := e1
    have E2 : Hid (p.length = n) := e2
    clear e1 e2
    go_enter Tryz.func69, Tryz.ntmps69
    go_wp2
    go_loopw [5] (fun i wr => ∃ j : Nat, j ≤ n ∧ i = .int .i64 ((j : Int) - 1) ∧ Hid (l.drop j = p.drop j) ∧ Hid (Below w.heap.size w wr)) (fun i _ => (intOf i + 1).toNat)
    case atStart => exact ⟨n, Nat.le_refl _, rfl, by show _ = _; rw [List.drop_of_length_le (by have := E1.out; omega), List.drop_of_length_le (by have := E2.out; omega)], Below.refl _ _⟩
    case round =>
      obtain ⟨j, hj, rfl, HD, HB⟩ := hrel
      by_cases hlt : 0 < j
      · obtain ⟨i, rfl⟩ : ∃ i, j = i + 1 := ⟨j - 1, by omega⟩
        obtain ⟨bl, ol, rfl, hbl, hcl⟩ := HL.out.at_ (by omega)
        obtain ⟨bp, op, rfl, hbp, hcp⟩ := HP.out.at_ (by omega)
        have hcx := (HB.out.cell (p := ⟨bl, ol + i, none⟩) hbl).trans (hcl i (by omega))
        have hcy := (HB.out.cell (p := ⟨bp, op + i, none⟩) hbp).trans (hcp i (by omega))
        obtain ⟨x, hx⟩ : ∃ x, x = l.getD i 0 := ⟨_, rfl⟩
        obtain ⟨y, hy⟩ : ∃ y, y = p.getD i 0 := ⟨_, rfl⟩
        rw [← hx] at hcx
        rw [← hy] at hcy
        have HX : Hid (x = l.getD i 0) := hx
        have HY : Hid (y = p.getD i 0) := hy
        clear hx hy hcl hcp hbl hbp
        rcases Nat.lt_trichotomy x y with hxy | rfl | hxy
        · have HV : Hid (cmpI (vl 4294967296 l) (vl 4294967296 p) = cmpI x y) := by
            have := vl_lt_of_top l p (E1.out.trans E2.out.symm) fl.wd i (by rw [E1.out]; omega) HD.out (by rw [← HX.out, ← HY.out]; exact hxy)
            show _ = _
            rw [cmpI_lt (by omega), cmpI_lt (by omega)]
          go_wp2
          go_quiet (fail)
          go_wp2
          generalize hwq : wr.drewN _ = wq
          have hcx2 : wq.cell? ⟨bl, ol + i, none⟩ = some (.int .u32 x) := by rw [← hwq]; exact hcx
          have hcy2 : wq.cell? ⟨bp, op + i, none⟩ = some (.int .u32 y) := by rw [← hwq]; exact hcy
          have HB2 : Hid (Below w.heap.size w wq) := by rw [← hwq]; exact below_drews HB.out _
          clear hwq hcx hcy
          go_quiet ((go_at_call 90; exact Calls.quiet_of_same (cmpU32_any _ _ _)))
          go_wp2
          go_ret
          exact ⟨ret_int HV.out.symm, below_drews HB2.out _⟩
        · go_wp2
          go_quiet (fail)
          go_wp2
          go_roundw
          case rel => exact ⟨i, by omega, by go_num, drop_eq_step (E1.out.trans E2.out.symm) i (by rw [E1.out]; omega) HD.out (by rw [← HX.out, ← HY.out]), below_drews HB.out _⟩
          case measure => simp [intOf]
        · have HV : Hid (cmpI (vl 4294967296 l) (vl 4294967296 p) = cmpI x y) := by
            have := vl_lt_of_top p l (E2.out.trans E1.out.symm) fp.wd i (by rw [E2.out]; omega) HD.out.symm (by rw [← HX.out, ← HY.out]; exact hxy)
            show _ = _
            rw [cmpI_gt (by omega), cmpI_gt (by omega)]
          go_wp2
          go_quiet (fail)
          go_wp2
          generalize hwq : wr.drewN _ = wq
          have hcx2 : wq.cell? ⟨bl, ol + i, none⟩ = some (.int .u32 x) := by rw [← hwq]; exact hcx
          have hcy2 : wq.cell? ⟨bp, op + i, none⟩ = some (.int .u32 y) := by rw [← hwq]; exact hcy
          have HB2 : Hid (Below w.heap.size w wq) := by rw [← hwq]; exact below_drews HB.out _
          clear hwq hcx hcy
          go_quiet ((go_at_call 90; exact Calls.quiet_of_same (cmpU32_any _ _ _)))
          go_wp2
          go_ret
          exact ⟨ret_int HV.out.symm, below_drews HB2.out _⟩
      · go_wp2
        go_ret
        obtain rfl : j = 0 := by omega
        exact ⟨ret_int (by rw [show l = p from by simpa using HD.out]; exact (cmpI_eq rfl).symm), HB.out⟩
  · have hv := Form.len_lt (e := 4294967296) (by omega) fp.wd fl (by omega)
    have HE : Hid (cmpI (vl 4294967296 l) (vl 4294967296 p) = cmpI n m) := by show _ = _; rw [cmpI_gt (by omega), cmpI_gt (by omega)]
    clear hv e1 e2
    go_enter Tryz.func69, Tryz.ntmps69
    go_wp2_with (go_at_call 68; refine (cmpInt_any _ _ _).mono ?_; rintro e w' ⟨rfl, rfl⟩)
    go_ret
    exact ⟨ret_int HE.out.symm, Below.refl _ _⟩
theorem bitLenAux_bounds : ∀ f x : Nat, x < 2 ^ f → x < 2 ^ Lib.bitLenAux f x ∧ (x ≠ 0 → 2 ^ Lib.bitLenAux f x ≤ 2 * x)
  | 0, x, h => by
    have : x = 0 := by simpa using h
    subst this
    simp [Lib.bitLenAux]
  | f + 1, x, h => by
    simp only [Lib.bitLenAux]
    by_cases h0 : x = 0
    · subst h0; simp
    · rw [if_neg h0]
      have h1 := bitLenAux_bounds f (x / 2) (by rw [Nat.pow_succ] at h; omega)
      rw [Nat.add_comm, Nat.pow_succ]
      refine ⟨by omega, fun _ => ?_⟩
      by_cases h2 : x / 2 = 0
      · have : Lib.bitLenAux f (x / 2) = 0 := by rw [h2]; cases f <;> simp [Lib.bitLenAux]
        rw [this]; omega
      · have := h1.2 h2; omega
theorem bitLen_bounds (x : Nat) (h : x < 4294967296) : x < 2 ^ Lib.bitLen x ∧ (x ≠ 0 → 2 ^ Lib.bitLen x ≤ 2 * x) ∧ Lib.bitLen x ≤ 32 :=
  have h1 := bitLenAux_bounds 64 x (Nat.lt_of_lt_of_le h (by simp))
  ⟨h1.1, h1.2, Lib.bitLen_le x 32 (by omega) (by simpa using h)⟩
def bigN (n : Nat) : Bool := decide (4294967296 ^ 16 ≤ n)
theorem pow_word (k : Nat) : 4294967296 ^ k = 2 ^ (k * 32) := by
  rw [Nat.mul_comm, Nat.pow_mul]
theorem big_iff (E : Nat) (l : List Nat) (fl : Form 4294967296 l) (i : Nat) (hl : l.length = i + 1) (x : Nat) (hx : x = l.getD i 0) : E < i * 32 + Lib.bitLen x ↔ 2 ^ E ≤ vl 4294967296 l := by
  have hx0 : x ≠ 0 := by
    have h1 := fl.low (by intro h; subst h; simp at hl)
    intro h0
    rw [← List.take_of_length_le (show l.length ≤ i + 1 by omega), vl_take_succ _ _ _ (by omega), ← hx, h0] at h1
    have h2 := vl_lt 4294967296 (l.take i) (fl.wd.take i)
    rw [show (l.take i).length = i from by simp; omega] at h2
    rw [show (l.take (i + 1)).length - 1 = i from by simp; omega] at h1
    omega
  have hxb : x < 4294967296 := by rw [hx]; exact fl.wd.at (by omega) i
  obtain ⟨b1, b2, b3⟩ := bitLen_bounds x hxb
  have b2 := b2 hx0
  have hv : vl 4294967296 l = vl 4294967296 (l.take i) + 4294967296 ^ i * x := by
    have := vl_take_succ 4294967296 l i (by omega)
    rw [List.take_of_length_le (by omega), ← hx] at this
    exact this
  have h2 := vl_lt 4294967296 (l.take i) (fl.wd.take i)
  rw [show (l.take i).length = i from by simp; omega] at h2
  have hup : vl 4294967296 l < 2 ^ (i * 32 + Lib.bitLen x) := by
    rw [Nat.pow_add, ← pow_word]
    have := Nat.mul_le_mul_left (4294967296 ^ i) (show x + 1 ≤ 2 ^ Lib.bitLen x from b1)
    rw [Nat.mul_add] at this
    omega
  have hlo : 2 ^ (i * 32 + Lib.bitLen x) ≤ 2 * vl 4294967296 l := by
    rw [Nat.pow_add, ← pow_word]
    have := Nat.mul_le_mul_left (4294967296 ^ i) b2
    rw [← Nat.mul_assoc, Nat.mul_comm _ 2, Nat.mul_assoc] at this
    omega
  constructor
  · intro h
    have h3 : 2 ^ (E + 1) ≤ 2 ^ (i * 32 + Lib.bitLen x) := Nat.pow_le_pow_right (by omega) (by omega)
    rw [Nat.pow_succ] at h3
    omega
  · intro h
    rcases Nat.lt_or_ge E (i * 32 + Lib.bitLen x) with h3 | h3
    · exact h3
    · have := Nat.pow_le_pow_right (n := 2) (by omega) h3
      omega
theorem big_ret {i L v : Nat} (h : 16 * 32 < i * 32 + L ↔ 4294967296 ^ 16 ≤ v) : decide (512 < (i : Int) * 32 + (L : Int)) = bigN v := by
  unfold bigN
  by_cases h1 : 16 * 32 < i * 32 + L
  · rw [decide_eq_true (h.1 h1)]; exact decide_eq_true (by omega)
  · rw [decide_eq_false (fun h2 => h1 (h.2 h2))]; exact decide_eq_false (by omega)
set_option maxRecDepth 100000 in
set_option maxHeartbeats 1000000 in
theorem large_any (ao : Option Addr) (n cap : Nat) (l : List Nat) (w : World) (hl : Sl w ao n cap l) (fl : Form 4294967296 l) (hn : n ≤ 1000000) :
    Calls Tryz.prog 83 #[.slice ao n cap] w fun e w' => e = .returned (.bool (bigN (vl 4294967296 l))) ∧ w' = w := by
  have HL : Hid (Sl w ao n cap l) := hl
  clear hl
  rcases Nat.eq_zero_or_pos n with h0 | h0
  · subst h0
    have e : l = [] := List.eq_nil_of_length_eq_zero HL.out.len
    have HE : Hid (bigN (vl 4294967296 l) = false) := by subst e; show _ = _; simp [bigN, vl]
    clear e
    go_enter Tryz.func83, Tryz.ntmps83
    go_wp2
    go_ret
    exact ⟨ret_bool HE.out.symm, rfl⟩
  · obtain ⟨bl, ol, rfl, hbl, hcl⟩ := HL.out.at_ (by omega)
    obtain ⟨i, rfl⟩ : ∃ i, n = i + 1 := ⟨n - 1, by omega⟩
    have hcx := hcl i (by omega)
    obtain ⟨x, hx⟩ : ∃ x, x = l.getD i 0 := ⟨_, rfl⟩
    rw [← hx] at hcx
    have hxb : x < 4294967296 := by rw [hx]; exact fl.wd.at (by omega) i
    have HB : Hid (16 * 32 < i * 32 + Lib.bitLen x ↔ 4294967296 ^ 16 ≤ vl 4294967296 l) := by rw [pow_word 16]; exact big_iff (16 * 32) l fl i HL.out.len x hx
    obtain ⟨_, _, b3⟩ := bitLen_bounds x hxb
    clear hx hcl hbl
    have hxb2 : x ≤ 4294967295 := by omega
    clear hxb
    obtain ⟨L, hL⟩ : ∃ L, L = Lib.bitLen x := ⟨_, rfl⟩
    rw [← hL] at b3
    have HLx : Hid (L = Lib.bitLen x) := hL
    clear hL
    go_enter Tryz.func83, Tryz.ntmps83
    go_wp2_with (go_at_call 100; refine (len32_any _ _ (by omega) (by omega)).mono ?_; rintro e w' ⟨rfl, rfl⟩; rw [Int.toNat_natCast, ← HLx.out])
    go_ret
    exact ⟨ret_bool (big_ret (by rw [HLx.out]; exact HB.out)), rfl⟩
/-- the sign of a number in form -/
def sgB (neg : Bool) (N : Nat) : Bool := neg && decide (N ≠ 0)
theorem sgB_zero (neg : Bool) : sgB neg 0 = false := by simp [sgB]
theorem sgB_pos {neg : Bool} {N : Nat} (h : N ≠ 0) : sgB neg N = neg := by simp [sgB, h]
def sgI (neg : Bool) (N : Nat) : Int := if sgB neg N then -1 else 1
def cutN (N : Nat) : Nat := if bigN N then 0 else N
def eBig (N : Nat) : Int := if bigN N then 2 else 0
theorem pair_cells {w w2 : World} {c0 c1 : Value} {t : TypeId} (hb : Below (w.alloc (.cells #[c0, c1] t)).heap.size (w.alloc (.cells #[c0, c1] t)) w2) :
    w2.cell? ⟨w.heap.size, 0, none⟩ = some c0 ∧ w2.frozen? ⟨w.heap.size, 0, none⟩ = false ∧ w2.cell? ⟨w.heap.size, 1, none⟩ = some c1 ∧ w2.frozen? ⟨w.heap.size, 1, none⟩ = false := by
  have hlt : w.heap.size < (w.alloc (.cells #[c0, c1] t)).heap.size := by simp
  rw [hb.cell (p := ⟨w.heap.size, 0, none⟩) hlt, hb.cell (p := ⟨w.heap.size, 1, none⟩) hlt, hb.frozen (p := ⟨w.heap.size, 0, none⟩) hlt, hb.frozen (p := ⟨w.heap.size, 1, none⟩) hlt]
  rw [World.cell?_alloc_new, World.cell?_alloc_new, World.frozen?_alloc_new, World.frozen?_alloc_new]
  exact ⟨rfl, rfl, rfl, rfl⟩
/-- an Int that reads as the sign s and the words of N, in form, and lies above base -/
structure IntR (w : World) (base : Nat) (v : Value) (s : Bool) (N : Nat) : Prop where
  ex : ∃ (ao : Option Addr) (k cap : Nat) (r : List Nat), v = .agg #[.bool s, .slice ao k cap] ∧ Sl w ao k cap r ∧ Form 4294967296 r ∧ vl 4294967296 r = N ∧ (0 < k → ∃ b off, ao = some ⟨b, off, none⟩ ∧ base ≤ b)
theorem IntR.below {w w' : World} {base : Nat} {v : Value} {s : Bool} {N : Nat} (h : IntR w base v s N) {B : Nat} (hb : Below B w w') (hB : w.heap.size ≤ B) : IntR w' base v s N := by
  obtain ⟨ao, k, cap, r, e, h1, h2, h3, h4⟩ := h.ex
  exact ⟨ao, k, cap, r, e, h1.below hb hB, h2, h3, h4⟩
theorem IntR.mono {w : World} {base base' : Nat} {v : Value} {s : Bool} {N : Nat} (h : IntR w base v s N) (hb : base' ≤ base) : IntR w base' v s N := by
  obtain ⟨ao, k, cap, r, e, h1, h2, h3, h4⟩ := h.ex
  exact ⟨ao, k, cap, r, e, h1, h2, h3, fun h0 => by obtain ⟨b, off, e, h5⟩ := h4 h0; exact ⟨b, off, e, by omega⟩⟩
theorem IntR.setCell {w : World} {base : Nat} {v : Value} {s : Bool} {N : Nat} (h : IntR w base v s N) {a : Addr} (ha : a.block < base) (u : Value) : IntR (w.setCell a u) base v s N := by
  obtain ⟨ao, k, cap, r, e, h1, h2, h3, h4⟩ := h.ex
  refine ⟨ao, k, cap, r, e, ⟨h1.len, h1.lec, h1.mx, h1.wd, fun h0 => ?_⟩, h2, h3, h4⟩
  obtain ⟨b, off, e1, h5, h6⟩ := h1.at_ h0
  obtain ⟨b', off', e2, h7⟩ := h4 h0
  rw [e1] at e2; cases e2
  refine ⟨b, off, e1, by simpa using h5, fun j hj => ?_⟩
  rw [World.cell?_setCell_other _ _ _ _ (fun e => by subst e; simp at ha; omega)]
  exact h6 j hj
theorem IntR.zero (w : World) (base : Nat) : IntR w base (.agg #[.bool false, .slice none 0 0]) false 0 := ⟨none, 0, 0, [], rfl, Sl.nil w, trivial, rfl, fun h => by omega⟩
theorem vl_zero_form {l : List Nat} (h : Form 4294967296 l) (h0 : l.length ≠ 0) : vl 4294967296 l ≠ 0 := by
  have := h.low (by intro h1; subst h1; simp at h0)
  have : 0 < 4294967296 ^ (l.length - 1) := Nat.pow_pos (by omega)
  omega
/-- v is an Int in form of the value N whose words lie among those of a slice -/
structure FormR (ao : Option Addr) (n cap : Nat) (l : List Nat) (v : Value) (s : Bool) (N : Nat) : Prop where
  ex : ∃ (ao' : Option Addr) (k cap' : Nat) (r : List Nat), v = .agg #[.bool s, .slice ao' k cap'] ∧ Form 4294967296 r ∧ vl 4294967296 r = N ∧ (∀ w0, Sl w0 ao n cap l → Sl w0 ao' k cap' r) ∧ (0 < k → ao' = ao ∧ 0 < n)
theorem FormR.int {ao : Option Addr} {n cap : Nat} {l : List Nat} {v : Value} {s : Bool} {N : Nat} (h : FormR ao n cap l v s N) {w : World} (hw : Sl w ao n cap l) {base : Nat} (hb : 0 < n → ∃ b off, ao = some ⟨b, off, none⟩ ∧ base ≤ b) : IntR w base v s N := by
  obtain ⟨ao', k, cap', r, e, h1, h2, h3, h4⟩ := h.ex
  exact ⟨ao', k, cap', r, e, h3 w hw, h1, h2, fun h0 => by obtain ⟨rfl, h5⟩ := h4 h0; exact hb h5⟩
theorem Own.base {w : World} {base : Nat} {ao : Option Addr} {n cap : Nat} {l : List Nat} (h : Own w base ao n cap l) : 0 < n → ∃ b off, ao = some ⟨b, off, none⟩ ∧ base ≤ b := fun h0 => by
  obtain ⟨b, e, h1, _⟩ := h.own h0
  exact ⟨b, 0, e, h1⟩
theorem FormR.zero (ao : Option Addr) (n cap : Nat) (l : List Nat) : FormR ao n cap l (.agg #[.bool false, .slice none 0 0]) false 0 := ⟨none, 0, 0, [], rfl, trivial, rfl, fun w _ => Sl.nil w, fun h => by omega⟩
set_option maxRecDepth 100000 in
set_option maxHeartbeats 1000000 in
theorem inForm_any (neg : Bool) (ao : Option Addr) (n cap : Nat) (l : List Nat) (w : World) (hl : Sl w ao n cap l) :
    Calls Tryz.prog 46 #[.bool neg, .slice ao n cap] w fun e w' => ∃ v, e = .returned v ∧ FormR ao n cap l v (sgB neg (vl 4294967296 l)) (vl 4294967296 l) ∧ Below w.heap.size w w' := by
  have HL : Hid (Sl w ao n cap l) := hl
  clear hl
  go_enter Tryz.func46, Tryz.ntmps46
  go_wp2_with fail
  refine (trimmed_any ao n cap l _ (HL.out.below ((Below.refl _ _).alloc (Nat.le_refl _) _) (Nat.le_refl _))).mono ?_
  rintro e w' ⟨k, rfl, rfl, ht⟩
  have HT : Hid (TrimP l k) := ht
  clear ht
  by_cases h0 : k = 0
  · subst h0
    go_wp2
    have hv : vl 4294967296 l = 0 := by rw [← HT.out.val]; rfl
    refine bodyPost_ret (v := .agg #[.bool false, .slice none 0 0]) (by simp [results, Tryz.results46, go_sem]) rfl ⟨_, rfl, ?_, ?_⟩
    · rw [hv, sgB_zero]; exact FormR.zero _ _ _ _
    · exact (Below.refl _ _).alloc (Nat.le_refl _) _
  · go_wp2
    have hle := HT.out.le
    have hv := vl_zero_form (HT.out.form HL.out.wd) (by rw [List.length_take]; omega)
    rw [HT.out.val] at hv
    have hlen := HL.out.len
    refine bodyPost_ret (v := .agg #[.bool neg, .slice ao k cap]) (by simp [results, Tryz.results46, go_sem]) rfl ⟨_, rfl, ⟨ao, k, cap, l.take k, ?_, HT.out.form HL.out.wd, HT.out.val, fun w0 h => h.take k (by omega), fun _ => ⟨rfl, by omega⟩⟩, ?_⟩
    · rw [sgB_pos hv]
    · exact (Below.refl _ _).alloc (Nat.le_refl _) _
set_option maxRecDepth 100000 in
set_option maxHeartbeats 1000000 in
theorem limited_any (neg : Bool) (ao : Option Addr) (n cap : Nat) (l : List Nat) (w : World) (hl : Sl w ao n cap l) (hn : n ≤ 1000000) :
    Calls Tryz.prog 84 #[.bool neg, .slice ao n cap] w fun e w' => ∃ v, e = .returned (.tuple #[v, .int .i64 (eBig (vl 4294967296 l))]) ∧ FormR ao n cap l v (sgB neg (cutN (vl 4294967296 l))) (cutN (vl 4294967296 l)) ∧ Below w.heap.size w w' := by
  have HL : Hid (Sl w ao n cap l) := hl
  clear hl
  cases hbig : bigN (vl 4294967296 l)
  all_goals
    have HG : Hid (bigN (vl 4294967296 l) = _) := hbig
    clear hbig
    go_enter Tryz.func84, Tryz.ntmps84
    go_wp2_with fail
    refine (trimmed_any ao n cap l _ (HL.out.below ((Below.refl _ _).alloc (Nat.le_refl _) _) (Nat.le_refl _))).mono ?_
    rintro e w' ⟨k, rfl, rfl, ht⟩
    have HT : Hid (TrimP l k) := ht
    have hk : k ≤ n := by have := ht.le; have := HL.out.len; omega
    clear ht
    go_wp2_with fail
    refine (large_any ao k cap (l.take k) _ ((HL.out.take k hk).below ((Below.refl _ _).alloc (Nat.le_refl _) _) (Nat.le_refl _)) (HT.out.form HL.out.wd) (by omega)).mono ?_
    rintro e w' ⟨rfl, rfl⟩
    rw [HT.out.val, HG.out]
  · go_wp2_with fail
    refine (inForm_any neg ao n cap l _ (HL.out.below ((Below.refl _ _).alloc (Nat.le_refl _) _) (Nat.le_refl _))).mono ?_
    rintro e w2 ⟨v, rfl, hi, hb⟩
    have HI : Hid (FormR ao n cap l v _ _) := hi
    obtain ⟨ao', k', cap', r, rfl, h1, h2, h3, h4⟩ := hi.ex
    obtain ⟨hc0, hf0, hc1, hf1⟩ := pair_cells hb
    have HB : Hid (Below w.heap.size w w2) := ((Below.refl _ _).alloc (Nat.le_refl _) _).trans (hb.mono (by simp))
    generalize hsg : sgB neg (vl 4294967296 l) = sg at *
    have HSG : Hid (sgB neg (vl 4294967296 l) = sg) := hsg
    clear h1 h2 h3 h4 hb hi hsg
    go_wp2_with fail
    refine bodyPost_ret (v := .tuple #[.agg #[.bool sg, .slice ao' k' cap'], .int .i64 0]) (by simp [results, Tryz.results84, go_sem, hc0, hc1]) rfl ⟨.agg #[.bool sg, .slice ao' k' cap'], ?_, ?_, ?_⟩
    · rw [show eBig (vl 4294967296 l) = 0 from by simp [eBig, HG.out]]
    · rw [show cutN (vl 4294967296 l) = vl 4294967296 l from by simp [cutN, HG.out], HSG.out]
      exact HI.out
    · exact (HB.out.setCell (p := ⟨w.heap.size, 0, none⟩) (Nat.le_refl _) _).setCell (p := ⟨w.heap.size, 1, none⟩) (Nat.le_refl _) _
  · go_wp2
    refine bodyPost_ret (v := .tuple #[.agg #[.bool false, .slice none 0 0], .int .i64 2]) (by simp [results, Tryz.results84, go_sem]) rfl ⟨.agg #[.bool false, .slice none 0 0], ?_, ?_, ?_⟩
    · rw [show eBig (vl 4294967296 l) = 2 from by simp [eBig, HG.out]]
    · rw [show cutN (vl 4294967296 l) = 0 from by simp [cutN, HG.out], sgB_zero]; exact FormR.zero _ _ _ _
    · exact (Below.refl _ _).alloc (Nat.le_refl _) _
set_option maxRecDepth 100000 in
set_option maxHeartbeats 1000000 in
theorem sign_any (s : Bool) (ao : Option Addr) (n cap : Nat) (l : List Nat) (w : World) (hl : Sl w ao n cap l) :
    Calls Tryz.prog 67 #[.agg #[.bool s, .slice ao n cap]] w fun e w' => e = .returned (.int .i64 (sgI s (vl 4294967296 l))) ∧ Below w.heap.size w w' := by
  have HL : Hid (Sl w ao n cap l) := hl
  clear hl
  cases s
  · go_enter Tryz.func67, Tryz.ntmps67
    go_wp2
    go_ret
    exact ⟨ret_int rfl, (Below.refl _ _).alloc (Nat.le_refl _) _⟩
  · go_enter Tryz.func67, Tryz.ntmps67
    go_wp2_with fail
    refine (trimmed_any ao n cap l _ (HL.out.below ((Below.refl _ _).alloc (Nat.le_refl _) _) (Nat.le_refl _))).mono ?_
    rintro e w' ⟨k, rfl, rfl, ht⟩
    have HT : Hid (TrimP l k) := ht
    clear ht
    by_cases h0 : k = 0
    · subst h0
      go_wp2
      go_ret
      have hv : vl 4294967296 l = 0 := by rw [← HT.out.val]; rfl
      exact ⟨ret_int (by rw [hv]; rfl), (Below.refl _ _).alloc (Nat.le_refl _) _⟩
    · go_wp2
      go_ret
      have hle := HT.out.le
      have hv := vl_zero_form (HT.out.form HL.out.wd) (by rw [List.length_take]; omega)
      rw [HT.out.val] at hv
      exact ⟨ret_int (by simp [sgI, sgB_pos hv]), (Below.refl _ _).alloc (Nat.le_refl _) _⟩
end Go.Proofs.YtfkkhabpnnealaaGreatDoor

