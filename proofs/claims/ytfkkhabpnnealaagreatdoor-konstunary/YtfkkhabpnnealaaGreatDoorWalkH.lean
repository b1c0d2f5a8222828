/-
  The contract of exact's divided at every argument.
-/
import Derived.Test.YtfkkhabpnnealaaGreatDoorWalkG
namespace Go.Proofs.YtfkkhabpnnealaaGreatDoor
open Go.RowKit
attribute [local go_sem ↓] Go.wp_at_zero Go.wp_at_succ
open Go.Sort (Holds putRow holds_putRow putRow_self putRow_set cell?_putRow_other putRow_putRow)
theorem holds_put_other {w : World} {g o b off : Nat} {d : Array Nat} {r : Array Nat} (h : Holds eU w g o d) (hne : g ≠ b) : Holds eU (putRow eU w b off r) g o d := fun j hj => by
  rw [cell?_putRow_other eU w b off r _ (Or.inl hne), Go.Sort.frozen?_putRow]
  exact h j hj
theorem holds_set_other {w : World} {g o : Nat} {d : Array Nat} {a : Addr} {u : Value} (h : Holds eU w g o d) (hne : g ≠ a.block) : Holds eU (w.setCell a u) g o d := fun j hj => by
  rw [World.cell?_setCell_other _ _ _ _ (fun e => by subst e; exact hne rfl), World.frozen?_setCell]
  exact h j hj
theorem holds_set {w : World} {g i t : Nat} {q : List Nat} {z : Int} (h : Holds eU w g 0 q.toArray) (hi : i < q.length) (hz : z = (t : Int)) : Holds eU (w.setCell ⟨g, i, none⟩ (.int .u32 z)) g 0 (q.set i t).toArray := by
  subst hz
  have h1 := putRow_set eU w g 0 q.toArray i t (by simpa using hi)
  rw [putRow_self eU w g 0 q.toArray h, Nat.zero_add] at h1
  have h2 := holds_putRow eU w g 0 q.toArray (q.toArray.setIfInBounds i t) h (by simp)
  rw [← h1] at h2
  rw [List.setIfInBounds_toArray] at h2
  exact h2
theorem sl_holds {w : World} {g n cap : Nat} {l : List Nat} (h : Holds eU w g 0 l.toArray) (hg : g < w.heap.size) (hl : n ≤ l.length) (hc : n ≤ cap) (hm : cap ≤ 9223372036854775807) (hw : Wd 4294967296 l) : Sl w (some ⟨g, 0, none⟩) n cap (l.take n) :=
  ⟨by simp; omega, hc, hm, hw.take n, fun _ => ⟨g, 0, rfl, hg, fun j hj => by rw [getD_take l n j hj]; exact (holds_cell h j (by omega)).1⟩⟩
theorem cells_one (w : World) (x : Nat) (hx : x < 4294967296) : Sl (w.alloc (.cells #[.int .u32 (x : Int)] 70)) (some ⟨w.heap.size, 0, none⟩) 1 1 [x] := by
  refine ⟨rfl, Nat.le_refl _, by omega, by simpa [Wd] using hx, fun _ => ⟨w.heap.size, 0, rfl, by simp, fun j hj => ?_⟩⟩
  obtain rfl : j = 0 := by omega
  rw [World.cell?_alloc_new]; rfl
/-- what grows by the factor f has the same number of words -/
theorem tk_scaled {p p0 : List Nat} {k f L : Nat} (fp : Form 4294967296 p) (hp : p.length = k + 1) (w0 : Wd 4294967296 p0) (hz : p.getD k 0 < 2 ^ L) (hL : L ≤ 32) (hf : f = 2 ^ (32 - L)) (hv : vl 4294967296 p0 = vl 4294967296 p * f) :
    tk p0 = k + 1 ∧ vl 4294967296 p * f < 4294967296 ^ (k + 1) := by
  have hf0 : 0 < f := by rw [hf]; exact Nat.pow_pos (by omega)
  have h1 := fp.low (by intro h; rw [h] at hp; simp at hp)
  rw [show p.length - 1 = k from by omega] at h1
  have hP : vl 4294967296 p = vl 4294967296 (p.take k) + 4294967296 ^ k * p.getD k 0 := by
    have := vl_take_succ 4294967296 p k (by omega)
    rwa [List.take_of_length_le (by omega)] at this
  have h2 := vl_lt 4294967296 (p.take k) (fp.wd.take k)
  rw [show (p.take k).length = k from by simp; omega] at h2
  have h3 : vl 4294967296 p < 4294967296 ^ k * 2 ^ L := by
    have := Nat.mul_le_mul_left (4294967296 ^ k) (show p.getD k 0 + 1 ≤ 2 ^ L from hz)
    rw [Nat.mul_add] at this
    omega
  have h4 : 2 ^ L * f = 4294967296 := by rw [hf, ← Nat.pow_add, show L + (32 - L) = 32 from by omega]
  have h5 : vl 4294967296 p * f < 4294967296 ^ (k + 1) := by
    have := Nat.mul_lt_mul_of_pos_right h3 hf0
    rw [Nat.mul_assoc, h4] at this
    rw [Nat.pow_succ]
    exact this
  refine ⟨?_, h5⟩
  have ft := trim_form w0
  have hvt := trim_val p0
  have hle := (tk_trim p0).le
  have hlen : (p0.take (tk p0)).length = tk p0 := by simp; omega
  have h6 : vl 4294967296 (p0.take (tk p0)) = vl 4294967296 p * f := by rw [hvt, hv]
  have h7 : 4294967296 ^ k ≤ vl 4294967296 p * f := Nat.le_trans h1 (Nat.le_mul_of_pos_right _ hf0)
  have h8 := vl_lt 4294967296 _ ft.wd
  rw [h6, hlen] at h8
  rcases Nat.lt_trichotomy (tk p0) (k + 1) with h | h | h
  · have := Nat.pow_le_pow_right (n := 4294967296) (by omega) (show tk p0 ≤ k by omega)
    omega
  · exact h
  · have h9 := ft.low (by intro h0; rw [h0] at hlen; simp at hlen; omega)
    rw [h6, hlen] at h9
    have := Nat.pow_le_pow_right (n := 4294967296) (by omega) (show k + 1 ≤ tk p0 - 1 by omega)
    omega
theorem quo_end {A P f k : Nat} {rl ql : List Nat} {r c : Nat} (hf : 0 < f) (h : DvR (A * f) (P * f) k 0 rl ql) (he : r * f + c = vl 4294967296 (rl.drop 0)) (hc : c < f) : vl 4294967296 ql = A / P ∧ r = A % P := by
  have h1 := h.eq
  have h2 := h.lt
  rw [List.drop_zero] at h1 h2 he
  rw [← he] at h1 h2
  generalize vl 4294967296 ql = q at *
  have h3 : c + (r + q * P) * f = A * f := by rw [← h1]; grind
  have h4 : c = 0 := by
    have : (c + (r + q * P) * f) % f = (A * f) % f := by rw [h3]
    rw [Nat.add_mul_mod_self_right, Nat.mul_mod_left, Nat.mod_eq_of_lt hc] at this
    exact this
  subst h4
  rw [Nat.zero_add] at h3
  have h5 := Nat.eq_of_mul_eq_mul_right hf h3
  rw [Nat.add_zero] at h2
  have h6 : r < P := Nat.lt_of_mul_lt_mul_right h2
  rw [← h5, Nat.add_mul_div_right _ _ (by omega), Nat.div_eq_of_lt h6, Nat.add_mul_mod_self_right, Nat.mod_eq_of_lt h6]
  simp
set_option maxRecDepth 100000 in
set_option maxHeartbeats 4000000 in
theorem divided_any (ao : Option Addr) (n cap : Nat) (l : List Nat) (ap : Option Addr) (k capb : Nat) (p : List Nat) (w : World) (hl : Sl w ao n cap l) (hp : Sl w ap (k + 1) capb p) (fp : Form 4294967296 p) (hn : n ≤ 10000) (hk : k ≤ 10000) :
    Calls Tryz.prog 88 #[.slice ao n cap, .slice ap (k + 1) capb] w fun e w' => ∃ (aq : Option Addr) (nq capq : Nat) (q : List Nat) (ar : Option Addr) (nr capr : Nat) (r : List Nat), e = .returned (.tuple #[.slice aq nq capq, .slice ar nr capr]) ∧ Own w' w.heap.size aq nq capq q ∧ Own w' w.heap.size ar nr capr r ∧
      vl 4294967296 q = vl 4294967296 l / vl 4294967296 p ∧ vl 4294967296 r = vl 4294967296 l % vl 4294967296 p ∧ Below w.heap.size w w' := by
  have HL : Hid (Sl w ao n cap l) := hl
  have HP : Hid (Sl w ap (k + 1) capb p) := hp
  obtain ⟨bp, op, rfl, hbp, hcp⟩ := hp.at_ (by omega)
  have cz := hcp k (by omega)
  obtain ⟨z, hz⟩ : ∃ z, z = p.getD k 0 := ⟨_, rfl⟩
  have hzb : z ≤ 4294967295 := by have := hp.wd.at (by omega) k; omega
  rw [← hz] at cz
  have HZ : Hid (z = p.getD k 0) := hz
  have hz1 : 1 ≤ z := by
    have h1 := fp.low (by intro h; have := hp.len; rw [h] at this; simp at this)
    rcases Nat.eq_zero_or_pos z with h0 | h0
    · have h2 := vl_take_succ 4294967296 p k (by rw [hp.len]; omega)
      rw [List.take_of_length_le (by rw [hp.len]; omega), ← hz, h0] at h2
      have h3 := vl_lt 4294967296 (p.take k) (fp.wd.take k)
      rw [show (p.take k).length = k from by have := hp.len; simp; omega] at h3
      rw [hp.len, Nat.add_sub_cancel] at h1
      omega
    · exact h0
  obtain ⟨b1, b2, b3⟩ := bitLen_bounds z (by omega)
  obtain ⟨L, hL⟩ : ∃ L, L = Lib.bitLen z := ⟨_, rfl⟩
  rw [← hL] at b1 b3
  have HLz : Hid (L = Lib.bitLen z) := hL
  have HBT : Hid (z < 2 ^ L) := b1
  have hL1 : 1 ≤ L := by
    rcases Nat.eq_zero_or_pos L with h0 | h0
    · rw [h0] at b1; omega
    · exact h0
  obtain ⟨f, hf⟩ : ∃ f : Nat, f = 2 ^ (32 - L) := ⟨_, rfl⟩
  have HF : Hid (f = 2 ^ (32 - L)) := hf
  have hfb : f ≤ 4294967295 := by
    have := Nat.pow_le_pow_right (n := 2) (by omega) (show 32 - L ≤ 31 by omega)
    rw [hf]; omega
  have hf1 : 1 ≤ f := by rw [hf]; exact Nat.pow_pos (by omega)
  have HFI : Hid ((2 : Int) ^ (32 - L) % 4294967296 = (f : Int)) := by
    show _ = _
    have : ((f : Nat) : Int) = (2 : Int) ^ (32 - L) := by rw [hf]; simp
    rw [← this]; omega
  clear hl hp hbp hcp hz b1 b2 hL hf
  obtain ⟨i0, hi, hz0, hz1, hz2⟩ := info_parts Tryz.info70
  go_enter Tryz.func88, Tryz.ntmps88
  go_wp2_with (go_at_call 103; refine (lz_any _ _ (by omega) (by omega)).mono ?_; rintro e w ⟨rfl, rfl⟩; rw [Int.toNat_natCast, ← HLz.out])
  rw [HFI.out]
  refine (multiplied_any ao n cap l _ 1 1 [f] _ (HL.out.below ((Below.refl _ _).alloc (Nat.le_refl _) _) (Nat.le_refl _)) (cells_one _ f (by omega)) (by omega) (by omega)).mono ?_
  rintro e w2 ⟨r0, rfl, ho, hv, hh, hsz, hb⟩
  have eA : (w.alloc (Obj.cells #[Value.int IntKind.u32 (f : Int)] 70)).heap.size = w.heap.size + 1 := by simp
  rw [eA] at hh hsz hb ho ⊢
  have HB2 : Hid (Below w.heap.size w w2) := ((Below.refl _ _).alloc (Nat.le_refl _) _).trans (hb.mono (by omega))
  have R1 : Hid (Holds eU w2 (w.heap.size + 1) 0 r0.toArray) := hh
  have R2 : Hid (w.heap.size + 1 < w2.heap.size) := hsz
  have R3 : Hid (r0.length = n + 1) := ho.sl.len
  have R4 : Hid (Wd 4294967296 r0) := ho.sl.wd
  have R5 : Hid (vl 4294967296 r0 = vl 4294967296 l * f) := by rw [show f = vl 4294967296 [f] from by simp [vl]]; exact hv
  clear ho hv hh hsz hb eA
  go_wp2_with fail
  refine (multiplied_any _ (k + 1) capb p _ 1 1 [f] _ ((HP.out.below HB2.out (Nat.le_refl _)).below ((Below.refl _ _).alloc (Nat.le_refl _) _) (Nat.le_refl _)) (cells_one _ f (by omega)) (by omega) (by omega)).mono ?_
  rintro e w3 ⟨p0, rfl, ho, hv, hh, hsz, hb⟩
  have eA : (w2.alloc (Obj.cells #[Value.int IntKind.u32 (f : Int)] 70)).heap.size = w2.heap.size + 1 := by simp
  rw [eA] at hh hsz hb ho ⊢
  have hb3 : Below w2.heap.size w2 w3 := ((Below.refl _ _).alloc (Nat.le_refl _) _).trans (hb.mono (by omega))
  have HB3 : Hid (Below w.heap.size w w3) := HB2.out.trans (hb3.mono HB2.out.size)
  have R1 : Hid (Holds eU w3 (w.heap.size + 1) 0 r0.toArray) := holds_below R1.out hb3 R2.out
  have P5 : Hid (vl 4294967296 p0 = vl 4294967296 p * f) := by rw [show f = vl 4294967296 [f] from by simp [vl]]; exact hv
  obtain ⟨htk, hPlt⟩ := tk_scaled fp HP.out.len ho.sl.wd (by rw [← HZ.out]; exact HBT.out) b3 HF.out P5.out
  have TK : Hid (tk p0 = k + 1) := htk
  have PL : Hid (vl 4294967296 p * f < 4294967296 ^ (k + 1)) := hPlt
  have P1 : Hid (Holds eU w3 (w2.heap.size + 1) 0 p0.toArray) := hh
  have P2 : Hid (w2.heap.size + 1 < w3.heap.size) := hsz
  have P4 : Hid (Wd 4294967296 p0) := ho.sl.wd
  have P3 : Hid (p0.length = k + 1 + 1) := ho.sl.len
  have POS : Hid (Sl w3 (some ⟨w2.heap.size + 1, 0, none⟩) (k + 1 + 1) (k + 1 + 1) p0) := ho.sl
  clear ho hv hh hsz hb eA hb3 htk hPlt
  go_wp2_with fail
  refine (trimmed_eq _ (k + 1 + 1) (k + 1 + 1) p0 _ POS.out).mono ?_
  rintro e w3 ⟨rfl, rfl⟩
  rw [TK.out]
  go_wp2_with (at_make; refine wpList_make_full w3 rfl (.tmp 31) (.tmp 31) 22 rfl w3.heap.size 70 i0 (.int .u32 0) 1 Tryz.underlying22 hi hz0 hz1 .i64 .i64 _ _ (n - k) rfl rfl (by omega) (by omega) (by rw [hz2]; omega) (by unfold maxLen; omega) (Nat.le_refl _) ?_; intro w4 hown hgrow; have hb4 : Hid (Below w3.heap.size w3 w4) := ((Below.refl _ w3).grown hgrow (Nat.le_refl _) (by intro k hk; cases hk)); have HO4 : Hid (w4.heap[w3.heap.size]? = some (.cells ((List.replicate (n - k) 0).map eU).toArray 70 (0, 0))) := (by rw [made_zeros] at hown; exact (made_heap hown).1); clear hown hgrow)
  have HB4 : Hid (Below w.heap.size w w4) := HB3.out.trans (hb4.out.mono HB3.out.size)
  obtain ⟨q1, q2⟩ := holds_heap HO4.out
  have Q1 : Hid (Holds eU w4 w3.heap.size 0 (List.replicate (n - k) 0).toArray) := q1
  have Q2 : Hid (w3.heap.size < w4.heap.size) := q2
  have R1 : Hid (Holds eU w4 (w.heap.size + 1) 0 r0.toArray) := holds_below R1.out hb4.out (by have := R2.out; have := P2.out; omega)
  have P1 : Hid (Holds eU w4 (w2.heap.size + 1) 0 p0.toArray) := holds_below P1.out hb4.out P2.out
  have DV : Hid (DvR (vl 4294967296 l * f) (vl 4294967296 p * f) k (n - k) r0 (List.replicate (n - k) 0)) := DvR.start HL.out.len HL.out.wd fp HP.out.len (by omega) R3.out R4.out R5.out
  have B1 : w.heap.size + 1 < w2.heap.size := R2.out
  have B2 : w2.heap.size + 1 < w3.heap.size := P2.out
  have HPV : Hid (vl 4294967296 (p0.take (k + 1)) = vl 4294967296 p * f) := by show _ = _; rw [← TK.out, trim_val, P5.out]
  have HPT : Hid ((p0.take (k + 1)).getD k 0 ≠ 0) := by
    show _ ≠ _
    rw [getD_take _ _ _ (by omega)]
    have := (tk_trim p0).top (by rw [TK.out]; omega)
    rw [TK.out, Nat.add_sub_cancel] at this
    exact this
  clear q1 q2 hb4 HO4
  go_loopw [7] (fun i wr => ∃ (j : Nat) (rl ql : List Nat), j ≤ n - k ∧ i = .int .i64 ((j : Int) - 1) ∧ Hid (DvR (vl 4294967296 l * f) (vl 4294967296 p * f) k j rl ql) ∧ Hid (rl.length = n + 1) ∧ Hid (ql.length = n - k) ∧ Hid (Holds eU wr (w.heap.size + 1) 0 rl.toArray) ∧ Hid (Holds eU wr (w2.heap.size + 1) 0 p0.toArray) ∧ Hid (Holds eU wr w3.heap.size 0 ql.toArray) ∧ Hid (w3.heap.size < wr.heap.size) ∧ Hid (Below w.heap.size w wr)) (fun i _ => (intOf i + 1).toNat)
  case atStart => exact ⟨n - k, r0, List.replicate (n - k) 0, Nat.le_refl _, by go_num, DV, R3, by simp [Hid], R1, P1, Q1, Q2, HB4⟩
  case round =>
    clear DV R3 R1 P1 Q1 Q2 HB4 R5 R4 HB3 HB2 R2 P2
    obtain ⟨j, rl, ql, hj, rfl, DV, N1, N2, R1, P1, Q1, Q2, HB⟩ := hrel
    by_cases hj0 : 0 < j
    · obtain ⟨i, rfl⟩ : ∃ i, j = i + 1 := ⟨j - 1, by omega⟩
      have hB := Q2.out
      go_wp2_with fail
      rw [show i + (k + 1) + 1 - i = k + 1 + 1 from by omega]
      have hln := N1.out
      have hlq := N2.out
      have hsP := sl_holds (n := k + 1) (cap := k + 1 + 1) P1.out (by omega) (by rw [P3.out]; omega) (by omega) (by omega) P4.out
      refine (takeMost_any (w.heap.size + 1) i k (n + 1 - i) ((rl.drop i).take (k + 1 + 1)) _ (k + 1 + 1) (p0.take (k + 1)) wr (holds_win R1.out i (k + 1 + 1) (by omega)) (by simp; omega) ((DV.out.wr.drop i).take _) hsP (fun _ b' o' e' => by cases e'; omega) (by omega) HPT.out (by rw [HPV.out]; exact win_drop_one rl i k _ DV.out.lt)).mono ?_
      rintro e w5 ⟨t, r', qq, rfl, htm, hw5⟩
      have HTM : Hid (TmR ((rl.drop i).take (k + 1 + 1)) (p0.take (k + 1)) t false r') := htm
      have ht := htm.small
      have Q1b : Holds eU w5 w3.heap.size 0 ql.toArray := by rw [hw5]; exact holds_put_other Q1.out (by omega)
      have P1b : Hid (Holds eU w5 (w2.heap.size + 1) 0 p0.toArray) := by rw [hw5]; exact holds_put_other P1.out (by omega)
      have hrl : r'.length = k + 1 + 1 := by rw [htm.len]; simp; omega
      have R1b : Hid (Holds eU w5 (w.heap.size + 1) 0 (rl.take i ++ (r' ++ rl.drop (i + (k + 1 + 1)))).toArray) := by
        have h := holds_put_win (r := r') R1.out i (by omega)
        rw [hrl] at h
        rw [hw5]
        exact h
      have HBb : Hid (Below w.heap.size w w5) := by rw [hw5]; exact below_drews (below_putRow HB.out (by omega) _ _) _
      have Q2b : Hid (w3.heap.size < w5.heap.size) := by
        rw [hw5]
        show w3.heap.size < (putRow eU wr (w.heap.size + 1) i r'.toArray).heap.size
        rw [Go.Sort.size_putRow]; exact hB
      obtain ⟨hqc, hqf⟩ := holds_cell Q1b i (by omega)
      rw [Nat.zero_add] at hqc hqf
      generalize ql.getD i 0 = qi at hqc
      have Q1b : Hid (Holds eU w5 w3.heap.size 0 ql.toArray) := Q1b
      have HRL : Hid (r'.length = k + 1 + 1) := hrl
      clear htm hw5 hsP hln hlq hrl
      go_wp2_with fail
      go_roundw
      case rel =>
        have hno := HTM.out.no rfl
        rw [HPV.out] at hno
        refine ⟨i, _, ql.set i t, by omega, by go_num, DV.out.step PL.out HRL.out HTM.out.wd (by omega) hno.1 hno.2, ?_, ?_, holds_set_other R1b.out (by show w.heap.size + 1 ≠ w3.heap.size; omega), holds_set_other P1b.out (by show w2.heap.size + 1 ≠ w3.heap.size; omega), holds_set Q1b.out (by rw [N2.out]; omega) rfl, ?_, HBb.out.setCell (p := ⟨w3.heap.size, i, none⟩) (by show w.heap.size ≤ w3.heap.size; omega) _⟩
        · have := N1.out; have := HRL.out; show _ = _; simp; omega
        · have := N2.out; show _ = _; simpa using this
        · have := Q2b.out; simpa [Hid] using this
      case measure => simp [intOf]
    · have hB := Q2.out
      go_wp2_with fail
      refine (divideByWord_any (w.heap.size + 1) 0 (n + 1) (n + 1) rl f wr R1.out N1.out DV.out.wr hfb hf1 (by omega)).mono ?_
      rintro e w5 ⟨r', c, rfl, hw5, hdr⟩
      obtain rfl : j = 0 := by omega
      have hq := quo_end (by omega) DV.out hdr.eq hdr.small
      have hrl : r'.length = n + 1 := by have := hdr.len; have := N1.out; omega
      have HR : Hid (Own w5 w.heap.size (some ⟨w.heap.size + 1, 0, none⟩) (n + 1) (n + 1) r') := by
        rw [hw5]
        exact Own.of_holds hrl (Nat.le_refl _) (by omega) hdr.wd (by omega) (by rw [Go.Sort.size_putRow]; omega) (holds_putRow eU wr _ 0 rl.toArray r'.toArray R1.out (by have := N1.out; simp; omega))
      have HQ : Hid (Own w5 w.heap.size (some ⟨w3.heap.size, 0, none⟩) (n - k) (n - k) ql) := by
        rw [hw5]
        exact Own.of_holds N2.out (Nat.le_refl _) (by omega) DV.out.wq (by omega) (by rw [Go.Sort.size_putRow]; omega) (holds_put_other Q1.out (by omega))
      have HB5 : Hid (Below w.heap.size w w5) := by rw [hw5]; exact below_putRow HB.out (by omega) _ _
      have HQQ : Hid (_ ∧ _) := hq
      clear hq hw5 hdr
      go_wp2_with fail
      go_ret2
      exact ⟨_, _, _, ql, _, _, _, r', rfl, HQ.out, HR.out, HQQ.out.1, HQQ.out.2, HB5.out⟩
end Go.Proofs.YtfkkhabpnnealaaGreatDoor

