/-
  The document's Join, row and texts, walked.
-/
import Derived.Test.YtifcikhgbafegaaStr
namespace Go.Proofs.Ytifcikhgbafegaa
open Go.RowKit
attribute [local go_sem ↓] Go.wp_at_zero Go.wp_at_succ
theorem joinF_drop (sep : Bs) (l : List Bs) (i : Nat) (hi : i < l.length) (f : Bool) : joinF sep f (l.drop i) = (if f then [] else sep) ++ l[i] ++ joinF sep false (l.drop (i + 1)) := by
  rw [List.drop_eq_getElem_cons hi]; simp only [joinF]
set_option maxRecDepth 100000 in
set_option maxHeartbeats 4000000 in
theorem rjoin_any {B : BQ} {w : World} {a : Option Addr} {n c : Nat} {l : List Bs} (h : TxB B w (.slice a n c) l) (sep : Bs) (hj : (joinF sep true l).length ≤ 1000000000000) (hs : sep.length ≤ 100) : Calls Try.prog 45 #[.slice a n c, .string (bs sep)] w fun e w' => e = .returned (.string (bs (joinF sep true l))) ∧ w' = w := by
  have hl := h.len
  have hm := h.max
  have HT : Hid (TxB B w (.slice a n c) l) := h
  have HL : Hid (n = l.length) := hl
  have hz : (bs sep).size ≤ 100 := by rw [bs_size]; exact hs
  obtain ⟨J, hJ⟩ : ∃ J, J = joinF sep true l := ⟨_, rfl⟩
  rw [← hJ] at hj ⊢
  have HJ : Hid (J = joinF sep true l) := hJ
  have HJL : Hid (J.length ≤ 1000000000000) := hj
  clear h hl hJ hj hs
  go_enter Try.func45, Try.ntmps45
  go_wp2_with fail
  go_loopg [5, 6] n (fun g u5 u6 wr => ∃ (i : Nat) (PS : ByteArray), i ≤ n ∧ n - i ≤ g ∧ u6 = .int .i64 i ∧ u5 = .string PS ∧ wr = w ∧ Hid (∃ P, PS = bs P ∧ P ++ joinF sep (decide (i = 0)) (l.drop i) = J))
  case atStart => exact ⟨0, ByteArray.empty, Nat.zero_le _, Nat.le_refl _, rfl, rfl, rfl, [], rfl, by rw [HJ.out]; rfl⟩
  case round =>
    obtain ⟨i, PS, hi, hg, rfl, rfl, hw, HX⟩ := hrel
    obtain rfl := hw.symm
    clear hw
    obtain ⟨P, hP, hPJ⟩ := HX.out
    by_cases hlt : i < n
    · have z1 : (i : Int) < (n : Int) := by omega
      have z0 : (0 : Int) ≤ (i : Int) := by omega
      have b1 : i < l.length := by rw [← HL.out]; exact hlt
      obtain ⟨g1, o1, rfl, ht1⟩ := HT.out.get b1
      rw [joinF_drop sep l i b1] at hPJ
      have hPL : P.length + (l[i]).length ≤ 1000000000000 := by
        have := HJL.out; rw [← hPJ] at this; simp only [List.length_append] at this; omega
      have hps : PS.size ≤ 1000000000000 := by rw [hP, bs_size]; omega
      have hx : (bs l[i]).size ≤ 1000000000000 := by rw [bs_size]; omega
      have HP : Hid (PS = bs P) := hP
      by_cases h0 : i = 0
      · have zi : ¬ (0 : Int) < (i : Int) := by omega
        have HE : Hid (PS ++ bs l[i] = bs (P ++ l[i])) := by show _ = _; rw [HP.out, bs_app]
        have HQ : Hid ((P ++ l[i]) ++ joinF sep (decide (i + 1 = 0)) (l.drop (i + 1)) = J) := by
          show _ = _
          rw [← hPJ, show decide (i + 1 = 0) = false from decide_eq_false (by omega), decide_eq_true h0]; simp
        clear hP hPJ hPL HX h0
        generalize bs l[i] = X at *
        go_wp2_with fail
        go_roundg (n - (i + 1))
        case measure => omega
        case rel => exact ⟨i + 1, _, by omega, Nat.le_refl _, by go_num, rfl, rfl, _, HE.out, HQ.out⟩
      · have zi : (0 : Int) < (i : Int) := by omega
        have HE : Hid (PS ++ bs sep ++ bs l[i] = bs (P ++ sep ++ l[i])) := by show _ = _; rw [HP.out, bs_app, bs_app]
        have HQ : Hid ((P ++ sep ++ l[i]) ++ joinF sep (decide (i + 1 = 0)) (l.drop (i + 1)) = J) := by
          show _ = _
          rw [← hPJ, show decide (i + 1 = 0) = false from decide_eq_false (by omega), decide_eq_false h0]; simp
        clear hP hPJ hPL HX h0
        generalize bs l[i] = X at *
        generalize bs sep = SP at *
        go_wp2_with fail
        go_roundg (n - (i + 1))
        case measure => omega
        case rel => exact ⟨i + 1, _, by omega, Nat.le_refl _, by go_num, rfl, rfl, _, HE.out, HQ.out⟩
    · have z1 : ¬ (i : Int) < (n : Int) := by omega
      have HR : Hid (PS = bs J) := by
        show _ = _
        rw [hP, ← hPJ, List.drop_of_length_le (by have := HL.out; omega)]; simp [joinF]
      clear hP hPJ HX
      go_wp2_with fail
      go_ret
      exact ⟨by rw [← HR.out]; rfl, rfl⟩
/-- a type's text is told so -/
def TxC (t : Ty) (T : Bs) : Prop := ∀ (B : BQ) (w : World) (vn vm vk : Value), Prt B w t vn vm vk → Calls Try.prog 12 #[agT t vn vm vk] w fun e w' => e = .returned (.string (bs T)) ∧ Below w.heap.size w w'
/-- texts answered in new memory -/
structure TsQ (w : World) (l : List Bs) (e : Ending) (w' : World) : Prop where
  bl : Below w.heap.size w w'
  ex : ∃ a c, e = .returned (.slice a l.length c) ∧ SRow w' w.heap.size (.slice a l.length c) l
set_option maxRecDepth 100000 in
set_option maxHeartbeats 4000000 in
theorem rtexts_any {B : BQ} {w : World} {a : Option Addr} {lk c : Nat} {ks : List Ty} (h : SlT B w (.slice a lk c) ks) (ts : List Bs) (hts : ts.length = ks.length) (hk : ks.length ≤ 1000) (hT : ∀ i (h : i < ks.length) (h' : i < ts.length), TxC ks[i] ts[i]) (p q : Nat) (hq : q ≤ ks.length) : Calls Try.prog 46 #[.slice a lk c, .int .i64 p, .int .i64 q] w (TsQ w ((ts.take q).drop p)) := by
  obtain ⟨a0, c0, e0, hlen, hel⟩ := h.open
  obtain ⟨rfl, hq9, rfl⟩ : a = a0 ∧ lk = ks.length ∧ c = c0 := by simpa using e0
  have HLK : Hid (lk = ks.length) := hq9
  have hlk : lk ≤ 1000 := by omega
  have hqk : q ≤ lk := by omega
  have HEL : Hid (∀ i (hi : i < ks.length), ∃ b o, a = some ⟨b, o, none⟩ ∧ b < w.heap.size ∧ B b ∧ (ks[i]).lies B w b (o + i * 7)) := hel
  have HTC : Hid (∀ i (h : i < ks.length) (h' : i < ts.length), TxC ks[i] ts[i]) := hT
  have HTS : Hid (ts.length = ks.length) := hts
  clear h e0 hel hq9 hT hts hlen
  obtain ⟨L, hL⟩ : ∃ L, L = (ts.take q).drop p := ⟨_, rfl⟩
  rw [← hL]
  have HL : Hid (L = (ts.take q).drop p) := hL
  clear hL
  by_cases hpq : p ≤ q
  · go_enter Try.func46, Try.ntmps46
    go_wp2_with fail
    go_loopg [7, 8] q (fun g u7 u8 wr => ∃ (i : Nat) (l : List Bs) (ua : Option Addr) (uc : Nat), p ≤ i ∧ i ≤ q ∧ q - i ≤ g ∧ u8 = .int .i64 i ∧ u7 = .slice ua l.length uc ∧ l.length ≤ i ∧ Hid (l = (ts.take i).drop p ∧ Below w.heap.size w wr ∧ SRow wr w.heap.size (.slice ua l.length uc) l))
    case atStart => exact ⟨p, [], none, 0, Nat.le_refl _, hpq, by omega, rfl, rfl, by simp, by simp, Below.refl _ _, SRow.nil _ _⟩
    case round =>
      obtain ⟨i, l, ua, uc, hpi, hiq, hg, rfl, rfl, hli', HX⟩ := hrel
      by_cases hlt : i < q
      · have z1 : (i : Int) < (q : Int) := by omega
        have z2 : (i : Int) < (lk : Int) := by omega
        have z0 : (0 : Int) ≤ (i : Int) := by omega
        have hlx : i < ks.length := by rw [← HLK.out]; omega
        have hlt' : i < ts.length := by rw [HTS.out]; exact hlx
        obtain ⟨b, o, rfl, _, _, hli⟩ := HEL.out i hlx
        obtain ⟨e0, e1, e2, e3, v4, v5, v6, e4, e5, e6, hpx⟩ := lies_iff.1 hli
        obtain ⟨bn, dn, bm, dm, bk, dk, rfl, rfl, rfl⟩ := hpx.form
        have hbr := HX.out.2.1
        have hc := HTC.out i hlx hlt' B wr _ _ _ (hpx.kept hbr)
        have e0 := kept_cell hbr e0
        have e1 := kept_cell hbr e1
        have e2 := kept_cell hbr e2
        have e3 := kept_cell hbr e3
        have e4 := kept_cell hbr e4
        have e5 := kept_cell hbr e5
        have e6 := kept_cell hbr e6
        have HNX : Hid ((ts.take (i + 1)).drop p = l ++ [ts[i]]) := by
          show _ = _
          rw [List.take_succ_eq_append_getElem hlt', List.drop_append_of_le_length (by rw [List.length_take]; omega), ← HX.out.1]
        have HXB : Hid (Below w.heap.size w wr) := HX.out.2.1
        have HXR : Hid (SRow wr w.heap.size (.slice ua l.length uc) l) := HX.out.2.2
        unfold agT at hc
        clear hli hpx HX hbr
        generalize ts[i] = t at *
        generalize (ks[i]).kind = ki at *
        generalize (ks[i]).name = ni at *
        generalize (ks[i]).n = nn at *
        generalize (ks[i]).flag = fi at *
        generalize (ks[i]).names.length = l1 at *
        generalize (ks[i]).marks.length = l2 at *
        generalize (ks[i]).kids.length = l3 at *
        go_wp2_with (first
          | (go_at_call 12; refine hc.mono ?_; rintro e w1 ⟨rfl, hb1⟩; have HB1 : Hid (Below w.heap.size w w1) := HXB.out.trans (hb1.mono HXB.out.size); have HR1 : Hid (SRow w1 w.heap.size (.slice ua l.length uc) l) := own_whole HXR.out hb1; have hz1 := HB1.out.size; clear hb1 hc)
          | (at_builtin; refine wp_app1 (by rfl) _ _ (by rfl) w.heap.size (.slice ua l.length uc) l t w1.heap.size (by rfl) (HR1.out.alloc _) (by rfl) (cell_new _ _ _) (by omega) (by simp; omega) ?_; intro gg cap w9 hown1 hgrow hlt9; have HO9 : Hid (SRow w9 w.heap.size (.slice (some ⟨gg, 0, none⟩) (l.length + 1) cap) (l ++ [t])) := hown1; have HB9 : Hid (Below w.heap.size w w9) := (HB1.out.alloc hz1 _).grown hgrow (by simp; omega) (fun b hb => (HR1.out.blk hb).1); clear hown1 hgrow))
        go_roundg (q - (i + 1))
        case measure => omega
        case rel => exact ⟨i + 1, l ++ [t], some ⟨gg, 0, none⟩, cap, by omega, by omega, Nat.le_refl _, by go_num, by simp, by simp; omega, HNX.out.symm, HB9.out, by simpa using HO9.out⟩
      · have z1 : ¬ (i : Int) < (q : Int) := by omega
        have HE : Hid (l = L) := by
          show _ = _
          rw [HL.out, HX.out.1]
          have : i = q := by omega
          rw [this]
        have HXB : Hid (Below w.heap.size w wr) := HX.out.2.1
        have HXR : Hid (SRow wr w.heap.size (.slice ua l.length uc) l) := HX.out.2.2
        clear HX
        go_wp2_with fail
        go_ret
        rw [← HE.out]
        exact ⟨HXB.out, _, _, rfl, HXR.out⟩
  · have z1 : ¬ (p : Int) < (q : Int) := by omega
    have HE : Hid (L = []) := by
      show _ = _
      rw [HL.out, List.drop_of_length_le (by rw [List.length_take]; omega)]
    rw [HE.out]
    go_enter Try.func46, Try.ntmps46
    go_wp2_with fail
    go_loopg [7, 8] 0 (fun g u7 u8 wr => u8 = .int .i64 p ∧ u7 = .slice none 0 0 ∧ wr = w)
    case atStart => exact ⟨rfl, rfl, rfl⟩
    case round =>
      obtain ⟨rfl, rfl, hw⟩ := hrel
      obtain rfl := hw.symm
      clear hw
      go_wp2_with fail
      go_ret
      exact ⟨Below.refl _ _, none, 0, rfl, SRow.nil _ _⟩
/-- parts within braces -/
def rowB (word : Bs) (l : List Bs) : Bs := if l = [] then word ++ [32, 123, 125] else word ++ [32, 123, 32] ++ joinF [59, 32] true l ++ [32, 125]
set_option maxRecDepth 100000 in
set_option maxHeartbeats 4000000 in
theorem rrow_any {B : BQ} {w : World} {a : Option Addr} {n c : Nat} {l : List Bs} (h : TxB B w (.slice a n c) l) (word : Bs) (hj : (joinF [59, 32] true l).length ≤ 100000000000) (hs : word.length ≤ 100) : Calls Try.prog 48 #[.string (bs word), .slice a n c] w fun e w' => e = .returned (.string (bs (rowB word l))) ∧ w' = w := by
  have hl := h.len
  have hm := h.max
  have hz : (bs word).size ≤ 100 := by rw [bs_size]; exact hs
  unfold rowB
  by_cases h0 : l = []
  · rw [if_pos h0]
    obtain rfl : n = 0 := by rw [hl, h0]; rfl
    have HE : Hid (bs word ++ ⟨#[32, 123, 125]⟩ = bs (word ++ [32, 123, 125])) := by show _ = _; rw [show (⟨#[32, 123, 125]⟩ : ByteArray) = bs [32, 123, 125] from rfl, bs_app]
    rw [← HE.out]
    clear h hl h0
    generalize bs word = WD at *
    go_enter Try.func48, Try.ntmps48
    go_wp2_with fail
    go_ret
    exact ⟨rfl, rfl⟩
  · rw [if_neg h0]
    have hn0 : n ≠ 0 := by rw [hl]; simpa using h0
    have k0 := nat_bne (b := 0) hn0
    have hJ := rjoin_any h [59, 32] (by omega) (by simp)
    have hz2 : (bs (joinF [59, 32] true l)).size ≤ 100000000000 := by rw [bs_size]; exact hj
    have HE : Hid (bs word ++ ⟨#[32, 123, 32]⟩ ++ bs (joinF [59, 32] true l) ++ ⟨#[32, 125]⟩ = bs (word ++ [32, 123, 32] ++ joinF [59, 32] true l ++ [32, 125])) := by
      show _ = _
      rw [show (⟨#[32, 123, 32]⟩ : ByteArray) = bs [32, 123, 32] from rfl, show (⟨#[32, 125]⟩ : ByteArray) = bs [32, 125] from rfl, bs_app, bs_app, bs_app]
    rw [← HE.out]
    clear h hl h0 hn0 hj
    generalize bs word = WD at *
    generalize bs (joinF [59, 32] true l) = JJ at *
    go_enter Try.func48, Try.ntmps48
    go_wp2_with (go_at_call 45; refine hJ.mono ?_; rintro e w1 ⟨rfl, hw1⟩; obtain rfl := hw1.symm; clear hJ)
    go_ret
    exact ⟨rfl, rfl⟩
end Go.Proofs.Ytifcikhgbafegaa
