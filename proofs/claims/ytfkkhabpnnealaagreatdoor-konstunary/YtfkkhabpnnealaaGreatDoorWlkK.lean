/-
  The contract of exact's digits at every argument.
-/
import Derived.Test.YtfkkhabpnnealaaGreatDoorWalkE
import Derived.Test.YtfkkhabpnnealaaGreatDoorPlnA
import Derived.Deep.MidRow
import Derived.Laws.IdiomStrings
import Derived.Lib.Strings
namespace Go.Proofs.YtfkkhabpnnealaaGreatDoor
open Go.RowKit
attribute [local go_sem ↓] Go.wp_at_zero Go.wp_at_succ
theorem size60 : (Tryz.prog.info? 74).map (·.size) = some 18 := by kernel_rfl
theorem zero74 : Tryz.zeroCells96 = Array.replicate 162 (.int .u8 0) := by rfl
/-- the digits of the first i pieces, the lowest first -/
def dsOf (pl : List Nat) : Nat → List Nat
  | 0 => []
  | i + 1 => dsOf pl i ++ dg 9 (pl.getD i 0)
theorem dsOf_len (pl : List Nat) : ∀ i, (dsOf pl i).length = 9 * i
  | 0 => rfl
  | i + 1 => by simp [dsOf, dsOf_len pl i, dg_len]; omega
/-- a text in the midst of being written from its end: the digits ds stand at its end, the lowest last -/
structure TxR (w : World) (b : Nat) (ds : List Nat) : Prop where
  there : ∀ j, j < 162 → (∃ v, w.cell? ⟨b, j, none⟩ = some (.int .u8 v)) ∧ w.frozen? ⟨b, j, none⟩ = false
  dig : ∀ j, j < 162 → 162 ≤ j + ds.length → w.cell? ⟨b, j, none⟩ = some (.int .u8 (48 + ds.getD (161 - j) 0 : Nat))
theorem TxR.step {w : World} {b : Nat} {ds : List Nat} (h : TxR w b ds) {a x : Nat} {z : Int} (ha : a + 1 + ds.length = 162) (hz : z = ((48 + x : Nat) : Int)) : TxR (w.setCell ⟨b, a, none⟩ (.int .u8 z)) b (ds ++ [x]) := by
  subst hz
  obtain ⟨v, hv⟩ := (h.there a (by omega)).1
  have hs : (w.setCell ⟨b, a, none⟩ (.int .u8 ((48 + x : Nat) : Int))).cell? ⟨b, a, none⟩ = some (.int .u8 ((48 + x : Nat) : Int)) := World.cell?_setCell_same _ _ _ hv
  have ho : ∀ j, j ≠ a → (w.setCell ⟨b, a, none⟩ (.int .u8 ((48 + x : Nat) : Int))).cell? ⟨b, j, none⟩ = w.cell? ⟨b, j, none⟩ := fun j hj => World.cell?_setCell_other _ _ _ _ (by intro e; injection e; omega)
  refine ⟨fun j hj => ⟨?_, by rw [World.frozen?_setCell]; exact (h.there j hj).2⟩, fun j hj hd => ?_⟩
  · by_cases hja : j = a
    · subst hja; exact ⟨_, hs⟩
    · rw [ho j hja]; exact (h.there j hj).1
  · by_cases hja : j = a
    · subst hja
      rw [hs]
      rw [show (ds ++ [x]).getD (161 - j) 0 = x from by
        rw [show 161 - j = ds.length from by omega]; simp]
    · simp only [List.length_append, List.length_cons, List.length_nil] at hd
      rw [ho j hja, h.dig j hj (by omega)]
      rw [show (ds ++ [x]).getD (161 - j) 0 = ds.getD (161 - j) 0 from by
        simp only [List.getD_eq_getElem?_getD]
        rw [List.getElem?_append_left (by omega)]]
def dch (x : Nat) : UInt8 := UInt8.ofNat (48 + x)
/-- the text of digits, the lowest first -/
def txt (ds : List Nat) : ByteArray := ⟨(ds.reverse.map dch).toArray⟩
theorem dch_toNat {x : Nat} (h : x < 10) : (dch x).toNat = 48 + x := by
  simp only [dch, UInt8.toNat_ofNat']
  omega
theorem dg_succ (c x : Nat) : dg (c + 1) x = dg c x ++ [x / 10 ^ c % 10] := by
  rw [dg_app c 1 x]; rfl
theorem dsOf_wd (pl : List Nat) : ∀ i, ∀ y ∈ dsOf pl i, y < 10
  | 0, y, h => by simp [dsOf] at h
  | i + 1, y, h => by
    rcases List.mem_append.1 h with h1 | h1
    · exact dsOf_wd pl i y h1
    · exact dg_wd 9 _ y h1
theorem run_index60 (A : List Value) (i x : Nat) (w : World) (hi : i < 18) (h : A[i]? = some (.int .u32 (x : Int))) : (Instr.index 74 (.agg A.toArray) (.int .i64 (i : Int))).run Tryz.prog w = .ok (.int .u32 (x : Int)) w := by
  have h1 : 0 ≤ (i : Int) ∧ (i : Int) < 18 := by omega
  simp [Instr.index, asIntOf, run_underlying Tryz.underlying74, Tryz.sizeOf70, part, h, Tryz.isAgg70]
  intro h2; omega
set_option maxHeartbeats 4000000 in
set_option maxRecDepth 100000 in
theorem digits_any (pl : List Nat) (w : World) (hl : pl.length = 18) (hw : ∀ x ∈ pl, x ≤ 4294967295) :
    Calls Tryz.prog 54 #[.agg (pl.map eU).toArray] w fun e w' => e = .returned (.string (txt (dsOf pl 18))) ∧ Below w.heap.size w w' := by
  have HL : Hid (pl.length = 18) := hl
  have HW : Hid (∀ x ∈ pl, x ≤ 4294967295) := hw
  obtain ⟨A, hA⟩ : ∃ A, A = pl.map eU := ⟨_, rfl⟩
  rw [← hA]
  have HA : Hid (A = pl.map eU) := hA
  have HAL : Hid (some 18 = some A.length) := by rw [hA]; simp [hl, Hid]
  have HR : Hid (((w.alloc (Obj.cells A.toArray 74)).alloc (Obj.cells Tryz.zeroCells96 96)).rangeAt w.heap.size 0 A) := by
    refine World.rangeAt_alloc ?_ _
    intro j v hj
    rw [Nat.zero_add, World.cell?_alloc_new]
    simpa using hj
  have HT : Hid (TxR ((w.alloc (Obj.cells A.toArray 74)).alloc (Obj.cells Tryz.zeroCells96 96)) (w.heap.size + 1) []) := by
    have e1 : (w.alloc (Obj.cells A.toArray 74)).heap.size = w.heap.size + 1 := by simp
    refine ⟨fun j hj => ?_, fun j hj h => by simp at h; omega⟩
    rw [← e1, World.cell?_alloc_new, World.frozen?_alloc_new, zero74]
    exact ⟨⟨0, by simp [hj]⟩, rfl⟩
  have HB0 : Hid (Below w.heap.size w ((w.alloc (Obj.cells A.toArray 74)).alloc (Obj.cells Tryz.zeroCells96 96))) := ((Below.refl _ _).alloc (Nat.le_refl _) _).alloc (by simp) _
  clear hl hw hA
  go_enter Tryz.func54, Tryz.ntmps54
  go_wp2_with (refine wpList_load_mid rfl 74 (.tmp 1) rfl w.heap.size 0 rfl A _ HR.out Tryz.underlying74 rfl (size60.trans HAL.out) ?_)
  go_loopw [4, 8] (fun av iv wr => ∃ (i a : Nat), i ≤ 18 ∧ iv = .int .i64 i ∧ av = .int .i64 a ∧ a + 9 * i = 162 ∧ Hid (TxR wr (w.heap.size + 1) (dsOf pl i)) ∧ Hid (Below w.heap.size w wr)) (fun _ iv _ => 18 - (intOf iv).toNat)
  case atStart => exact ⟨0, 162, by omega, rfl, rfl, by omega, HT, HB0⟩
  case round =>
    clear HT HB0
    obtain ⟨i, a, hi, rfl, rfl, hai, HT, HB⟩ := hrel
    by_cases hlt : i < 18
    · obtain ⟨x, hx⟩ : ∃ x, x = pl.getD i 0 := ⟨_, rfl⟩
      have hAx : A[i]? = some (.int .u32 x) := by
        rw [HA.out, hx]
        exact getElem?_map_eU pl i (by rw [HL.out]; exact hlt)
      have hxb : x ≤ 4294967295 := by
        rw [hx, List.getD_eq_getElem?_getD, List.getElem?_eq_getElem (by rw [HL.out]; exact hlt)]
        exact HW.out _ (List.getElem_mem _)
      have HX : Hid (x = pl.getD i 0) := hx
      have hix := run_index60 A i x wr hlt hAx
      clear hx hAx
      go_wp2_with fail
      clear hix
      go_loopw [4, 6, 11] (fun av pv cv wr => ∃ (c a y : Nat), c ≤ 9 ∧ cv = .int .i64 c ∧ av = .int .i64 a ∧ pv = .int .u32 y ∧ a + 9 * i + c = 162 ∧ y ≤ 4294967295 ∧ Hid (y = x / 10 ^ c) ∧ Hid (TxR wr (w.heap.size + 1) (dsOf pl i ++ dg c x)) ∧ Hid (Below w.heap.size w wr)) (fun _ _ cv _ => 9 - (intOf cv).toNat)
      case atStart => exact ⟨0, a, x, by omega, rfl, rfl, rfl, by omega, hxb, by simp [Hid], by simpa [Hid, dg] using HT.out, HB⟩
      case round =>
        clear HT HB hai
        obtain ⟨c, a, y, hc, rfl, rfl, rfl, hac, hyb, HY, HT, HB⟩ := hrel
        by_cases hlc : c < 9
        · obtain ⟨a', rfl⟩ : ∃ a', a = a' + 1 := ⟨a - 1, by omega⟩
          obtain ⟨⟨v, hv⟩, hf⟩ := HT.out.there a' (by omega)
          go_wp2_with fail
          go_roundw
          case rel =>
            refine ⟨c + 1, a', y / 10, by omega, by go_num, by go_num, by congr 1, by omega, by omega, ?_, ?_, HB.out.setCell (p := ⟨w.heap.size + 1, a', none⟩) (by show w.heap.size ≤ w.heap.size + 1; omega) _⟩
            · show _ = _
              rw [HY.out, Nat.pow_succ, Nat.div_div_eq_div_mul]
            · have := HT.out.step (a := a') (x := x / 10 ^ c % 10) (z := 48 + ((y : Int) % 10)) (by simp [dsOf_len, dg_len]; omega) (by rw [← HY.out]; omega)
              rw [dg_succ, ← List.append_assoc]
              exact this
          case measure => simp [intOf]; omega
        · go_wp2_with fail
          go_roundw
          case rel =>
            obtain rfl : c = 9 := by omega
            exact ⟨i + 1, a, by omega, by go_num, rfl, by omega, by have := HT.out; rw [HX.out] at this; exact this, HB⟩
          case measure => simp [intOf]; omega
    · obtain rfl : i = 18 := by omega
      obtain rfl : a = 0 := by omega
      have hwd : ∀ y ∈ dsOf pl 18, y < 10 := dsOf_wd pl 18
      have hcv : (convert 79 9 (.slice (some ⟨w.heap.size + 1, 0, none⟩) 162 162)).run Tryz.prog wr = .ok (.string (txt (dsOf pl 18))) wr := by
        have hln : ((dsOf pl 18).reverse.map dch).length = 162 := by simp [dsOf_len]
        have h := run_convert_bytes_back (P := Tryz.prog) wr 79 9 5 ⟨w.heap.size + 1, 0, none⟩ 162 ((dsOf pl 18).reverse.map dch) Tryz.underlying79 Tryz.underlying5 Tryz.underlying9 (fun j hj => by
          rw [hln] at hj
          rw [Addr.add_lit, Nat.zero_add, HT.out.dig j hj (by rw [dsOf_len]; omega)]
          have hlt2 : 161 - j < (dsOf pl 18).length := by rw [dsOf_len]; omega
          rw [List.getElem_map, List.getElem_reverse, dch_toNat (hwd _ (List.getElem_mem _))]
          rw [List.getD_eq_getElem?_getD, List.getElem?_eq_getElem hlt2]
          simp only [Option.getD_some, dsOf_len])
        rw [hln] at h
        exact h
      clear hwd
      go_wp2_with fail
      go_ret
      exact ⟨rfl, HB.out⟩
end Go.Proofs.YtfkkhabpnnealaaGreatDoor

/-
  The contract of strings.TrimLeft at noughts, and what the text of digits is.
-/
namespace Go.Proofs.YtfkkhabpnnealaaGreatDoor
open Go.RowKit
attribute [local go_sem ↓] Go.wp_at_zero Go.wp_at_succ
theorem txt_size (D : List Nat) : (txt D).size = D.length := by
  show ((D.reverse.map dch).toArray).size = _
  simp
theorem txt_data (D : List Nat) : (txt D).data.toList = D.reverse.map dch := rfl
theorem txt_head (D : List Nat) (k : Nat) (hk : D.length = k + 1) (h : 0 < (txt D).size) : (txt D)[0]'h = dch (D.getD k 0) := by
  have h1 : (txt D).data.toList[0]? = some (dch (D.getD k 0)) := by
    rw [txt_data, List.getElem?_map, List.getElem?_reverse (by omega), hk]
    simp [List.getD_eq_getElem?_getD, List.getElem?_eq_getElem (show k < D.length by omega)]
  have h2 : (txt D)[0]'h = (txt D).data.toList[0]'(by simpa using h) := by
    rw [ByteArray.getElem_eq_getElem_data]; simp
  rw [h2]
  exact (List.getElem_eq_iff _).2 h1
theorem txt_tail (D : List Nat) (k : Nat) (hk : D.length = k + 1) : (txt D).extract 1 (txt D).size = txt (D.take k) := by
  apply ByteArray.ext
  rw [ByteArray.data_extract]
  apply Array.toList_inj.1
  rw [Array.toList_extract, txt_data, txt_data, txt_size, hk]
  have e : D.reverse = D.getD k 0 :: (D.take k).reverse := by
    have h1 : D = D.take k ++ [D.getD k 0] := by
      have h2 := List.take_succ_eq_append_getElem (l := D) (i := k) (by omega)
      rw [List.take_of_length_le (by omega)] at h2
      rw [List.getD_eq_getElem?_getD, List.getElem?_eq_getElem (by omega)]
      exact h2
    conv => lhs; rw [h1]
    simp
  rw [e]
  have h3 : ((D.take k).reverse.map dch).length = k := by simp; omega
  simp only [List.map_cons, List.extract_eq_take_drop, List.drop_succ_cons, List.drop_zero]
  rw [List.take_of_length_le (by omega)]
theorem txt_app (D E : List Nat) : txt E ++ txt D = txt (D ++ E) := by
  apply ByteArray.ext
  apply Array.toList_inj.1
  simp [txt, ByteArray.data_append]
def strLen : Value → Nat | .string s => s.size | _ => 0
set_option maxRecDepth 100000 in
set_option maxHeartbeats 2000000 in
theorem trimByte_any (D : List Nat) (w : World) (hD : Wd 10 D) (hs : D.length ≤ 1000000) :
    Calls Tryz.prog 71 #[.string (txt D), .int .u8 48] w fun e w' => e = .returned (.string (txt (D.take (tk D)))) ∧ w' = w := by
  go_enter Tryz.func71, Tryz.ntmps71
  go_wp2
  go_loop [0] (fun v => ∃ k : Nat, k ≤ D.length ∧ v = .string (txt (D.take k)) ∧ Hid (∀ j, k ≤ j → j < D.length → D.getD j 0 = 0)) (fun v => strLen v)
  case atStart => exact ⟨D.length, Nat.le_refl _, by rw [List.take_of_length_le (Nat.le_refl _)], fun j h1 h2 => by omega⟩
  case round =>
    obtain ⟨k, hk, rfl, HZ⟩ := hrel
    have hlen : (D.take k).length = k := by simp; omega
    have hsz : (txt (D.take k)).size = k := by rw [txt_size, hlen]
    by_cases h0 : k = 0
    · subst h0
      generalize hS : txt (D.take 0) = S at *
      have HS : Hid (txt (D.take 0) = S) := hS
      have h1 : S.size ≤ 0 := by omega
      clear hS hsz hlen
      go_wp2
      go_ret
      have ht : tk D = 0 := (tk_trim D).uniq ⟨Nat.zero_le _, fun j h1 h2 => HZ.out j h1 h2, fun h => by omega⟩
      rw [ht, HS.out]
      exact ⟨rfl, rfl⟩
    · obtain ⟨i, rfl⟩ : ∃ i, k = i + 1 := ⟨k - 1, by omega⟩
      have hpos : 0 < (txt (D.take (i + 1))).size := by omega
      have hh := txt_head (D.take (i + 1)) i hlen hpos
      rw [getD_take D (i + 1) i (by omega)] at hh
      have htl := txt_tail (D.take (i + 1)) i hlen
      rw [List.take_take, Nat.min_eq_left (by omega)] at htl
      obtain ⟨x, hx⟩ : ∃ x, x = D.getD i 0 := ⟨_, rfl⟩
      have hxb : x < 10 := by rw [hx]; exact hD.at (by omega) i
      rw [← hx] at hh
      have hx0 : ((txt (D.take (i + 1)))[0]'hpos).toNat = 48 + x := by rw [hh, dch_toNat hxb]
      have HX : Hid (x = D.getD i 0) := hx
      clear hx hh
      generalize hS : txt (D.take (i + 1)) = S at *
      have HS : Hid (txt (D.take (i + 1)) = S) := hS
      have HT : Hid (S.extract 1 S.size = txt (D.take i)) := htl
      have hsb : S.size ≤ 1000000 := by omega
      have HSZ : Hid (S.size = i + 1) := hsz
      clear hS htl hsz hlen
      by_cases hx1 : x = 0
      · have hx2 : ((S[0]'hpos).toNat : Int) = 48 := by omega
        clear hx0
        go_wp2
        go_round
        case rel => exact ⟨i, by omega, by rw [HT.out], fun j h1 h2 => by
          by_cases hj : j = i
          · rw [hj, ← HX.out]; exact hx1
          · exact HZ.out j (by omega) h2⟩
        case measure =>
          simp only [strLen]
          rw [HT.out, HSZ.out, txt_size, List.length_take]; omega
      · have hx2 : 49 ≤ ((S[0]'hpos).toNat : Int) := by omega
        clear hx0
        go_wp2
        go_ret
        have ht : tk D = i + 1 := (tk_trim D).uniq ⟨hk, fun j h1 h2 => HZ.out j h1 h2, fun _ => by rw [Nat.add_sub_cancel, ← HX.out]; exact hx1⟩
        rw [ht, HS.out]
        exact ⟨rfl, rfl⟩
set_option maxHeartbeats 2000000 in
set_option maxRecDepth 100000 in
theorem trimLeft_any (D : List Nat) (w : World) (hD : Wd 10 D) (hs : D.length ≤ 1000000) (h0 : 0 < D.length) :
    Calls Tryz.prog 55 #[.string (txt D), .string ⟨#[48]⟩] w fun e w' => e = .returned (.string (txt (D.take (tk D)))) ∧ w' = w := by
  have hne : ((txt D).toList == []) = false := by
    have h1 : (txt D).toList.length = D.length := by
      rw [Lib.toList_data, txt_data]; simp
    cases h2 : (txt D).toList with
    | nil => rw [h2] at h1; simp at h1; omega
    | cons a b => rfl
  go_enter Tryz.func55, Tryz.ntmps55
  go_wp2_with (go_at_call 71; refine (trimByte_any D _ hD hs).mono ?_; rintro e w' ⟨rfl, rfl⟩)
  go_ret
  exact ⟨rfl, rfl⟩
end Go.Proofs.YtfkkhabpnnealaaGreatDoor

/-
  Plain facts on the decimal digits that long division by 10^9 tells: no program is named here.
-/
namespace Go.Proofs.YtfkkhabpnnealaaGreatDoor
/-- pieces found so far: their digits and what is left make the whole -/
structure PcR (V : Nat) (i : Nat) (pl : List Nat) (rl : List Nat) : Prop where
  len : pl.length = 18
  le : ∀ x ∈ pl, x ≤ 4294967295
  form : Form 4294967296 rl
  eq : vl 10 (dsOf pl i) + 10 ^ (9 * i) * vl 4294967296 rl = V
theorem dsOf_set (pl : List Nat) (c : Nat) : ∀ i k, k ≤ i → dsOf (pl.set i c) k = dsOf pl k
  | _, 0, _ => rfl
  | i, k + 1, h => by
    simp only [dsOf, dsOf_set pl c i k (by omega)]
    rw [List.getD_eq_getElem?_getD, List.getElem?_set_ne (by omega), ← List.getD_eq_getElem?_getD]
theorem PcR.step {V i : Nat} {pl rl r : List Nat} {c : Nat} (h : PcR V i pl rl) (hi : i < 18) (he : vl 4294967296 r * 1000000000 + c = vl 4294967296 rl) (hc : c < 1000000000) (fr : Form 4294967296 (r.take (tk r))) : PcR V (i + 1) (pl.set i c) (r.take (tk r)) := by
  have hl := h.len
  refine ⟨by simpa using hl, ?_, fr, ?_⟩
  · intro x hx
    rcases List.mem_or_eq_of_mem_set hx with h1 | h1
    · exact h.le x h1
    · omega
  · have e1 : dsOf (pl.set i c) (i + 1) = dsOf pl i ++ dg 9 c := by
      simp only [dsOf, dsOf_set pl c i i (Nat.le_refl _)]
      rw [List.getD_eq_getElem?_getD, List.getElem?_set_self (by omega)]; rfl
    have h2 := h.eq
    rw [e1, vl_append, dsOf_len, dg_val 9 c (by simpa using hc), trim_val, ← h2, ← he]
    rw [show 9 * (i + 1) = 9 * i + 9 from by omega, Nat.pow_add]
    generalize 10 ^ (9 * i) = T
    have : (10 : Nat) ^ 9 = 1000000000 := by simp
    rw [this]
    generalize vl 4294967296 r = R
    grind
/-- texts found so far -/
structure TtR (V n k : Nat) (D rl : List Nat) : Prop where
  wd : Wd 10 D
  form : Form 4294967296 rl
  len : rl.length = k
  bound : D.length + 162 * k ≤ 162 * n
  eq : vl 10 D + 10 ^ D.length * vl 4294967296 rl = V
theorem big_pow : 4294967296 ≤ 10 ^ (9 * 18) := by
  have h1 : (10 : Nat) ^ (9 * 18) = 10 ^ 10 * 10 ^ 152 := by rw [← Nat.pow_add]
  have h2 : 0 < (10 : Nat) ^ 152 := Nat.pow_pos (by omega)
  have h3 := Nat.mul_le_mul_left (10 ^ 10) h2
  rw [h1]
  omega
theorem TtR.step {V n k : Nat} {D rl pl rl' : List Nat} (h : TtR V n k D rl) (hk : 0 < k) (hp : PcR (vl 4294967296 rl) 18 pl rl') : TtR V n rl'.length (D ++ dsOf pl 18) rl' ∧ rl'.length < k := by
  have hpe := hp.eq
  have hlt : rl'.length < k := by
    rcases Nat.lt_or_ge rl'.length k with h1 | h1
    · exact h1
    · have h2 := vl_lt 4294967296 rl h.form.wd
      have h3 := hp.form.low (by intro h0; rw [h0] at h1; simp at h1; omega)
      have h4 : 4294967296 ^ (k - 1) ≤ 4294967296 ^ (rl'.length - 1) := Nat.pow_le_pow_right (by omega) (by omega)
      have h5 := Nat.mul_le_mul big_pow (Nat.le_trans h4 h3)
      rw [h.len, show k = (k - 1) + 1 from by omega, Nat.pow_succ] at h2
      rw [Nat.mul_comm] at h5
      omega
  refine ⟨⟨Wd.append.2 ⟨h.wd, dsOf_wd pl 18⟩, hp.form, rfl, ?_, ?_⟩, hlt⟩
  · have := h.bound
    rw [List.length_append, dsOf_len]
    omega
  · rw [vl_append, List.length_append, dsOf_len, Nat.pow_add, ← h.eq, ← hpe]
    generalize 10 ^ D.length = T
    generalize 10 ^ (9 * 18) = U
    grind
theorem TtR.done {V n : Nat} {D rl : List Nat} (h : TtR V n 0 D rl) : vl 10 D = V ∧ Form 10 (D.take (tk D)) ∧ vl 10 (D.take (tk D)) = V := by
  have h0 : rl = [] := List.eq_nil_of_length_eq_zero h.len
  have h1 := h.eq
  rw [h0] at h1
  have h2 : vl 10 D = V := by simpa [vl] using h1
  have t := tk_trim D
  exact ⟨h2, Form.of_take h.wd _ t.le t.top, by rw [vl_take_zeros 10 D _ t.zero]; exact h2⟩
end Go.Proofs.YtfkkhabpnnealaaGreatDoor

