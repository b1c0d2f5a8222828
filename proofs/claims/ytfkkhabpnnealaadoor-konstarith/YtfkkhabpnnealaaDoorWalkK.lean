/-
  The contract of exact's digits at every argument.
-/
import Derived.Test.YtfkkhabpnnealaaDoorWalkE
import Derived.Test.YtfkkhabpnnealaaDoorDec
import Derived.Deep.MidRow
import Derived.Laws.IdiomStrings
namespace Go.Proofs.YtfkkhabpnnealaaDoor
open Go.RowKit
attribute [local go_sem ↓] Go.wp_at_zero Go.wp_at_succ
theorem size60 : (Tryd.prog.info? 77).map (·.size) = some 18 := by kernel_rfl
theorem zero74 : Tryd.zeroCells95 = Array.replicate 162 (.int .u8 0) := by rfl
/-- the digits of the first i pieces, the lowest first -/
def dsOf (pl : List Nat) : Nat → List Nat
  | 0 => []
  | i + 1 => dsOf pl i ++ dg 9 (pl.getD i 0)
theorem dsOf_len (pl : List Nat) : ∀ i, (dsOf pl i).length = 9 * i
  | 0 => rfl
  | i + 1 => by simp [dsOf, dsOf_len pl i, dg_len]; omega
/-- a text in the midst of being written from its end: the digits ds stand at its end, the lowest last -/
structure TxR (w : World) (b : Nat) (ds : List Nat) : Prop where
  there : ∀ j, j < 162 → (∃ v, w.cell? ⟨b, j, none⟩ = some (.int .u8 v)) ∧ w.frozen? ⟨b, j, none⟩ = false
  dig : ∀ j, j < 162 → 162 ≤ j + ds.length → w.cell? ⟨b, j, none⟩ = some (.int .u8 (48 + ds.getD (161 - j) 0 : Nat))
theorem TxR.step {w : World} {b : Nat} {ds : List Nat} (h : TxR w b ds) {a x : Nat} {z : Int} (ha : a + 1 + ds.length = 162) (hz : z = ((48 + x : Nat) : Int)) : TxR (w.setCell ⟨b, a, none⟩ (.int .u8 z)) b (ds ++ [x]) := by
  subst hz
  obtain ⟨v, hv⟩ := (h.there a (by omega)).1
  have hs : (w.setCell ⟨b, a, none⟩ (.int .u8 ((48 + x : Nat) : Int))).cell? ⟨b, a, none⟩ = some (.int .u8 ((48 + x : Nat) : Int)) := World.cell?_setCell_same _ _ _ hv
  have ho : ∀ j, j ≠ a → (w.setCell ⟨b, a, none⟩ (.int .u8 ((48 + x : Nat) : Int))).cell? ⟨b, j, none⟩ = w.cell? ⟨b, j, none⟩ := fun j hj => World.cell?_setCell_other _ _ _ _ (by intro e; injection e; omega)
  refine ⟨fun j hj => ⟨?_, by rw [World.frozen?_setCell]; exact (h.there j hj).2⟩, fun j hj hd => ?_⟩
  · by_cases hja : j = a
    · subst hja; exact ⟨_, hs⟩
    · rw [ho j hja]; exact (h.there j hj).1
  · by_cases hja : j = a
    · subst hja
      rw [hs]
      rw [show (ds ++ [x]).getD (161 - j) 0 = x from by
        rw [show 161 - j = ds.length from by omega]; simp]
    · simp only [List.length_append, List.length_cons, List.length_nil] at hd
      rw [ho j hja, h.dig j hj (by omega)]
      rw [show (ds ++ [x]).getD (161 - j) 0 = ds.getD (161 - j) 0 from by
        simp only [List.getD_eq_getElem?_getD]
        rw [List.getElem?_append_left (by omega)]]
def dch (x : Nat) : UInt8 := UInt8.ofNat (48 + x)
/-- the text of digits, the lowest first -/
def txt (ds : List Nat) : ByteArray := ⟨(ds.reverse.map dch).toArray⟩
theorem dch_toNat {x : Nat} (h : x < 10) : (dch x).toNat = 48 + x := by
  simp only [dch, UInt8.toNat_ofNat']
  omega
theorem dg_succ (c x : Nat) : dg (c + 1) x = dg c x ++ [x / 10 ^ c % 10] := by
  rw [dg_app c 1 x]; rfl
theorem dsOf_wd (pl : List Nat) : ∀ i, ∀ y ∈ dsOf pl i, y < 10
  | 0, y, h => by simp [dsOf] at h
  | i + 1, y, h => by
    rcases List.mem_append.1 h with h1 | h1
    · exact dsOf_wd pl i y h1
    · exact dg_wd 9 _ y h1
theorem run_index60 (A : List Value) (i x : Nat) (w : World) (hi : i < 18) (h : A[i]? = some (.int .u32 (x : Int))) : (Instr.index 77 (.agg A.toArray) (.int .i64 (i : Int))).run Tryd.prog w = .ok (.int .u32 (x : Int)) w := by
  have h1 : 0 ≤ (i : Int) ∧ (i : Int) < 18 := by omega
  simp [Instr.index, asIntOf, run_underlying Tryd.underlying77, Tryd.sizeOf73, part, h, Tryd.isAgg73]
  intro h2; omega
set_option maxHeartbeats 4000000 in
set_option maxRecDepth 100000 in
theorem digits_any (pl : List Nat) (w : World) (hl : pl.length = 18) (hw : ∀ x ∈ pl, x ≤ 4294967295) :
    Calls Tryd.prog 58 #[.agg (pl.map eU).toArray] w fun e w' => e = .returned (.string (txt (dsOf pl 18))) ∧ Below w.heap.size w w' := by
  have HL : Hid (pl.length = 18) := hl
  have HW : Hid (∀ x ∈ pl, x ≤ 4294967295) := hw
  obtain ⟨A, hA⟩ : ∃ A, A = pl.map eU := ⟨_, rfl⟩
  rw [← hA]
  have HA : Hid (A = pl.map eU) := hA
  have HAL : Hid (some 18 = some A.length) := by rw [hA]; simp [hl, Hid]
  have HR : Hid (((w.alloc (Obj.cells A.toArray 77)).alloc (Obj.cells Tryd.zeroCells95 95)).rangeAt w.heap.size 0 A) := by
    refine World.rangeAt_alloc ?_ _
    intro j v hj
    rw [Nat.zero_add, World.cell?_alloc_new]
    simpa using hj
  have HT : Hid (TxR ((w.alloc (Obj.cells A.toArray 77)).alloc (Obj.cells Tryd.zeroCells95 95)) (w.heap.size + 1) []) := by
    have e1 : (w.alloc (Obj.cells A.toArray 77)).heap.size = w.heap.size + 1 := by simp
    refine ⟨fun j hj => ?_, fun j hj h => by simp at h; omega⟩
    rw [← e1, World.cell?_alloc_new, World.frozen?_alloc_new, zero74]
    exact ⟨⟨0, by simp [hj]⟩, rfl⟩
  have HB0 : Hid (Below w.heap.size w ((w.alloc (Obj.cells A.toArray 77)).alloc (Obj.cells Tryd.zeroCells95 95))) := ((Below.refl _ _).alloc (Nat.le_refl _) _).alloc (by simp) _
  clear hl hw hA
  go_enter Tryd.func58, Tryd.ntmps58
  go_wp2_with (refine wpList_load_mid rfl 77 (.tmp 1) rfl w.heap.size 0 rfl A _ HR.out Tryd.underlying77 rfl (size60.trans HAL.out) ?_)
  go_loopw [4, 8] (fun av iv wr => ∃ (i a : Nat), i ≤ 18 ∧ iv = .int .i64 i ∧ av = .int .i64 a ∧ a + 9 * i = 162 ∧ Hid (TxR wr (w.heap.size + 1) (dsOf pl i)) ∧ Hid (Below w.heap.size w wr)) (fun _ iv _ => 18 - (intOf iv).toNat)
  case atStart => exact ⟨0, 162, by omega, rfl, rfl, by omega, HT, HB0⟩
  case round =>
    clear HT HB0
    obtain ⟨i, a, hi, rfl, rfl, hai, HT, HB⟩ := hrel
    by_cases hlt : i < 18
    · obtain ⟨x, hx⟩ : ∃ x, x = pl.getD i 0 := ⟨_, rfl⟩
      have hAx : A[i]? = some (.int .u32 x) := by
        rw [HA.out, hx]
        exact getElem?_map_eU pl i (by rw [HL.out]; exact hlt)
      have hxb : x ≤ 4294967295 := by
        rw [hx, List.getD_eq_getElem?_getD, List.getElem?_eq_getElem (by rw [HL.out]; exact hlt)]
        exact HW.out _ (List.getElem_mem _)
      have HX : Hid (x = pl.getD i 0) := hx
      have hix := run_index60 A i x wr hlt hAx
      clear hx hAx
      go_wp2_with fail
      clear hix
      go_loopw [4, 6, 11] (fun av pv cv wr => ∃ (c a y : Nat), c ≤ 9 ∧ cv = .int .i64 c ∧ av = .int .i64 a ∧ pv = .int .u32 y ∧ a + 9 * i + c = 162 ∧ y ≤ 4294967295 ∧ Hid (y = x / 10 ^ c) ∧ Hid (TxR wr (w.heap.size + 1) (dsOf pl i ++ dg c x)) ∧ Hid (Below w.heap.size w wr)) (fun _ _ cv _ => 9 - (intOf cv).toNat)
      case atStart => exact ⟨0, a, x, by omega, rfl, rfl, rfl, by omega, hxb, by simp [Hid], by simpa [Hid, dg] using HT.out, HB⟩
      case round =>
        clear HT HB hai
        obtain ⟨c, a, y, hc, rfl, rfl, rfl, hac, hyb, HY, HT, HB⟩ := hrel
        by_cases hlc : c < 9
        · obtain ⟨a', rfl⟩ : ∃ a', a = a' + 1 := ⟨a - 1, by omega⟩
          obtain ⟨⟨v, hv⟩, hf⟩ := HT.out.there a' (by omega)
          go_wp2_with fail
          go_roundw
          case rel =>
            refine ⟨c + 1, a', y / 10, by omega, by go_num, by go_num, by congr 1, by omega, by omega, ?_, ?_, HB.out.setCell (p := ⟨w.heap.size + 1, a', none⟩) (by show w.heap.size ≤ w.heap.size + 1; omega) _⟩
            · show _ = _
              rw [HY.out, Nat.pow_succ, Nat.div_div_eq_div_mul]
            · have := HT.out.step (a := a') (x := x / 10 ^ c % 10) (z := 48 + ((y : Int) % 10)) (by simp [dsOf_len, dg_len]; omega) (by rw [← HY.out]; omega)
              rw [dg_succ, ← List.append_assoc]
              exact this
          case measure => simp [intOf]; omega
        · go_wp2_with fail
          go_roundw
          case rel =>
            obtain rfl : c = 9 := by omega
            exact ⟨i + 1, a, by omega, by go_num, rfl, by omega, by have := HT.out; rw [HX.out] at this; exact this, HB⟩
          case measure => simp [intOf]; omega
    · obtain rfl : i = 18 := by omega
      obtain rfl : a = 0 := by omega
      have hwd : ∀ y ∈ dsOf pl 18, y < 10 := dsOf_wd pl 18
      have hcv : (convert 37 9 (.slice (some ⟨w.heap.size + 1, 0, none⟩) 162 162)).run Tryd.prog wr = .ok (.string (txt (dsOf pl 18))) wr := by
        have hln : ((dsOf pl 18).reverse.map dch).length = 162 := by simp [dsOf_len]
        have h := run_convert_bytes_back (P := Tryd.prog) wr 37 9 5 ⟨w.heap.size + 1, 0, none⟩ 162 ((dsOf pl 18).reverse.map dch) Tryd.underlying37 Tryd.underlying5 Tryd.underlying9 (fun j hj => by
          rw [hln] at hj
          rw [Addr.add_lit, Nat.zero_add, HT.out.dig j hj (by rw [dsOf_len]; omega)]
          have hlt2 : 161 - j < (dsOf pl 18).length := by rw [dsOf_len]; omega
          rw [List.getElem_map, List.getElem_reverse, dch_toNat (hwd _ (List.getElem_mem _))]
          rw [List.getD_eq_getElem?_getD, List.getElem?_eq_getElem hlt2]
          simp only [Option.getD_some, dsOf_len])
        rw [hln] at h
        exact h
      clear hwd
      go_wp2_with fail
      go_ret
      exact ⟨rfl, HB.out⟩
end Go.Proofs.YtfkkhabpnnealaaDoor

