/-
  The contract of exact's words of pieces.
-/
import Derived.Test.YtimjafgaadafdaaDoorReadB
namespace Go.Proofs.YtimjafgaadafdaaDoor
open Go.RowKit
attribute [local go_sem ↓] Go.wp_at_zero Go.wp_at_succ
open Go.Sort (Holds putRow holds_putRow putRow_self putRow_set cell?_putRow_other)
theorem words_step {p V1 V2 c E : Nat} (hp : p < 1000000000) (h1 : V1 < E) (he : V2 + (E * 4294967296) * c = p + 1000000000 * V1) : c = 0 ∧ V2 = p + 1000000000 * V1 := by
  have h2 : 1000000000 * V1 ≤ 1000000000 * (E - 1) := Nat.mul_le_mul_left _ (by omega)
  rcases Nat.eq_zero_or_pos c with h0 | h0
  · subst h0; exact ⟨rfl, by rw [Nat.mul_zero] at he; exact he⟩
  · have h3 : (E * 4294967296) * 1 ≤ (E * 4294967296) * c := Nat.mul_le_mul_left _ h0
    generalize (E * 4294967296) * c = X at *
    omega
set_option maxHeartbeats 4000000 in
set_option maxRecDepth 100000 in
theorem words_any (pl : List Nat) (w : World) (hl : pl.length = 18) (hw : Wd 1000000000 pl) :
    Calls Tryd.prog 56 #[.agg (pl.map eU).toArray] w fun e w' => ∃ ao k cap r, e = .returned (.slice ao k cap) ∧ Own w' w.heap.size ao k cap r ∧ k ≤ 18 ∧ vl 4294967296 r = vl 1000000000 pl ∧ Below w.heap.size w w' := by
  have HL : Hid (pl.length = 18) := hl
  have HW : Hid (Wd 1000000000 pl) := hw
  obtain ⟨i0, hi, hz0, hz1, hz2⟩ := info_parts Tryd.info47
  obtain ⟨A, hA⟩ : ∃ A, A = pl.map eU := ⟨_, rfl⟩
  rw [← hA]
  have HA : Hid (A = pl.map eU) := hA
  clear hl hw hA
  go_enter Tryd.func56, Tryd.ntmps56
  have HC0 : Hid (∀ j, j < 18 → (w.alloc (Obj.cells A.toArray 60)).cell? ⟨w.heap.size, j, none⟩ = some (.int .u32 (pl.getD j 0 : Nat))) := fun j hj => by
    rw [World.cell?_alloc_new, HA.out]
    have := getElem?_map_eU pl j (by rw [HL.out]; exact hj)
    simpa using this
  have HB0 : Hid (Below w.heap.size w (w.alloc (Obj.cells A.toArray 60))) := (Below.refl _ _).alloc (Nat.le_refl _) _
  have HS0 : Hid ((w.alloc (Obj.cells A.toArray 60)).heap.size = w.heap.size + 1) := by simp [Hid]
  go_wp2_with fail
  generalize w.alloc (Obj.cells A.toArray 60) = W0 at *
  go_loopw [2, 3, 4] (fun mv iv _ wr => ∃ (j k mc : Nat) (ma : Option Addr) (r : List Nat), j ≤ 18 ∧ iv = .int .i64 ((j : Int) - 1) ∧ mv = .slice ma k mc ∧ k + j ≤ 18 ∧ Hid (Own wr (w.heap.size + 1) ma k mc r) ∧ Hid (vl 4294967296 r = vl 1000000000 (pl.drop j)) ∧ Hid (Below W0.heap.size W0 wr)) (fun _ iv _ _ => (intOf iv + 1).toNat)
  case atStart => exact ⟨18, 0, 0, none, [], Nat.le_refl _, rfl, rfl, by omega, ⟨Sl.nil _, fun h => by omega⟩, by show _ = _; rw [List.drop_of_length_le (by rw [HL.out]; exact Nat.le_refl _)]; rfl, Below.refl _ _⟩
  case round =>
    obtain ⟨j, k, mc, ma, r, hj, rfl, rfl, hkj, OM, VM, HBQ⟩ := hrel
    have hws : w.heap.size + 1 ≤ wr.heap.size := by have := HBQ.out.size; have := HS0.out; omega
    by_cases hlt : 0 < j
    · obtain ⟨i, rfl⟩ : ∃ i, j = i + 1 := ⟨j - 1, by omega⟩
      obtain ⟨p, hp⟩ : ∃ p, p = pl.getD i 0 := ⟨_, rfl⟩
      have hpb : p < 1000000000 := by rw [hp]; exact HW.out.at (by omega) i
      have HP : Hid (p = pl.getD i 0) := hp
      clear hp
      go_wp2_with (at_make; refine wpList_make_full wr rfl (.tmp 11) (.tmp 11) 22 rfl wr.heap.size 47 i0 (.int .u32 0) 1 Tryd.underlying22 hi hz0 hz1 .i64 .i64 _ _ (k + 1) rfl rfl (by omega) (by omega) (by rw [hz2]; omega) (by unfold maxLen; omega) (Nat.le_refl _) ?_; intro w1 hown hgrow; have HB1 : Hid (Below wr.heap.size wr w1) := ((Below.refl _ wr).grown hgrow (Nat.le_refl _) (by intro k hk; cases hk)); have HO : Hid (w1.heap[wr.heap.size]? = some (.cells ((List.replicate (k + 1) 0).map eU).toArray 47 (0, 0))) := (by rw [made_zeros] at hown; exact (made_heap hown).1); clear hown hgrow; have hcp : w1.cell? ⟨w.heap.size, i, none⟩ = some (.int .u32 (p : Int)) := ((HB1.out.cell (p := ⟨w.heap.size, i, none⟩) (by show w.heap.size < wr.heap.size; omega)).trans ((HBQ.out.cell (p := ⟨w.heap.size, i, none⟩) (by have := HS0.out; show w.heap.size < W0.heap.size; omega)).trans (by rw [HP.out]; exact HC0.out i (by omega)))); have HH1 : Hid (Holds eU w1 wr.heap.size 0 (List.replicate (k + 1) 0).toArray ∧ wr.heap.size < w1.heap.size) := (holds_heap HO.out); obtain ⟨hcd, hfd⟩ := holds_cell HH1.out.1 0 (by simp); rw [Nat.zero_add] at hcd hfd; clear HO)
      have HH2 : Hid (Holds eU (w1.setCell ⟨wr.heap.size, 0, none⟩ (.int .u32 (p : Int))) wr.heap.size 0 (p :: List.replicate k 0).toArray) := by
        have h := holds_set (i := 0) (t := p) (z := (p : Int)) HH1.out.1 (by simp) rfl
        rw [List.replicate_succ, List.set_cons_zero] at h
        exact h
      have HB2 : Hid (Below wr.heap.size wr (w1.setCell ⟨wr.heap.size, 0, none⟩ (.int .u32 (p : Int)))) := HB1.out.setCell (p := ⟨wr.heap.size, 0, none⟩) (Nat.le_refl _) _
      have HS2 : Hid (wr.heap.size < (w1.setCell ⟨wr.heap.size, 0, none⟩ (.int .u32 (p : Int))).heap.size) := by have := HH1.out.2; simpa [Hid] using this
      generalize w1.setCell ⟨wr.heap.size, 0, none⟩ (.int .u32 (p : Int)) = w2 at *
      clear hcd hfd hcp HH1 HB1
      refine (addTimes_any wr.heap.size 0 (k + 1) (k + 1) (p :: List.replicate k 0) ma k mc r 1000000000 _ HH2.out (by simp) (Wd.cons.2 ⟨by omega, wd_replicate k⟩) (OM.out.sl.below HB2.out (Nat.le_refl _)) (OM.out.sl.apart (Nat.le_refl _)) (by omega) (by omega)).mono ?_
      rintro e w3 ⟨r2, c, rfl, hw3, hadd⟩
      have HH3 : Hid (Holds eU w3 wr.heap.size 0 r2.toArray) := by rw [hw3]; exact holds_putRow eU w2 wr.heap.size 0 _ r2.toArray HH2.out (by simp [hadd.len])
      have HB3 : Hid (Below wr.heap.size wr w3) := by rw [hw3]; exact below_putRow HB2.out (Nat.le_refl _) 0 _
      have HS3 : Hid (wr.heap.size < w3.heap.size) := by have := HS2.out; rw [hw3]; simpa [Hid] using this
      have R2L : Hid (r2.length = k + 1) := hadd.len
      have R2W : Hid (Wd 4294967296 r2) := hadd.wd
      have R2V : Hid (vl 4294967296 r2 = p + 1000000000 * vl 4294967296 r) := by
        have h1 := hadd.eq
        rw [List.take_of_length_le (by simp), List.take_of_length_le (by rw [OM.out.sl.len]; omega), Nat.pow_succ] at h1
        have h2 : vl 4294967296 (p :: List.replicate k 0) = p := by rw [vl, vl_replicate]; omega
        rw [h2] at h1
        have h3 := vl_lt 4294967296 r OM.out.sl.wd
        rw [OM.out.sl.len] at h3
        exact (words_step hpb h3 h1).2
      have O3 : Hid (Own w3 (w.heap.size + 1) (some ⟨wr.heap.size, 0, none⟩) (k + 1) (k + 1) r2) := Own.of_holds R2L.out (Nat.le_refl _) (by omega) R2W.out hws HS3.out HH3.out
      clear hw3 hadd HH2 HB2 HS2
      go_wp2_with fail
      refine (trimmed_eq _ (k + 1) (k + 1) r2 _ O3.out.sl).mono ?_
      rintro e w4 ⟨rfl, rfl⟩
      have K2 := tk_le O3.out.sl
      go_wp2_with fail
      go_roundw
      case rel =>
        have hd : pl.drop i = p :: pl.drop (i + 1) := by
          have hil : i < pl.length := by rw [HL.out]; omega
          rw [List.drop_eq_getElem_cons hil, HP.out, List.getD_eq_getElem?_getD, List.getElem?_eq_getElem hil]; rfl
        refine ⟨i, tk r2, k + 1, _, r2.take (tk r2), by omega, by go_num, rfl, ?_, Own.of_holds (by rw [List.length_take, R2L.out]; omega) (by omega) (by omega) (R2W.out.take _) hws HS3.out (holds_take HH3.out _ (by rw [R2L.out]; exact K2)), ?_, HBQ.out.trans (HB3.out.mono HBQ.out.size)⟩
        · omega
        · show _ = _
          rw [trim_val, R2V.out, VM.out, hd]; rfl
      case measure => simp [intOf]
    · obtain rfl : j = 0 := by omega
      go_wp2_with fail
      go_ret
      exact ⟨ma, k, mc, r, rfl, OM.out.mono (by omega), by omega, by rw [VM.out, List.drop_zero], HB0.out.trans (HBQ.out.mono (by have := HS0.out; omega))⟩
end Go.Proofs.YtimjafgaadafdaaDoor
