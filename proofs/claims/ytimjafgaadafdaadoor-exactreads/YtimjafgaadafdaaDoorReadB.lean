/-
  The contract of exact.read at every text of digits.
-/
import Derived.Test.YtimjafgaadafdaaDoorReadA
namespace Go.Proofs.YtimjafgaadafdaaDoor
open Go.RowKit
attribute [local go_sem ↓] Go.wp_at_zero Go.wp_at_succ
open Go.Sort (Holds putRow holds_putRow putRow_self putRow_set cell?_putRow_other)
theorem pieces_done {S : ByteArray} {pl : List Nat} (hl : pl.length = 18) (h : ∀ g, g < 18 → pl.getD g 0 = pc (dl S) 0 g) : pl = (List.range 18).map (pc (dl S) 0) := by
  apply List.ext_getElem
  · simp [hl]
  · intro i h1 h2
    have h3 := h i (by omega)
    rw [List.getD_eq_getElem?_getD, List.getElem?_eq_getElem h1, Option.getD_some] at h3
    rw [h3]
    simp
theorem pieces_step {S : ByteArray} {pl : List Nat} {i y : Nat} (hi : i < S.size) (hl : pl.length = 18) (h : ∀ g, g < 18 → pl.getD g 0 = pc (dl S) (S.size - i) g) (hy : y = pl.getD ((S.size - 1 - i) / 9) 0 * 10 + (bt S i - 48)) :
    ∀ g, g < 18 → (pl.set ((S.size - 1 - i) / 9) y).getD g 0 = pc (dl S) (S.size - (i + 1)) g := by
  intro g hg
  have hp : S.size - (i + 1) < (dl S).length := by rw [dl_len]; omega
  have e1 : S.size - 1 - i = S.size - (i + 1) := by omega
  have e2 : S.size - i = S.size - (i + 1) + 1 := by omega
  rw [e1] at hy ⊢
  rw [e2] at h
  clear e1 e2
  generalize hP : S.size - (i + 1) = P at *
  by_cases e : g = P / 9
  · subst e
    rw [List.getD_eq_getElem?_getD, List.getElem?_set, if_pos rfl, if_pos (by omega), Option.getD_some, pc_same _ _ hp, hy, h _ hg, dl_at S P (by rw [dl_len] at hp; exact hp), show S.size - 1 - P = i from by omega]
    omega
  · rw [List.getD_eq_getElem?_getD, List.getElem?_set, if_neg (fun h2 => e h2.symm), ← List.getD_eq_getElem?_getD, h g hg, pc_other _ _ _ e]
theorem results_cell {P : Program} {f : Func} {tmps : Array Value} {W : World} {a t : Nat} {ad : Addr} {v : Value} (hf : f.results = #[.cell a t]) (ha : tmps.getD a undef = .pointer (some ad)) (hl : (loadVar t ad).run P W = .ok v W) : (results f tmps).run P W = .ok v W := by
  unfold results
  rw [hf]
  have ha2 : tmps[a]?.getD undef = .pointer (some ad) := by rw [← ha]; simp
  simp [ha2, asAddr, hl]
theorem below_setCellsT {B b : Nat} {a : World} (hb : B ≤ b) : ∀ (vs : List Value) (o : Nat) (w : World), Below B a w → Below B a (w.setCells b o vs)
  | [], _, _, h => h
  | v :: r, o, _, h => below_setCellsT hb r (o + 1) _ (h.setCell (p := ⟨b, o, none⟩) hb v)
set_option maxHeartbeats 4000000 in
set_option maxRecDepth 100000 in
theorem read_any (S : ByteArray) (w : World) (hN : NumP S) (hs : S.size ≤ 155) :
    Calls Tryd.prog 55 #[.string S] w fun e w' => e = .returned (.agg (((List.range 18).map (pc (dl S) 0)).map eU).toArray) ∧ Below w.heap.size w w' := by
  have HN : Hid (NumP S) := hN
  clear hN
  go_enter Tryd.func55, Tryd.ntmps55
  go_wp2_with fail
  go_loopw [3, 4, 7] (fun _ _ iv wr => ∃ (i : Nat) (pl : List Nat), i ≤ S.size ∧ iv = .int .i64 i ∧ Hid (pl.length = 18) ∧ Hid (∀ g, g < 18 → pl.getD g 0 = pc (dl S) (S.size - i) g) ∧ Hid (Holds eU wr w.heap.size 0 pl.toArray) ∧ Hid (w.heap.size < wr.heap.size) ∧ Hid (Below w.heap.size w wr)) (fun _ _ iv _ => S.size - (intOf iv).toNat)
  case atStart => exact ⟨0, List.replicate 18 0, Nat.zero_le _, rfl, by simp [Hid], fun g hg => by rw [Nat.sub_zero, ← dl_len, pc_start, List.getD_eq_getElem?_getD, List.getElem?_replicate, if_pos hg]; rfl, zero18 w, by simp [Hid], (Below.refl _ _).alloc (Nat.le_refl _) _⟩
  case round =>
    obtain ⟨i, pl, hi, rfl, PL, PG, HH, HS, HB⟩ := hrel
    by_cases hlt : i < S.size
    · have hbt := bt_at S i hlt
      obtain ⟨x, hx⟩ : ∃ x, x = bt S i := ⟨_, rfl⟩
      have hb2 : ((S[i]'hlt).toNat : Int) = (x : Int) := by rw [hbt, hx]
      have hdg := HN.out.dig i hlt
      rw [← hx] at hdg
      have HX : Hid (x = bt S i) := hx
      obtain ⟨q, hq⟩ : ∃ q, q = (S.size - 1 - i) / 9 := ⟨_, rfl⟩
      have hq18 : q < 18 := by omega
      have hqI : ((S.size : Int) - 1 - (i : Int)) / 9 = (q : Int) := by omega
      obtain ⟨y, hy⟩ : ∃ y, y = pl.getD q 0 := ⟨_, rfl⟩
      obtain ⟨hcd, hfd⟩ := holds_cell HH.out q (by rw [PL.out]; exact hq18)
      rw [Nat.zero_add, ← hy] at hcd
      rw [Nat.zero_add] at hfd
      have hyb : y * 10 + (x - 48) < 1000000000 := by
        have h1 := pc_next (dl S) HN.out.wd (S.size - 1 - i) (by rw [dl_len]; omega)
        rw [dl_at S _ (by omega), show S.size - 1 - (S.size - 1 - i) = i from by omega, ← hx, show S.size - 1 - i + 1 = S.size - i from by omega, ← PG.out _ (by omega), ← hq, ← hy] at h1
        exact h1
      have HY : Hid (y = pl.getD q 0) := hy
      have HQ : Hid (q = (S.size - 1 - i) / 9) := hq
      clear hx hbt hy hq
      go_wp2_with fail
      go_region
      go_wp2_with fail
      go_roundw
      case rel =>
        have hx := HX.out
        have hq := HQ.out
        refine ⟨i + 1, pl.set q (y * 10 + (x - 48)), by omega, by go_num, by show _ = _; rw [List.length_set]; exact PL.out, ?_, ?_, ?_, ?_⟩
        · have h1 := pieces_step (y := y * 10 + (x - 48)) hlt PL.out PG.out (by rw [← hq, ← hx, HY.out])
          rw [← hq] at h1
          exact h1
        · exact holds_below (holds_set HH.out (by rw [PL.out]; exact hq18) (by omega)) (Below.refl (w.heap.size + 1) _).drew (by omega)
        · have := HS.out; simpa [Hid] using this
        · exact (HB.out.setCell (p := ⟨w.heap.size, q, none⟩) (Nat.le_refl _) _).drew
      case measure => simp [intOf]; omega
    · obtain rfl : i = S.size := by omega
      rw [Nat.sub_self] at PG
      have HD : Hid (pl = (List.range 18).map (pc (dl S) 0)) := pieces_done PL.out PG.out
      have HAL : Hid (some 18 = some (pl.map eU).length) := by show _ = _; rw [List.length_map, PL.out]
      have HRG : Hid (wr.rangeAt w.heap.size 0 (pl.map eU)) := by
        intro j v hj
        have hjn : j < pl.length := by
          rcases Nat.lt_or_ge j pl.length with h | h
          · exact h
          · rw [List.getElem?_eq_none (by simpa using h)] at hj; cases hj
        rw [getElem?_map_eU pl j hjn] at hj
        rw [← hj]
        exact (holds_cell HH.out j hjn).1
      obtain ⟨A, hA⟩ : ∃ A, A = pl.map eU := ⟨_, rfl⟩
      rw [← hA] at HRG HAL
      have HA : Hid (A = pl.map eU) := hA
      clear hA
      have HTH : Hid (wr.there w.heap.size 0 A.toArray.size) := by
        intro j hj
        have hjn : j < pl.length := by rw [HA.out] at hj; simpa using hj
        have h1 := holds_cell HH.out j hjn
        rw [h1.1]
        exact ⟨rfl, h1.2⟩
      have H1C : Hid (A.toArray.all (·.oneCell') = true) := all_oneCell_toArray (by rw [HA.out]; exact eU_one)
      have HSZ : Hid (some 18 = some A.toArray.size) := by rw [List.size_toArray]; exact HAL.out
      go_wp2_with (first | (refine wpList_load_mid rfl 60 (.tmp 2) rfl w.heap.size 0 rfl A _ HRG.out Tryd.underlying60 rfl (size60.trans HAL.out) ?_) | (refine wpList_store_mid rfl 60 (.tmp 2) (.tmp 29) rfl w.heap.size 0 A.toArray rfl rfl HTH.out (size60.trans HSZ.out) H1C.out ?_))
      have hlv := run_loadVar_mid (P := Tryd.prog) (wr.setCells w.heap.size 0 A) w.heap.size 0 60 A _ (World.rangeAt_setCells_same wr w.heap.size 0 A (by have := HTH.out; rwa [List.size_toArray] at this)) Tryd.underlying60 rfl (size60.trans HAL.out)
      refine bodyPost_ret (v := .agg A.toArray) (results_cell Tryd.results55 rfl hlv) rfl ⟨?_, ?_⟩
      · rw [← HD.out, ← HA.out]
      · exact below_setCellsT (Nat.le_refl _) _ _ _ HB.out
end Go.Proofs.YtimjafgaadafdaaDoor
