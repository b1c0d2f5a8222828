/-
  chosen, trySets, Sets, Same, Tags, walked.
-/
import Derived.Test.YtleiohccaagalaaGreatEo
namespace Go.Proofs.YtleiohccaagalaaGreat
open Go.RowKit Go.Sort
attribute [local go_sem ↓] Go.wp_at_zero Go.wp_at_succ
theorem SRow.txv {w : World} {b : Nat} {a : Option Addr} {c : Nat} {l : List Bs} (h : SRow w b (.slice a l.length c) l) : TxV w a l.length c l := by
  rcases h.2 with ⟨h', h0⟩ | ⟨g, cap, cur, hv, h1, h3, h4, h5, _⟩
  · simp only [Value.slice.injEq] at h'
    obtain ⟨rfl, h2, rfl⟩ := h'
    exact ⟨rfl, by omega, .inl ⟨rfl, List.eq_nil_of_length_eq_zero h2⟩⟩
  · simp only [Value.slice.injEq, true_and] at hv
    obtain ⟨rfl, rfl⟩ := hv
    refine ⟨rfl, h4, .inr ⟨g, 0, rfl, fun i t ht => ?_⟩⟩
    have := h.cells (g := g) rfl i _ (sv_get ht)
    rw [Go.WideShapes.add_plain] at this
    exact this
set_option maxRecDepth 100000 in
theorem Tags_any {w : World} {v : Value} {p : Pt} (h : RuleV w v p) (hp : p.names.length ≤ 1000000) : Calls Tryz.prog 12 #[v] w (EoQ w (eo p.names)) := by
  have h1 := whole_any h
  obtain ⟨t, x, K, y, hm, hc⟩ := names_any p hp
  rw [hm.e] at h1
  have mm := hm.m
  have cc := hm.c
  have h2 := hc w
  clear hm hc h
  generalize p.names = L at *
  go_enter Tryz.func12, Tryz.ntmps12
  go_wp2_with (go_at_call 23; refine h1.mono ?_; rintro e w1 ⟨rfl, hw1⟩; obtain rfl := hw1.symm; clear h1)
  refine h2.mono ?_
  intro e w2 hq
  obtain ⟨v2, rfl, hr2, _⟩ := hq.ex
  obtain ⟨a2, c2, rfl⟩ := own_slice hr2
  have h3 := eachOnce_any hr2.txv (by omega)
  have HB2 : Hid (Below w.heap.size w w2) := hq.bl
  have hz2 := HB2.out.size
  clear h2 hq hr2
  go_wp2_with (go_at_call 24; refine h3.mono ?_; intro e w3 hq; obtain ⟨a3, c3, rfl, hr3⟩ := hq.ex; have HB3 : Hid (Below w.heap.size w w3) := HB2.out.trans (hq.bl.mono hz2); have HR3 : Hid (SRow w3 w.heap.size (.slice a3 (eo L).length c3) (eo L)) := SRow.base hr3 hz2; clear hq hr3 h3)
  go_ret
  exact ⟨HB3.out, _, _, rfl, HR3.out⟩
/-- is the digit 1? -/
def dig (n k : Nat) : Bool := n / 2 ^ k % 2 == 1
/-- those whose digit is 1, of the first i -/
def chs (T : List Bs) (n : Nat) (i : Nat) : List Bs := ((List.range i).filter fun j => dig n (T.length - 1 - j)).map (T.getD · [])
theorem chs_succ (T : List Bs) (n i : Nat) : chs T n (i + 1) = chs T n i ++ if dig n (T.length - 1 - i) then [T.getD i []] else [] := by
  unfold chs
  rw [List.range_succ, List.filter_append, List.map_append]
  congr 1
  simp only [List.filter_cons, List.filter_nil]
  split <;> simp
theorem chs_le (T : List Bs) (n i : Nat) : (chs T n i).length ≤ i := by
  unfold chs
  rw [List.length_map]
  exact Nat.le_trans (List.length_filter_le _ _) (by simp)
theorem bits1 : ∀ m : Fin 1024, bits .and .i64 (m.val : Int) 1 = ((m.val % 2 : Nat) : Int) := by decide +kernel
theorem bit_dig (n k : Nat) (hn : n < 1024) : (bits .and .i64 ((n : Int) / 2 ^ k) 1 == 1) = dig n k := by
  have hlt : n / 2 ^ k < 1024 := Nat.lt_of_le_of_lt (Nat.div_le_self _ _) hn
  have h := bits1 ⟨n / 2 ^ k, hlt⟩
  rw [show ((n : Int) / 2 ^ k) = ((n / 2 ^ k : Nat) : Int) by simp]
  simp only at h
  rw [h]
  unfold dig
  by_cases h1 : n / 2 ^ k % 2 = 1
  · rw [h1]; rfl
  · have h0 : n / 2 ^ k % 2 = 0 := by omega
    rw [h0]; rfl
set_option maxRecDepth 100000 in
set_option maxHeartbeats 2000000 in
theorem chosen_any {w : World} {a : Option Addr} {c : Nat} {T : List Bs} (hT : TxV w a T.length c T) (hn : T.length ≤ 10) (n : Nat) (hm : n < 1024) : Calls Tryz.prog 31 #[.slice a T.length c, .int .i64 n] w fun e w' => ∃ v, e = .returned v ∧ SRow w' w.heap.size v (chs T n T.length) ∧ Below w.heap.size w w' := by
  have HT : Hid (TxV w a T.length c T) := hT
  have HM : Hid (n < 1024) := hm
  clear hT
  go_enter Tryz.func31, Tryz.ntmps31
  go_wp2_with fail
  go_loopg [5, 6, 7, 10] T.length (fun g u5 u6 u7 u10 wr => ∃ (i : Nat) (b : Option Addr) (d : Nat), i ≤ T.length ∧ T.length - i ≤ g ∧ u10 = .int .i64 i ∧ u5 = .slice b (chs T n i).length d ∧ Hid (SRow wr w.heap.size (.slice b (chs T n i).length d) (chs T n i) ∧ Below w.heap.size w wr))
  case atStart => exact ⟨0, none, 0, Nat.zero_le _, by omega, rfl, rfl, SRow.nil _ _, Below.refl _ _⟩
  case round =>
    obtain ⟨i, b, d, hi, hg, rfl, rfl, HX⟩ := hrel
    by_cases hlt : i < T.length
    · have z1 : (i : Int) < (T.length : Int) := by omega
      have z0 : (0 : Int) ≤ (i : Int) := by omega
      obtain ⟨g, o, rfl, hc⟩ := HT.out.at_.resolve_left (fun h => by rw [h.2] at hlt; simp at hlt)
      have hci := HX.out.2
      have ht : wr.cell? ⟨g, o + i, none⟩ = some (.string (bs T[i])) := kept_cell hci (hc i T[i] (List.getElem?_eq_getElem hlt))
      have hsl := hci.size
      have hbd := bit_dig n (T.length - 1 - i) hm
      have HS : Hid (chs T n (i + 1) = chs T n i ++ if dig n (T.length - 1 - i) then [T[i]] else []) := by
        show _ = _
        rw [chs_succ, show T.getD i [] = T[i] by simp [List.getD, List.getElem?_eq_getElem hlt]]
      have hle := chs_le T n i
      clear hci hc hm
      cases hd : dig n (T.length - 1 - i) with
      | true =>
        rw [hd] at hbd HS
        clear hd
        have HS1 : Hid (chs T n (i + 1) = chs T n i ++ [T[i]]) := by have := HS.out; show _ = _; simpa using this
        clear HS
        generalize chs T n i = C at *
        go_wp2_with (at_builtin; refine wp_app1 (by rfl) _ _ (by rfl) w.heap.size (.slice b C.length d) C T[i] wr.heap.size (by rfl) (HX.out.1.alloc _) (by rfl) (cell_new _ _ _) (by omega) (by simp; omega) ?_; intro gg cap w9 hown1 hgrow hlt9; have HO9 : Hid (SRow w9 w.heap.size (.slice (some ⟨gg, 0, none⟩) (C.length + 1) cap) (C ++ [T[i]])) := hown1; have HB9 : Hid (Below w.heap.size w w9) := (HX.out.2.alloc (by omega) _).grown hgrow (by simp; omega) (fun b hb => (HX.out.1.blk hb).1); clear hown1 hgrow)
        go_roundg (T.length - (i + 1))
        case measure => omega
        case rel =>
          refine ⟨i + 1, some ⟨gg, 0, none⟩, cap, by omega, by omega, by go_num, ?_, ?_⟩
          · rw [HS1.out, List.length_append]; rfl
          · rw [HS1.out, List.length_append]; exact ⟨HO9.out, HB9.out⟩
      | false =>
        rw [hd] at hbd HS
        clear hd
        go_wp2_with fail
        go_roundg (T.length - (i + 1))
        case measure => omega
        case rel =>
          have e : chs T n (i + 1) = chs T n i := by have := HS.out; simpa using this
          refine ⟨i + 1, b, d, by omega, by omega, by go_num, ?_, ?_⟩
          · rw [e]
          · rw [e]; exact HX.out
    · have z1 : ¬ (i : Int) < (T.length : Int) := by omega
      go_wp2_with fail
      go_ret
      have e : i = T.length := by omega
      rw [e] at HX
      exact ⟨_, rfl, by rw [e]; exact HX.out.1, HX.out.2⟩
end Go.Proofs.YtleiohccaagalaaGreat
