/-
  The contract of the document's own times at every argument.
-/
import Derived.Test.YtfkkhabpnnealaaDoorRefA
import Derived.Test.YtfkkhabpnnealaaDoorWalkH
namespace Go.Proofs.YtfkkhabpnnealaaDoor
open Go.RowKit
attribute [local go_sem ↓] Go.wp_at_zero Go.wp_at_succ
open Go.Sort (Holds putRow holds_putRow putRow_self putRow_set cell?_putRow_other)
theorem set_win (d r : List Nat) (i t : Nat) (h : i + r.length < d.length) : (d.take i ++ (r ++ d.drop (i + r.length))).set (i + r.length) t = d.take i ++ ((r ++ [t]) ++ d.drop (i + r.length + 1)) := by
  have h1 : (d.take i).length = i := by simp; omega
  have h2 : (d.take i ++ r).length = i + r.length := by rw [List.length_append, h1]
  have h3 := set_mid (d.take i ++ r) (d.drop (i + r.length + 1)) (d[i + r.length]'h) t
  rw [h2, ← List.drop_eq_getElem_cons h, List.append_assoc] at h3
  rw [h3]
  simp
theorem getD_win (d r : List Nat) (i : Nat) (h : i + r.length < d.length) : (d.take i ++ (r ++ d.drop (i + r.length))).getD (i + r.length) 0 = d.getD (i + r.length) 0 := by
  have h1 : (d.take i).length = i := by simp; omega
  simp only [List.getD_eq_getElem?_getD]
  rw [List.getElem?_append_right (by omega), h1, List.getElem?_append_right (by omega), List.getElem?_drop]
  congr 2
  omega
theorem len_win (d r : List Nat) (i : Nat) (h : i + r.length ≤ d.length) : (d.take i ++ (r ++ d.drop (i + r.length))).length = d.length := by simp; omega
set_option maxRecDepth 100000 in
set_option maxHeartbeats 4000000 in
theorem rtimes_any (ao : Option Addr) (n cap : Nat) (l : List Nat) (ap : Option Addr) (m capb : Nat) (p : List Nat) (w : World) (hl : Sl w ao n cap l) (hp : Sl w ap m capb p) (hn : n ≤ 100000) (hm : m ≤ 100000) :
    Calls Tryd.prog 52 #[.slice ao n cap, .slice ap m capb] w fun e w' => ∃ r, e = .returned (.slice (some ⟨w.heap.size, 0, none⟩) (n + m) (n + m)) ∧ Own w' w.heap.size (some ⟨w.heap.size, 0, none⟩) (n + m) (n + m) r ∧ vl 4294967296 r = vl 4294967296 l * vl 4294967296 p ∧ Below w.heap.size w w' := by
  have HL : Hid (Sl w ao n cap l) := hl
  have HP : Hid (Sl w ap m capb p) := hp
  clear hl hp
  obtain ⟨i0, hi, hz0, hz1, hz2⟩ := info_parts Tryd.info73
  go_enter Tryd.func52, Tryd.ntmps52
  go_wp2_with (at_make; refine wpList_make_full w rfl (.tmp 13) (.tmp 13) 22 rfl w.heap.size 73 i0 (.int .u32 0) 1 Tryd.underlying22 hi hz0 hz1 .i64 .i64 _ _ (n + m) rfl rfl (by omega) (by omega) (by rw [hz2]; omega) (by unfold maxLen; omega) (Nat.le_refl _) ?_; intro w1 hown hgrow; have hb1 : Hid (Below w.heap.size w w1) := ((Below.refl _ w).grown hgrow (Nat.le_refl _) (by intro k hk; cases hk)); have HO : Hid (w1.heap[w.heap.size]? = some (.cells ((List.replicate (n + m) 0).map eU).toArray 73 (0, 0))) := (by rw [made_zeros] at hown; exact (made_heap hown).1); clear hown hgrow)
  go_loopw [6] (fun iv wr => ∃ (i : Nat) (d : List Nat), i ≤ n ∧ iv = .int .i64 i ∧ Hid (MulR l p i d) ∧ Hid (Holds eU wr w.heap.size 0 d.toArray) ∧ Hid (w.heap.size < wr.heap.size) ∧ Hid (Below w.heap.size w wr)) (fun iv _ => n - (intOf iv).toNat)
  case atStart => exact ⟨0, List.replicate (n + m) 0, Nat.zero_le _, rfl, ⟨by have := HL.out.len; have := HP.out.len; simp; omega, wd_replicate _, by rw [vl_replicate]; simp [vl], by rw [List.drop_replicate, vl_replicate]⟩, (holds_heap HO.out).1, (holds_heap HO.out).2, hb1⟩
  case round =>
    clear HO hb1
    obtain ⟨i, d, hi, rfl, HR, HH, HZ, HB⟩ := hrel
    by_cases hlt : i < n
    · obtain ⟨bl, ol, rfl, hbl, hcl⟩ := HL.out.at_ (by omega)
      obtain ⟨w0, hw0⟩ : ∃ w0, w0 = wr := ⟨_, rfl⟩
      subst hw0
      obtain ⟨x, hx⟩ : ∃ x, x = l.getD i 0 := ⟨_, rfl⟩
      have hcx := hcl i hlt
      rw [← hx] at hcx
      have HCX : Hid (w.cell? ⟨bl, ol + i, none⟩ = some (.int .u32 (x : Int)) ∧ bl < w.heap.size) := ⟨hcx, hbl⟩
      have hxb : x ≤ 4294967295 := by have := HL.out.wd.at (by omega) i; omega
      have HX : Hid (x = l.getD i 0) := hx
      have hdl : d.length = n + m := by rw [HR.out.len, HL.out.len, HP.out.len]
      have HDL : Hid (d.length = n + m) := hdl
      clear hx hcl hbl hcx hdl
      go_wp2_with fail
      go_loopw [7, 8] (fun cv kv wr => ∃ (k c : Nat) (r : List Nat), k ≤ m ∧ kv = .int .i64 k ∧ cv = .int .u64 c ∧ c ≤ 4294967295 ∧ Hid (AddR (d.drop i) p x k r c) ∧ Hid (Holds eU wr w.heap.size 0 (d.take i ++ (r ++ d.drop (i + k))).toArray) ∧ Hid (w.heap.size < wr.heap.size) ∧ Hid (Below w.heap.size w wr)) (fun _ kv _ => m - (intOf kv).toNat)
      case atStart => exact ⟨0, 0, [], Nat.zero_le _, rfl, rfl, by omega, ⟨rfl, by simp [Wd], by omega, by simp [vl]⟩, by simpa [Hid] using HH.out, HZ, HB⟩
      case round =>
        clear HH HZ HB
        obtain ⟨k, c, r, hk, rfl, rfl, hcb, HA, HH, HZ, HB⟩ := hrel
        have hrk := HA.out.len
        by_cases hkm : k < m
        · obtain ⟨bp, op, rfl, hbp, hcp⟩ := HP.out.at_ (by omega)
          have hcy := (HB.out.cell (p := ⟨bp, op + k, none⟩) hbp).trans (hcp k hkm)
          have hcx := (HB.out.cell (p := ⟨bl, ol + i, none⟩) HCX.out.2).trans HCX.out.1
          obtain ⟨hcd, hfd⟩ := holds_cell HH.out (i + k) (by subst hrk; rw [len_win d r i (by rw [HDL.out]; omega), HDL.out]; omega)
          rw [Nat.zero_add] at hcd hfd
          have hgd : (d.take i ++ (r ++ d.drop (i + k))).getD (i + k) 0 = d.getD (i + k) 0 := by subst hrk; exact getD_win d r i (by rw [HDL.out]; omega)
          rw [hgd] at hcd
          obtain ⟨y, hy⟩ : ∃ y, y = p.getD k 0 := ⟨_, rfl⟩
          obtain ⟨z, hz⟩ : ∃ z, z = d.getD (i + k) 0 := ⟨_, rfl⟩
          rw [← hy] at hcy
          rw [← hz] at hcd
          have hyb : y ≤ 4294967295 := by have := HP.out.wd.at (by omega) k; omega
          have hzb : z ≤ 4294967295 := by have := HR.out.wd.at (by omega) (i + k); omega
          have HY : Hid (y = p.getD k 0) := hy
          have HZZ : Hid (z = (d.drop i).getD k 0) := by show _ = _; rw [hz, List.getD_eq_getElem?_getD, List.getD_eq_getElem?_getD, List.getElem?_drop]
          have HRK : Hid (r.length = k) := hrk
          clear hy hz hcp hbp hgd hrk
          obtain ⟨hp0, hp1⟩ := mulB hxb hyb
          have HPQ : Hid (((x * y : Nat) : Int) = (x : Int) * (y : Int)) := by show _ = _; rw [Int.natCast_mul]
          go_wp2_with fail
          go_quiet (fail)
          have hcd2 : ∀ q, (wr.drewN q).cell? ⟨w.heap.size, i + k, none⟩ = some (.int .u32 (z : Int)) := fun q => hcd
          have hfd2 : ∀ q, (wr.drewN q).frozen? ⟨w.heap.size, i + k, none⟩ = false := fun q => hfd
          go_wp2_with fail
          go_roundw
          case rel =>
            have ha := HPQ.out
            generalize hpe : x * y = q at ha
            clear HPQ
            generalize (x : Int) * (y : Int) = xy at *
            have hq : q ≤ 18446744065119617025 := by omega
            have hrk := HRK.out
            refine ⟨k + 1, (c + q + z) / 4294967296, r ++ [(c + q + z) % 4294967296], by omega, by go_num, by congr 1; omega, by omega, HA.out.step HZZ.out HY.out hpe (by omega) (by omega) (by omega), ?_, ?_, ?_⟩
            · have h1 := holds_set (t := (c + q + z) % 4294967296) (z := ((c : Int) + xy + (z : Int)) % 4294967296) (w := wr.drewN nq) HH.out (i := i + k) (by subst hrk; rw [len_win d r i (by rw [HDL.out]; omega), HDL.out]; omega) (by omega)
              subst hrk
              rw [set_win d r i _ (by rw [HDL.out]; omega)] at h1
              exact h1
            · have := HZ.out; simpa [Hid] using this
            · exact (below_drews HB.out _).setCell (p := ⟨w.heap.size, i + k, none⟩) (Nat.le_refl _) _
          case measure => simp [intOf]; omega
        · obtain rfl : k = m := by omega
          obtain ⟨hcd, hfd⟩ := holds_cell HH.out (i + k) (by subst hrk; rw [len_win d r i (by rw [HDL.out]; omega), HDL.out]; omega)
          rw [Nat.zero_add] at hcd hfd
          generalize (d.take i ++ (r ++ d.drop (i + k))).getD (i + k) 0 = z at hcd
          have HRK : Hid (r.length = k) := hrk
          clear hrk
          go_wp2_with fail
          go_roundw
          case rel =>
            have hrk := HRK.out
            have e2 := HP.out.len
            have e1 := HL.out.len
            have h1 := holds_set (t := c) (z := (c : Int)) HH.out (i := i + k) (by subst hrk; rw [len_win d r i (by rw [HDL.out]; omega), HDL.out]; omega) rfl
            have hst := HR.out.step (r := r ++ [c]) (c := 0) (by omega) HP.out.wd HL.out.wd (by simp; omega) (Wd.append.2 ⟨HA.out.wd, by simp [Wd]; omega⟩) (by
              rw [vl_append, hrk, Nat.mul_zero, Nat.add_zero, ← HX.out, e2]
              have h3 := HA.out.eq
              rw [List.take_of_length_le (show p.length ≤ k by omega)] at h3
              have hz : (d.drop i).getD k 0 = 0 := by
                have h4 := zeros_of_vl 4294967296 (by omega) _ HR.out.top
                rw [List.getD_eq_getElem?_getD, List.getElem?_drop, List.getElem?_eq_getElem (by rw [HDL.out]; omega)]
                refine h4 _ ?_
                rw [List.mem_iff_getElem]
                exact ⟨0, by rw [List.length_drop, HDL.out, e2]; omega, by simp [e2]⟩
              rw [vl_take_next, hz, Nat.mul_zero, Nat.add_zero]
              simp only [vl, Nat.mul_zero, Nat.add_zero]
              exact h3)
            refine ⟨i + 1, _, by omega, by go_num, hst, ?_, ?_, ?_⟩
            · subst hrk
              rw [set_win d r i _ (by rw [HDL.out]; omega)] at h1
              rw [e2, show i + (r.length + 1) = i + r.length + 1 from by omega]
              exact h1
            · have := HZ.out; simpa [Hid] using this
            · exact HB.out.setCell (p := ⟨w.heap.size, i + k, none⟩) (Nat.le_refl _) _
          case measure => simp [intOf]; omega
    · go_wp2_with fail
      go_ret
      obtain rfl : i = n := by omega
      have e1 := HL.out.len
      have e2 := HP.out.len
      exact ⟨d, rfl, Own.of_holds (by rw [HR.out.len]; omega) (Nat.le_refl _) (by omega) HR.out.wd (Nat.le_refl _) HZ.out HH.out, by rw [HR.out.eq, List.take_of_length_le (by omega)], HB.out⟩
end Go.Proofs.YtfkkhabpnnealaaDoor

