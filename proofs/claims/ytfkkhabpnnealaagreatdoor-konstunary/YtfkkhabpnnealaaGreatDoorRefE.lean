/-
  The contracts of the document's own size, plus, minus at every argument.
-/
import Derived.Test.YtfkkhabpnnealaaGreatDoorRefAB
namespace Go.Proofs.YtfkkhabpnnealaaGreatDoor
open Go.RowKit
attribute [local go_sem ↓] Go.wp_at_zero Go.wp_at_succ
open Go.Sort (Holds putRow holds_putRow putRow_self putRow_set cell?_putRow_other)
set_option maxRecDepth 100000 in
set_option maxHeartbeats 2000000 in
theorem rsize_any (ao : Option Addr) (n cap : Nat) (l : List Nat) (ap : Option Addr) (m capb : Nat) (p : List Nat) (w : World) (hl : Sl w ao n cap l) (hp : Sl w ap m capb p) (fl : Form 4294967296 l) (fp : Form 4294967296 p) (hn : n ≤ 1000000) (hm : m ≤ 1000000) :
    Calls Tryz.prog 52 #[.slice ao n cap, .slice ap m capb] w fun e w' => e = .returned (.int .i64 (cmpI (vl 4294967296 l) (vl 4294967296 p))) ∧ Below w.heap.size w w' := by
  have HL : Hid (Sl w ao n cap l) := hl
  have HP : Hid (Sl w ap m capb p) := hp
  have FL : Hid (Form 4294967296 l) := fl
  have FP : Hid (Form 4294967296 p) := fp
  have e1 := hl.len
  have e2 := hp.len
  clear hl hp fl fp
  rcases Nat.lt_trichotomy n m with hlt | rfl | hlt
  · have hv := Form.len_lt (e := 4294967296) (by omega) FL.out.wd FP.out (by omega)
    have HE : Hid (cmpI (vl 4294967296 l) (vl 4294967296 p) = -1) := by show _ = _; rw [cmpI_lt (by omega)]
    clear hv e1 e2
    have hne : (n : Int) ≠ m := by omega
    go_enter Tryz.func52, Tryz.ntmps52
    go_wp2_with fail
    go_ret
    exact ⟨ret_int HE.out.symm, Below.refl _ _⟩
  · have E1 : Hid (l.length = n) := e1
    have E2 : Hid (p.length = n) := e2
    clear e1 e2
    go_enter Tryz.func52, Tryz.ntmps52
    go_wp2_with fail
    go_loopw [5] (fun i wr => ∃ j : Nat, j ≤ n ∧ i = .int .i64 ((j : Int) - 1) ∧ Hid (l.drop j = p.drop j) ∧ Hid (Below w.heap.size w wr)) (fun i _ => (intOf i + 1).toNat)
    case atStart => exact ⟨n, Nat.le_refl _, rfl, by show _ = _; rw [List.drop_of_length_le (by have := E1.out; omega), List.drop_of_length_le (by have := E2.out; omega)], Below.refl _ _⟩
    case round =>
      obtain ⟨j, hj, rfl, HD, HB⟩ := hrel
      by_cases hlt : 0 < j
      · obtain ⟨i, rfl⟩ : ∃ i, j = i + 1 := ⟨j - 1, by omega⟩
        obtain ⟨bl, ol, rfl, hbl, hcl⟩ := HL.out.at_ (by omega)
        obtain ⟨bp, op, rfl, hbp, hcp⟩ := HP.out.at_ (by omega)
        have hcx := (HB.out.cell (p := ⟨bl, ol + i, none⟩) hbl).trans (hcl i (by omega))
        have hcy := (HB.out.cell (p := ⟨bp, op + i, none⟩) hbp).trans (hcp i (by omega))
        obtain ⟨x, hx⟩ : ∃ x, x = l.getD i 0 := ⟨_, rfl⟩
        obtain ⟨y, hy⟩ : ∃ y, y = p.getD i 0 := ⟨_, rfl⟩
        rw [← hx] at hcx
        rw [← hy] at hcy
        have HX : Hid (x = l.getD i 0) := hx
        have HY : Hid (y = p.getD i 0) := hy
        clear hx hy hcl hcp hbl hbp
        rcases Nat.lt_trichotomy x y with hxy | rfl | hxy
        · have HV : Hid (cmpI (vl 4294967296 l) (vl 4294967296 p) = -1) := by
            have := vl_lt_of_top l p (E1.out.trans E2.out.symm) FL.out.wd i (by rw [E1.out]; omega) HD.out (by rw [← HX.out, ← HY.out]; exact hxy)
            show _ = _
            rw [cmpI_lt (by omega)]
          have hne : (x : Int) ≠ y := by omega
          go_wp2_with fail
          go_quiet (fail)
          go_wp2_with fail
          generalize hwq : wr.drewN _ = wq
          have hcx2 : wq.cell? ⟨bl, ol + i, none⟩ = some (.int .u32 x) := by rw [← hwq]; exact hcx
          have hcy2 : wq.cell? ⟨bp, op + i, none⟩ = some (.int .u32 y) := by rw [← hwq]; exact hcy
          have HB2 : Hid (Below w.heap.size w wq) := by rw [← hwq]; exact below_drews HB.out _
          go_wp2_with fail
          go_quiet (fail)
          go_wp2_with fail
          go_ret
          exact ⟨ret_int HV.out.symm, below_drews HB2.out _⟩
        · go_wp2_with fail
          go_quiet (fail)
          go_wp2_with fail
          go_roundw
          case rel => exact ⟨i, by omega, by go_num, drop_eq_step (E1.out.trans E2.out.symm) i (by rw [E1.out]; omega) HD.out (by rw [← HX.out, ← HY.out]), below_drews HB.out _⟩
          case measure => simp [intOf]
        · have HV : Hid (cmpI (vl 4294967296 l) (vl 4294967296 p) = 1) := by
            have := vl_lt_of_top p l (E2.out.trans E1.out.symm) FP.out.wd i (by rw [E2.out]; omega) HD.out.symm (by rw [← HX.out, ← HY.out]; exact hxy)
            show _ = _
            rw [cmpI_gt (by omega)]
          have hne : (x : Int) ≠ y := by omega
          go_wp2_with fail
          go_quiet (fail)
          go_wp2_with fail
          generalize hwq : wr.drewN _ = wq
          have hcx2 : wq.cell? ⟨bl, ol + i, none⟩ = some (.int .u32 x) := by rw [← hwq]; exact hcx
          have hcy2 : wq.cell? ⟨bp, op + i, none⟩ = some (.int .u32 y) := by rw [← hwq]; exact hcy
          have HB2 : Hid (Below w.heap.size w wq) := by rw [← hwq]; exact below_drews HB.out _
          go_wp2_with fail
          go_quiet (fail)
          go_wp2_with fail
          go_ret
          exact ⟨ret_int HV.out.symm, below_drews HB2.out _⟩
      · obtain rfl : j = 0 := by omega
        have HV : Hid (cmpI (vl 4294967296 l) (vl 4294967296 p) = 0) := by
          have := HD.out
          rw [List.drop_zero, List.drop_zero] at this
          show _ = _
          rw [this, cmpI_eq rfl]
        go_wp2_with fail
        go_ret
        exact ⟨ret_int HV.out.symm, HB.out⟩
  · have hv := Form.len_lt (e := 4294967296) (by omega) FP.out.wd FL.out (by omega)
    have HE : Hid (cmpI (vl 4294967296 l) (vl 4294967296 p) = 1) := by show _ = _; rw [cmpI_gt (by omega)]
    clear hv e1 e2
    have hne : (n : Int) ≠ m := by omega
    go_enter Tryz.func52, Tryz.ntmps52
    go_wp2_with fail
    go_ret
    exact ⟨ret_int HE.out.symm, Below.refl _ _⟩
theorem news1 (w : World) (v : Value) (t : TypeId) : ∀ j u, [v][j]? = some u → (w.alloc (.cells #[v] t)).cell? ((⟨w.heap.size, 0, none⟩ : Addr).add j) = some u := fun j u hj => by
  match j, hj with
  | 0, hj => rw [Addr.add_lit, World.cell?_alloc_new]; simpa using hj
  | j + 1, hj => simp at hj
theorem one1 (x : Int) : ∀ u ∈ [Value.int .u32 x], u.oneCell' = true := fun u hu => by
  rw [List.mem_singleton] at hu; rw [hu]; rfl
theorem row_snoc (r : List Nat) (t : Nat) : (r ++ [t]).map eU = r.map eU ++ [eU t] := by simp
theorem AddR.top {l p : List Nat} {k : Nat} {r : List Nat} {c : Nat} (h : AddR l p 1 k r c) (h1 : l.length ≤ k) (h2 : p.length ≤ k) : vl 4294967296 (r ++ [c]) = vl 4294967296 l + vl 4294967296 p ∧ Wd 4294967296 (r ++ [c]) := by
  have e := h.eq
  rw [List.take_of_length_le h1, List.take_of_length_le h2, Nat.one_mul] at e
  refine ⟨?_, Wd.append.2 ⟨h.wd, by simpa [Wd] using h.small⟩⟩
  rw [vl_append, h.len]
  simpa [vl] using e
theorem getD_over {l : List Nat} {k : Nat} (h : l.length ≤ k) : l.getD k 0 = 0 := by
  rw [List.getD_eq_getElem?_getD, List.getElem?_eq_none h]; rfl
theorem wrap64 (z : Int) : IntKind.u64.wrap z = z % 18446744073709551616 := by simp [IntKind.wrap, IntKind.bits, IntKind.signed]
theorem row_put {w : World} {b n : Nat} {v : Value} {r : List Nat} {z : Int} {t : Nat} (h : w.ownsRow b 70 1 v n (r.map eU ++ [.int .u32 z])) (hz : z = (t : Int)) : w.ownsRow b 70 1 v n ((r ++ [t]).map eU) := by
  rw [row_snoc]
  rw [hz] at h
  exact h
end Go.Proofs.YtfkkhabpnnealaaGreatDoor

