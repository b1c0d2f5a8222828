/-
  The contracts of the document's own large, end, times at every argument.
-/
import Derived.Test.YtfkkhabpnnealaaDoorRefA
namespace Go.Proofs.YtfkkhabpnnealaaDoor
open Go.RowKit
attribute [local go_sem ↓] Go.wp_at_zero Go.wp_at_succ
open Go.Sort (Holds putRow holds_putRow putRow_self putRow_set cell?_putRow_other)
/-- large by the number of words -/
theorem big_tk {l : List Nat} (hw : Wd 4294967296 l) : decide ((16 : Int) < (tk l : Int)) = bigN (vl 4294967296 l) := by
  have hf := trim_form hw
  have hv := trim_val l
  have hlen : (l.take (tk l)).length = tk l := by have := (tk_trim l).le; simp; omega
  unfold bigN
  rw [decide_eq_decide]
  constructor
  · intro h
    have h1 := hf.low (by intro h0; rw [h0] at hlen; simp at hlen; omega)
    rw [hlen, hv] at h1
    exact Nat.le_trans (Nat.pow_le_pow_right (by omega) (by omega)) h1
  · intro h
    have h1 := vl_lt 4294967296 _ hf.wd
    rw [hlen, hv] at h1
    rcases Nat.lt_or_ge 16 (tk l) with h2 | h2
    · omega
    · have := Nat.pow_le_pow_right (n := 4294967296) (by omega) h2
      omega
set_option maxRecDepth 100000 in
set_option maxHeartbeats 1000000 in
theorem rlarge_any (s : Bool) (ao : Option Addr) (n cap : Nat) (l : List Nat) (w : World) (hl : Sl w ao n cap l) (hz : ao = none → cap = 0) (hn : n ≤ 1000000) :
    Calls Tryd.prog 46 #[.agg #[.bool s, .slice ao n cap]] w fun e w' => e = .returned (.bool (bigN (vl 4294967296 l))) ∧ Below w.heap.size w w' := by
  have HL : Hid (Sl w ao n cap l) := hl
  have HZ : Hid (ao = none → cap = 0) := hz
  have K1 := tk_le hl
  clear hl hz
  go_enter Tryd.func46, Tryd.ntmps46
  go_wp2_with fail
  have HB0 : Hid (Below w.heap.size w (w.alloc (Obj.cells #[Value.bool s, Value.slice ao n cap] 24))) := (Below.refl _ _).alloc (Nat.le_refl _) _
  refine (rtrim_any ao n cap l _ (HL.out.below HB0.out (Nat.le_refl _)) HZ.out hn).mono ?_
  rintro e w2 ⟨ao', cap', rfl, ho, hnc, hb⟩
  have HB : Hid (Below w.heap.size w w2) := HB0.out.trans (hb.mono HB0.out.size)
  clear ho hnc hb
  go_wp2_with fail
  go_ret
  exact ⟨ret_bool (big_tk HL.out.wd), HB.out⟩
set_option maxRecDepth 100000 in
set_option maxHeartbeats 1000000 in
theorem rend_any (s : Bool) (ao : Option Addr) (n cap : Nat) (l : List Nat) (w : World) (hl : Sl w ao n cap l) (hz : ao = none → cap = 0) (hn : n ≤ 1000000) :
    Calls Tryd.prog 48 #[.agg #[.bool s, .slice ao n cap]] w fun e w' => e = .returned (.tuple #[if bigN (vl 4294967296 l) then .agg #[.bool false, .slice none 0 0] else .agg #[.bool s, .slice ao n cap], .int .i64 (eBig (vl 4294967296 l))]) ∧ Below w.heap.size w w' := by
  have HL : Hid (Sl w ao n cap l) := hl
  have HZ : Hid (ao = none → cap = 0) := hz
  clear hl hz
  cases hbig : bigN (vl 4294967296 l)
  all_goals
    have HG : Hid (bigN (vl 4294967296 l) = _) := hbig
    clear hbig
    go_enter Tryd.func48, Tryd.ntmps48
    go_wp2_with fail
    obtain ⟨x1, x2, hbW, hzW⟩ := boxes2 w (.bool s) (.slice ao n cap) (.bool false) (.slice none 0 0) 24 24 0 rfl
    have X1 : Hid (Box _ _ _ _) := x1
    have X2 : Hid (Box _ _ _ _) := x2
    have HBW : Hid (Below w.heap.size w _) := hbW
    clear x1 x2 hbW hzW
    refine (rlarge_any s ao n cap l _ (HL.out.below HBW.out (Nat.le_refl _)) HZ.out hn).mono ?_
    rintro e V ⟨rfl, hb⟩
    rw [HG.out]
    have x1 := X1.out.below hb X1.out.lt
    have x2 := X2.out.below hb X2.out.lt
    have a0 := x1.z0
    have a1 := x1.z1
    have z0 := x2.z0
    have z1 := x2.z1
    have f0 := x2.f0
    have f1 := x2.f1
    have HB : Hid (Below w.heap.size w V) := HBW.out.trans (hb.mono HBW.out.size)
    clear x1 x2 hb X1 X2 HBW
    go_wp2_with fail
  · refine bodyPost_ret (v := .tuple #[.agg #[.bool s, .slice ao n cap], .int .i64 0]) (by simp [results, Tryd.results48, go_sem, z0, z1]) rfl ⟨?_, ?_⟩
    · simp [eBig, HG.out]
    · exact (HB.out.setCell (p := ⟨w.heap.size + 1, 0, none⟩) (by show w.heap.size ≤ w.heap.size + 1; omega) _).setCell (p := ⟨w.heap.size + 1, 1, none⟩) (by show w.heap.size ≤ w.heap.size + 1; omega) _
  · refine bodyPost_ret (v := .tuple #[.agg #[.bool false, .slice none 0 0], .int .i64 2]) (by simp [results, Tryd.results48, go_sem, z0, z1]) rfl ⟨?_, ?_⟩
    · simp [eBig, HG.out]
    · exact (HB.out.setCell (p := ⟨w.heap.size + 1, 0, none⟩) (by show w.heap.size ≤ w.heap.size + 1; omega) _).setCell (p := ⟨w.heap.size + 1, 1, none⟩) (by show w.heap.size ≤ w.heap.size + 1; omega) _
end Go.Proofs.YtfkkhabpnnealaaDoor

