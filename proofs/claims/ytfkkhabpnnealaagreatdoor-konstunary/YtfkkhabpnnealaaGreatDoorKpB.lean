/-
  konst's is, takes, walked.
-/
import Derived.Test.YtfkkhabpnnealaaGreatDoorKpA
namespace Go.Proofs.YtfkkhabpnnealaaGreatDoor
open Go.RowKit
attribute [local go_sem ↓] Go.wp_at_zero Go.wp_at_succ
theorem bcell {W W' : World} (h : Below W.heap.size W W') {a : Addr} {v : Value} (hc : W.cell? a = some v) : W'.cell? a = some v :=
  (h.cell (World.block_lt_of_cell? _ _ hc)).trans hc
/-- a slice of ints reads as these -/
def InV (W : World) (v : Value) (ks : List Int) : Prop :=
  (v = .slice none 0 0 ∧ ks = []) ∨ ∃ b o c, v = .slice (some ⟨b, o, none⟩) ks.length c ∧ ∀ i (h : i < ks.length), W.cell? ⟨b, o + i, none⟩ = some (.int .i64 ks[i])
theorem InV.kept {W W' : World} {v : Value} {l : List Int} (h : InV W v l) (hk : Below W.heap.size W W') : InV W' v l := by
  rcases h with h | ⟨b, o, c, e, h⟩
  · exact .inl h
  · exact .inr ⟨b, o, c, e, fun i hi => bcell hk (h i hi)⟩
theorem InV.open {W : World} {v : Value} {l : List Int} (h : InV W v l) : ∃ a c, v = .slice a l.length c ∧ ∀ i (hi : i < l.length), ∃ b o, a = some ⟨b, o, none⟩ ∧ W.cell? ⟨b, o + i, none⟩ = some (.int .i64 l[i]) := by
  rcases h with ⟨rfl, rfl⟩ | ⟨b, o, c, rfl, h⟩
  · exact ⟨none, 0, rfl, fun i hi => by cases hi⟩
  · exact ⟨_, c, rfl, fun i hi => ⟨b, o, rfl, h i hi⟩⟩
set_option maxRecDepth 100000 in
set_option maxHeartbeats 2000000 in
theorem index_any (l : List Int) (hz : l.length ≤ 1000000) (x : Int) (w : World) (va : Value) (ha : InV w va l) :
    Calls Tryz.prog 66 #[va, .int .i64 x] w fun e w' => ∃ r : Int, e = .returned (.int .i64 r) ∧ (0 ≤ r ↔ x ∈ l) ∧ w' = w := by
  obtain ⟨a1, c1, rfl, -⟩ := ha.open
  have H1 : Hid (InV w (.slice a1 l.length c1) l) := ha
  clear ha
  go_enter Tryz.func66, Tryz.ntmps66
  go_wp2
  go_loopw [8] (fun i wr => ∃ j : Nat, i = .int .i64 j ∧ j ≤ l.length ∧ wr = w ∧ Hid (∀ i (h : i < l.length), i < j → l[i] ≠ x)) (fun i _ => l.length - (intOf i).toNat)
  case atStart => exact ⟨0, rfl, by omega, rfl, fun _ _ h => by omega⟩
  case round =>
    obtain ⟨j, rfl, hj, rfl, HN⟩ := hrel
    by_cases hlt : j < l.length
    · have hlt' : (j : Int) < (l.length : Int) := by omega
      obtain ⟨_, _, e1, g1⟩ := H1.out.open
      cases e1
      obtain ⟨b1, o1, rfl, p0⟩ := g1 j hlt
      obtain ⟨y, hy⟩ : ∃ y, l[j] = y := ⟨_, rfl⟩
      rw [hy] at p0
      have HY : Hid (l[j] = y) := hy
      clear g1 hy
      by_cases hk : x = y
      · have hk' : (x == y) = true := by simp [hk]
        have HKK : Hid (x = y) := hk
        clear hk
        go_wp2
        go_ret
        refine ⟨j, rfl, ⟨fun _ => ?_, fun _ => by omega⟩, rfl⟩
        rw [HKK.out, ← HY.out]
        exact List.getElem_mem _
      · have hk' : (x == y) = false := by simp [hk]
        have HKK : Hid (¬ x = y) := hk
        clear hk
        go_wp2
        go_roundw
        case rel =>
          refine ⟨j + 1, by go_num, by omega, trivial, fun i h hij => ?_⟩
          rcases Nat.lt_or_ge i j with h1 | h1
          · exact HN.out i h h1
          · obtain rfl : i = j := by omega
            rw [HY.out]
            exact fun e => HKK.out e.symm
        case measure => simp [intOf]; omega
    · have hlt' : ¬ (j : Int) < (l.length : Int) := by omega
      go_wp2
      go_ret
      refine ⟨-1, rfl, ⟨fun h => by omega, fun h => ?_⟩, rfl⟩
      obtain ⟨i, hi, e⟩ := List.getElem_of_mem h
      exact (HN.out i hi (by omega) e).elim
theorem contains_any (l : List Int) (hz : l.length ≤ 1000000) (x : Int) (w : World) (va : Value) (ha : InV w va l) :
    Calls Tryz.prog 45 #[va, .int .i64 x] w fun e w' => e = .returned (.bool (decide (x ∈ l))) ∧ w' = w := by
  have IC := index_any l hz x w va ha
  obtain ⟨a1, c1, rfl, -⟩ := ha.open
  clear ha
  go_enter Tryz.func45, Tryz.ntmps45
  go_wp2_with (go_at_call 66; refine IC.mono ?_; clear IC; rintro e w1 ⟨r, rfl, hr, rfl⟩)
  go_ret
  refine ⟨ret_bool ?_, rfl⟩
  rw [decide_eq_decide]
set_option maxRecDepth 100000 in
set_option maxHeartbeats 2000000 in
theorem is_any (ks : List Int) (hz : ks.length ≤ 1000000) (k : Int) (s : Bool) (ao : Option Addr) (n cap : Nat) (t : ByteArray) (b : Bool) (va : Value) (w : World) (ha : InV w va ks) :
    Calls Tryz.prog 23 #[cnV k s ao n cap t b, va] w fun e w' => e = .returned (.bool (decide (k ∈ ks))) ∧ Below w.heap.size w w' := by
  have HC := contains_any ks hz k (w.alloc (.cells #[.int .i64 k, .bool s, .slice ao n cap, .string t, .bool b] 26)) va (ha.kept ((Below.refl _ w).alloc (Nat.le_refl _) _))
  go_enter Tryz.func23, Tryz.ntmps23
  go_wp2_with (go_at_call 45; refine HC.mono ?_; clear HC; rintro e w1 ⟨rfl, rfl⟩)
  go_ret
  exact ⟨rfl, (Below.refl _ w).alloc (Nat.le_refl _) _⟩
/-- may a sign stand between two constants of a kind? -/
def tkB (op : ByteArray) (k : Int) : Bool := if op.toList = [61, 61] ∨ op.toList = [33, 61] then decide (k ∈ [1, 2, 3]) else if op.toList = [43] ∨ op.toList = [60] ∨ op.toList = [60, 61] ∨ op.toList = [62] ∨ op.toList = [62, 61] then decide (k ∈ [1, 2]) else if op.toList = [45] ∨ op.toList = [42] ∨ op.toList = [47] ∨ op.toList = [37] then decide (k ∈ [1]) else if op.toList = [38, 38] ∨ op.toList = [124, 124] then decide (k ∈ [3]) else false
theorem lit_inv (w : World) (a : Obj) (ks : List Int) : InV ((w.alloc a).alloc (.cells (ks.map (Value.int .i64)).toArray 3)) (.slice (some ⟨w.heap.size + 1, 0, none⟩) ks.length ks.length) ks := by
  refine .inr ⟨_, _, _, rfl, fun i h => ?_⟩
  have := two_new (w := w) a (.cells (ks.map (Value.int .i64)).toArray 3)
  unfold World.cell?
  rw [this]
  simp [h]
set_option maxRecDepth 100000 in
set_option maxHeartbeats 4000000 in
theorem takes_any (op : ByteArray) (k : Int) (s : Bool) (ao : Option Addr) (n cap : Nat) (t : ByteArray) (b : Bool) (w : World) :
    Calls Tryz.prog 41 #[.string op, cnV k s ao n cap t b] w fun e w' => e = .returned (.bool (tkB op k)) ∧ Below w.heap.size w w' := by
  have HI : Hid (∀ (ks : List Int) (U : Bool), decide (k ∈ ks) = U → ks.length ≤ 3 → Calls Tryz.prog 23 #[cnV k s ao n cap t b, .slice (some ⟨w.heap.size + 1, 0, none⟩) ks.length ks.length] ((w.alloc (.cells #[.int .i64 k, .bool s, .slice ao n cap, .string t, .bool b] 26)).alloc (.cells (ks.map (Value.int .i64)).toArray 3)) fun e w' => e = .returned (.bool U) ∧ Below w.heap.size w w') := fun ks U hu h => (is_any ks (by omega) k s ao n cap t b _ _ (lit_inv w _ ks)).mono fun e w' ⟨he, hb⟩ => ⟨hu ▸ he, (two_below w _ _).trans (hb.mono (two_below w _ _).size)⟩
  obtain ⟨U, hU⟩ : ∃ U, tkB op k = U := ⟨_, rfl⟩
  rw [hU]
  have HUU : Hid (tkB op k = U) := hU
  clear hU
  by_cases h_eq : op.toList = [61, 61]
  · have HU : Hid (U = decide (k ∈ [1, 2, 3])) := by show _ = _; rw [← HUU.out]; unfold tkB; simp [h_eq]
    clear HUU
    go_enter Tryz.func41, Tryz.ntmps41
    go_wp2_with (go_at_call 23; refine (HI.out [1, 2, 3] U HU.out.symm (by decide)).mono ?_; rintro e x1 ⟨rfl, hb⟩; have HB : Hid (Below w.heap.size w x1) := hb; clear hb)
    go_ret
    exact ⟨rfl, HB.out⟩
  by_cases h_ne : op.toList = [33, 61]
  · have zz_eq : (op.toList == [61, 61]) = false := by simpa using h_eq
    have HU : Hid (U = decide (k ∈ [1, 2, 3])) := by show _ = _; rw [← HUU.out]; unfold tkB; simp [h_ne]
    clear HUU
    go_enter Tryz.func41, Tryz.ntmps41
    go_wp2_with (go_at_call 23; refine (HI.out [1, 2, 3] U HU.out.symm (by decide)).mono ?_; rintro e x1 ⟨rfl, hb⟩; have HB : Hid (Below w.heap.size w x1) := hb; clear hb)
    go_ret
    exact ⟨rfl, HB.out⟩
  by_cases h_ad : op.toList = [43]
  · have zz_eq : (op.toList == [61, 61]) = false := by simpa using h_eq
    have zz_ne : (op.toList == [33, 61]) = false := by simpa using h_ne
    have HU : Hid (U = decide (k ∈ [1, 2])) := by show _ = _; rw [← HUU.out]; unfold tkB; simp [h_ad]
    clear HUU
    go_enter Tryz.func41, Tryz.ntmps41
    go_wp2_with (go_at_call 23; refine (HI.out [1, 2] U HU.out.symm (by decide)).mono ?_; rintro e x1 ⟨rfl, hb⟩; have HB : Hid (Below w.heap.size w x1) := hb; clear hb)
    go_ret
    exact ⟨rfl, HB.out⟩
  by_cases h_lt : op.toList = [60]
  · have zz_eq : (op.toList == [61, 61]) = false := by simpa using h_eq
    have zz_ne : (op.toList == [33, 61]) = false := by simpa using h_ne
    have zz_ad : (op.toList == [43]) = false := by simpa using h_ad
    have HU : Hid (U = decide (k ∈ [1, 2])) := by show _ = _; rw [← HUU.out]; unfold tkB; simp [h_lt]
    clear HUU
    go_enter Tryz.func41, Tryz.ntmps41
    go_wp2_with (go_at_call 23; refine (HI.out [1, 2] U HU.out.symm (by decide)).mono ?_; rintro e x1 ⟨rfl, hb⟩; have HB : Hid (Below w.heap.size w x1) := hb; clear hb)
    go_ret
    exact ⟨rfl, HB.out⟩
  by_cases h_le : op.toList = [60, 61]
  · have zz_eq : (op.toList == [61, 61]) = false := by simpa using h_eq
    have zz_ne : (op.toList == [33, 61]) = false := by simpa using h_ne
    have zz_ad : (op.toList == [43]) = false := by simpa using h_ad
    have zz_lt : (op.toList == [60]) = false := by simpa using h_lt
    have HU : Hid (U = decide (k ∈ [1, 2])) := by show _ = _; rw [← HUU.out]; unfold tkB; simp [h_le]
    clear HUU
    go_enter Tryz.func41, Tryz.ntmps41
    go_wp2_with (go_at_call 23; refine (HI.out [1, 2] U HU.out.symm (by decide)).mono ?_; rintro e x1 ⟨rfl, hb⟩; have HB : Hid (Below w.heap.size w x1) := hb; clear hb)
    go_ret
    exact ⟨rfl, HB.out⟩
  by_cases h_gt : op.toList = [62]
  · have zz_eq : (op.toList == [61, 61]) = false := by simpa using h_eq
    have zz_ne : (op.toList == [33, 61]) = false := by simpa using h_ne
    have zz_ad : (op.toList == [43]) = false := by simpa using h_ad
    have zz_lt : (op.toList == [60]) = false := by simpa using h_lt
    have zz_le : (op.toList == [60, 61]) = false := by simpa using h_le
    have HU : Hid (U = decide (k ∈ [1, 2])) := by show _ = _; rw [← HUU.out]; unfold tkB; simp [h_gt]
    clear HUU
    go_enter Tryz.func41, Tryz.ntmps41
    go_wp2_with (go_at_call 23; refine (HI.out [1, 2] U HU.out.symm (by decide)).mono ?_; rintro e x1 ⟨rfl, hb⟩; have HB : Hid (Below w.heap.size w x1) := hb; clear hb)
    go_ret
    exact ⟨rfl, HB.out⟩
  by_cases h_ge : op.toList = [62, 61]
  · have zz_eq : (op.toList == [61, 61]) = false := by simpa using h_eq
    have zz_ne : (op.toList == [33, 61]) = false := by simpa using h_ne
    have zz_ad : (op.toList == [43]) = false := by simpa using h_ad
    have zz_lt : (op.toList == [60]) = false := by simpa using h_lt
    have zz_le : (op.toList == [60, 61]) = false := by simpa using h_le
    have zz_gt : (op.toList == [62]) = false := by simpa using h_gt
    have HU : Hid (U = decide (k ∈ [1, 2])) := by show _ = _; rw [← HUU.out]; unfold tkB; simp [h_ge]
    clear HUU
    go_enter Tryz.func41, Tryz.ntmps41
    go_wp2_with (go_at_call 23; refine (HI.out [1, 2] U HU.out.symm (by decide)).mono ?_; rintro e x1 ⟨rfl, hb⟩; have HB : Hid (Below w.heap.size w x1) := hb; clear hb)
    go_ret
    exact ⟨rfl, HB.out⟩
  by_cases h_su : op.toList = [45]
  · have zz_eq : (op.toList == [61, 61]) = false := by simpa using h_eq
    have zz_ne : (op.toList == [33, 61]) = false := by simpa using h_ne
    have zz_ad : (op.toList == [43]) = false := by simpa using h_ad
    have zz_lt : (op.toList == [60]) = false := by simpa using h_lt
    have zz_le : (op.toList == [60, 61]) = false := by simpa using h_le
    have zz_gt : (op.toList == [62]) = false := by simpa using h_gt
    have zz_ge : (op.toList == [62, 61]) = false := by simpa using h_ge
    have HU : Hid (U = decide (k ∈ [1])) := by show _ = _; rw [← HUU.out]; unfold tkB; simp [h_su]
    clear HUU
    go_enter Tryz.func41, Tryz.ntmps41
    go_wp2_with (go_at_call 23; refine (HI.out [1] U HU.out.symm (by decide)).mono ?_; rintro e x1 ⟨rfl, hb⟩; have HB : Hid (Below w.heap.size w x1) := hb; clear hb)
    go_ret
    exact ⟨rfl, HB.out⟩
  by_cases h_mu : op.toList = [42]
  · have zz_eq : (op.toList == [61, 61]) = false := by simpa using h_eq
    have zz_ne : (op.toList == [33, 61]) = false := by simpa using h_ne
    have zz_ad : (op.toList == [43]) = false := by simpa using h_ad
    have zz_lt : (op.toList == [60]) = false := by simpa using h_lt
    have zz_le : (op.toList == [60, 61]) = false := by simpa using h_le
    have zz_gt : (op.toList == [62]) = false := by simpa using h_gt
    have zz_ge : (op.toList == [62, 61]) = false := by simpa using h_ge
    have zz_su : (op.toList == [45]) = false := by simpa using h_su
    have HU : Hid (U = decide (k ∈ [1])) := by show _ = _; rw [← HUU.out]; unfold tkB; simp [h_mu]
    clear HUU
    go_enter Tryz.func41, Tryz.ntmps41
    go_wp2_with (go_at_call 23; refine (HI.out [1] U HU.out.symm (by decide)).mono ?_; rintro e x1 ⟨rfl, hb⟩; have HB : Hid (Below w.heap.size w x1) := hb; clear hb)
    go_ret
    exact ⟨rfl, HB.out⟩
  by_cases h_di : op.toList = [47]
  · have zz_eq : (op.toList == [61, 61]) = false := by simpa using h_eq
    have zz_ne : (op.toList == [33, 61]) = false := by simpa using h_ne
    have zz_ad : (op.toList == [43]) = false := by simpa using h_ad
    have zz_lt : (op.toList == [60]) = false := by simpa using h_lt
    have zz_le : (op.toList == [60, 61]) = false := by simpa using h_le
    have zz_gt : (op.toList == [62]) = false := by simpa using h_gt
    have zz_ge : (op.toList == [62, 61]) = false := by simpa using h_ge
    have zz_su : (op.toList == [45]) = false := by simpa using h_su
    have zz_mu : (op.toList == [42]) = false := by simpa using h_mu
    have HU : Hid (U = decide (k ∈ [1])) := by show _ = _; rw [← HUU.out]; unfold tkB; simp [h_di]
    clear HUU
    go_enter Tryz.func41, Tryz.ntmps41
    go_wp2_with (go_at_call 23; refine (HI.out [1] U HU.out.symm (by decide)).mono ?_; rintro e x1 ⟨rfl, hb⟩; have HB : Hid (Below w.heap.size w x1) := hb; clear hb)
    go_ret
    exact ⟨rfl, HB.out⟩
  by_cases h_re : op.toList = [37]
  · have zz_eq : (op.toList == [61, 61]) = false := by simpa using h_eq
    have zz_ne : (op.toList == [33, 61]) = false := by simpa using h_ne
    have zz_ad : (op.toList == [43]) = false := by simpa using h_ad
    have zz_lt : (op.toList == [60]) = false := by simpa using h_lt
    have zz_le : (op.toList == [60, 61]) = false := by simpa using h_le
    have zz_gt : (op.toList == [62]) = false := by simpa using h_gt
    have zz_ge : (op.toList == [62, 61]) = false := by simpa using h_ge
    have zz_su : (op.toList == [45]) = false := by simpa using h_su
    have zz_mu : (op.toList == [42]) = false := by simpa using h_mu
    have zz_di : (op.toList == [47]) = false := by simpa using h_di
    have HU : Hid (U = decide (k ∈ [1])) := by show _ = _; rw [← HUU.out]; unfold tkB; simp [h_re]
    clear HUU
    go_enter Tryz.func41, Tryz.ntmps41
    go_wp2_with (go_at_call 23; refine (HI.out [1] U HU.out.symm (by decide)).mono ?_; rintro e x1 ⟨rfl, hb⟩; have HB : Hid (Below w.heap.size w x1) := hb; clear hb)
    go_ret
    exact ⟨rfl, HB.out⟩
  by_cases h_an : op.toList = [38, 38]
  · have zz_eq : (op.toList == [61, 61]) = false := by simpa using h_eq
    have zz_ne : (op.toList == [33, 61]) = false := by simpa using h_ne
    have zz_ad : (op.toList == [43]) = false := by simpa using h_ad
    have zz_lt : (op.toList == [60]) = false := by simpa using h_lt
    have zz_le : (op.toList == [60, 61]) = false := by simpa using h_le
    have zz_gt : (op.toList == [62]) = false := by simpa using h_gt
    have zz_ge : (op.toList == [62, 61]) = false := by simpa using h_ge
    have zz_su : (op.toList == [45]) = false := by simpa using h_su
    have zz_mu : (op.toList == [42]) = false := by simpa using h_mu
    have zz_di : (op.toList == [47]) = false := by simpa using h_di
    have zz_re : (op.toList == [37]) = false := by simpa using h_re
    have HU : Hid (U = decide (k ∈ [3])) := by show _ = _; rw [← HUU.out]; unfold tkB; simp [h_an]
    clear HUU
    go_enter Tryz.func41, Tryz.ntmps41
    go_wp2_with (go_at_call 23; refine (HI.out [3] U HU.out.symm (by decide)).mono ?_; rintro e x1 ⟨rfl, hb⟩; have HB : Hid (Below w.heap.size w x1) := hb; clear hb)
    go_ret
    exact ⟨rfl, HB.out⟩
  by_cases h_or : op.toList = [124, 124]
  · have zz_eq : (op.toList == [61, 61]) = false := by simpa using h_eq
    have zz_ne : (op.toList == [33, 61]) = false := by simpa using h_ne
    have zz_ad : (op.toList == [43]) = false := by simpa using h_ad
    have zz_lt : (op.toList == [60]) = false := by simpa using h_lt
    have zz_le : (op.toList == [60, 61]) = false := by simpa using h_le
    have zz_gt : (op.toList == [62]) = false := by simpa using h_gt
    have zz_ge : (op.toList == [62, 61]) = false := by simpa using h_ge
    have zz_su : (op.toList == [45]) = false := by simpa using h_su
    have zz_mu : (op.toList == [42]) = false := by simpa using h_mu
    have zz_di : (op.toList == [47]) = false := by simpa using h_di
    have zz_re : (op.toList == [37]) = false := by simpa using h_re
    have zz_an : (op.toList == [38, 38]) = false := by simpa using h_an
    have HU : Hid (U = decide (k ∈ [3])) := by show _ = _; rw [← HUU.out]; unfold tkB; simp [h_or]
    clear HUU
    go_enter Tryz.func41, Tryz.ntmps41
    go_wp2_with (go_at_call 23; refine (HI.out [3] U HU.out.symm (by decide)).mono ?_; rintro e x1 ⟨rfl, hb⟩; have HB : Hid (Below w.heap.size w x1) := hb; clear hb)
    go_ret
    exact ⟨rfl, HB.out⟩
  have zz_eq : (op.toList == [61, 61]) = false := by simpa using h_eq
  have zz_ne : (op.toList == [33, 61]) = false := by simpa using h_ne
  have zz_ad : (op.toList == [43]) = false := by simpa using h_ad
  have zz_lt : (op.toList == [60]) = false := by simpa using h_lt
  have zz_le : (op.toList == [60, 61]) = false := by simpa using h_le
  have zz_gt : (op.toList == [62]) = false := by simpa using h_gt
  have zz_ge : (op.toList == [62, 61]) = false := by simpa using h_ge
  have zz_su : (op.toList == [45]) = false := by simpa using h_su
  have zz_mu : (op.toList == [42]) = false := by simpa using h_mu
  have zz_di : (op.toList == [47]) = false := by simpa using h_di
  have zz_re : (op.toList == [37]) = false := by simpa using h_re
  have zz_an : (op.toList == [38, 38]) = false := by simpa using h_an
  have zz_or : (op.toList == [124, 124]) = false := by simpa using h_or
  have HU : Hid (U = false) := by show _ = _; rw [← HUU.out]; unfold tkB; simp [h_eq, h_ne, h_ad, h_lt, h_le, h_gt, h_ge, h_su, h_mu, h_di, h_re, h_an, h_or]
  clear HUU HI
  go_enter Tryz.func41, Tryz.ntmps41
  go_wp2_with fail
  go_ret
  exact ⟨by rw [HU.out]; rfl, (Below.refl _ w).alloc (Nat.le_refl _) _⟩

end Go.Proofs.YtfkkhabpnnealaaGreatDoor

