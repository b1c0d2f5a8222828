/-
  wrong, at and add of the document's scanner, walked.
-/
import Derived.Test.YtmfdfkbcommjfaaDoorRefA
import Derived.Test.YtmfdfkbcommjfaaDoorWalkF
import Derived.Deep.QuietTactic
import Derived.BigQuiet
namespace Go.Proofs.YtmfdfkbcommjfaaDoor
open Go.RowKit
attribute [local go_sem ↓] Go.wp_at_zero Go.wp_at_succ
theorem bl_drewN (B : Nat) (w : World) (n : Nat) : Below B w (w.drewN n) := ⟨rfl, rfl, rfl, Nat.le_refl _, fun _ _ => rfl⟩
theorem Sc.drewN {w : World} {base R : Nat} {S : ByteArray} {i : Nat} {s : St} {c a : Nat} (h : Sc w base R S i s c a) (n : Nat) : Sc (w.drewN n) base R S i s c a := h.below (bl_drewN _ _ n)
theorem cell_of {w : World} {k : Nat} {cs : Array Value} {T : TypeId} {fz : Nat × Nat} (h : w.heap[k]? = some (.cells cs T fz)) (i : Nat) : w.cell? ⟨k, i, none⟩ = cs[i]? := by simp [World.cell?, h]
set_option maxRecDepth 100000 in
set_option maxHeartbeats 1000000 in
theorem rwrong_any (w : World) (base R : Nat) (S : ByteArray) (i : Nat) (s : St) (c a : Nat) (h : Sc w base R S i s c a) (p : Nat) :
    Calls Tryd.prog 51 #[.pointer (some ⟨R, 0, none⟩), .int .i64 p] w (ScP w base R S i s 3 p) := by
  have c4 := h.cell4
  have c5 := h.cell5
  have c6 := h.cell6
  have f4 := h.frz 4
  have f5 := h.frz 5
  have f6 := h.frz 6
  have hlt := h.lt
  have hle := h.le
  have HH : Hid (Sc w base R S i s c a) := h
  clear h
  go_enter Tryd.func51, Tryd.ntmps51
  go_wp2
  refine bodyPost_end (results_none rfl _ _ _) rfl ?_
  exact ⟨rfl, HH.out.putF 3 p, ((HH.out.bl1 4 _).setCell (p := ⟨R, 5, none⟩) hle _).setCell (p := ⟨R, 6, none⟩) hle _⟩
theorem pre_take (l m : List UInt8) : l.isPrefixOf m = (m.take l.length == l) := by
  rw [Bool.eq_iff_iff, List.isPrefixOf_iff_prefix, beq_iff_eq, List.prefix_iff_eq_take]
  exact eq_comm
theorem pre_short {l m : List UInt8} (h : m.length < l.length) : l.isPrefixOf m = false := by
  rw [Bool.eq_false_iff]
  intro h2
  have := (List.isPrefixOf_iff_prefix.1 h2).length_le
  omega
set_option maxRecDepth 100000 in
set_option maxHeartbeats 1000000 in
theorem rat_any (w : World) (base R : Nat) (S : ByteArray) (i : Nat) (s : St) (c a : Nat) (h : Sc w base R S i s c a) (T : ByteArray) (hi : i ≤ S.size) (hS : S.size ≤ 65536) (hT : T.size ≤ 65536) :
    Calls Tryd.prog 37 #[.pointer (some ⟨R, 0, none⟩), .string T] w fun e w' => e = .returned (.bool (T.data.toList.isPrefixOf (S.data.toList.drop i))) ∧ ∃ n, w' = w.drewN n := by
  have c0 := h.cell0
  have c1 := h.cell1
  clear h
  have z0 : IntKind.i64.wrap ((S.size : Int) - (i : Int)) = (S.size : Int) - (i : Int) := wrap_small _ (by omega) (by omega)
  have z1 : IntKind.i64.wrap ((i : Int) + (T.size : Int)) = (i : Int) + (T.size : Int) := wrap_small _ (by omega) (by omega)
  by_cases hl : T.size ≤ S.size - i
  · have k1 : (T.size : Int) ≤ (S.size : Int) - (i : Int) := by omega
    have k2 : (0 : Int) ≤ (i : Int) := by omega
    have k3 : (i : Int) ≤ (i : Int) + (T.size : Int) := by omega
    have k4 : (i : Int) + (T.size : Int) ≤ (S.size : Int) := by omega
    have k5 : ((i : Int) + (T.size : Int)).toNat = i + T.size := by omega
    go_enter Tryd.func37, Tryd.ntmps37
    go_wp2
    go_quiet (fail)
    go_wp2
    go_ret
    refine ⟨ret_bool ?_, _, rfl⟩
    rw [ext_word, pre_take, Lib.toList_data T, bal]
  · have k1 : decide ((T.size : Int) ≤ (S.size : Int) - (i : Int)) = false := decide_eq_false (by omega)
    go_enter Tryd.func37, Tryd.ntmps37
    go_wp2
    go_quiet (fail)
    go_wp2
    go_ret
    refine ⟨ret_bool ?_, _, rfl⟩
    rw [pre_short (by rw [List.length_drop, bal, bal]; omega)]
theorem bsL_data (X : ByteArray) : bsL X.data.toList = X := by cases X; simp [bsL]
set_option maxRecDepth 100000 in
set_option maxHeartbeats 1000000 in
theorem radd_any (w : World) (base R : Nat) (S : ByteArray) (i : Nat) (s : St) (c a : Nat) (h : Sc w base R S i s c a) (kd lo : Nat) (X : ByteArray) (hl : s.toks.length ≤ 1000000) :
    Calls Tryd.prog 43 #[.pointer (some ⟨R, 0, none⟩), .int .i64 kd, .int .i64 lo, .string X] w (ScP w base R S i ⟨s.toks ++ [⟨kd, lo, i, X.data.toList⟩], s.rems⟩ c a) := by
  have c1 := h.cell1
  have hlt := h.lt
  have hle := h.le
  have f2 := h.frz 2
  obtain ⟨tv, c2, hne, hown, hput⟩ := h.open2
  obtain ⟨i38, i1, i2, i3, i4⟩ := info38_ex
  have HI : Hid (Tryd.prog.info? 38 = some i38 ∧ i38.zero = some (.agg #[.int .i64 0, .int .i64 0, .int .i64 0, .string ⟨#[]⟩]) ∧ i38.size = 4 ∧ i38.bytes = 40) := ⟨i1, i2, i3, i4⟩
  have HT : Hid (w.ownsRow base 38 4 tv s.toks.length (flT s.toks)) := hown
  have HPut : Hid _ := @hput
  have HX : Hid (tkC ⟨kd, lo, i, X.data.toList⟩ = [.int .i64 kd, .int .i64 lo, .int .i64 i, .string X]) := (by simp [tkC, bsL_data] : tkC ⟨kd, lo, i, X.data.toList⟩ = [.int .i64 kd, .int .i64 lo, .int .i64 i, .string X])
  clear i1 i2 i3 i4 h hown hput
  go_enter Tryd.func43, Tryd.ntmps43
  go_wp2
  go_region_law
    ((refine step_append_lies _ (by rfl) _ _ _ (by rfl) base 38 i38 _ 4 40 Tryd.underlying23 HI.out.1 HI.out.2.1 HI.out.2.2.1 HI.out.2.2.2 rfl (by omega) tv s.toks.length (flT s.toks) (by rfl) ((HT.out.drew).alloc _)
            ⟨w.heap.size, 0, none⟩ 1 1 [.int .i64 kd, .int .i64 lo, .int .i64 i, .string X] (by rfl) (by rfl) (World.news_of_block (heap_alloc_new w.drew _)) (by simp [Value.oneCell'])
            (by omega) (by unfold maxLen; omega) (by omega) (by simp; omega) (w.heap.size + 1) (by simp) ?_; intro gg cap w1 hown1 hgrow hat hlt1; have k1 := hgrow.cell_far ⟨R, 2, none⟩ (by simp; omega) (Ne.symm hne); have k2 := hgrow.frozen_far ⟨R, 2, none⟩ (by simp; omega) (Ne.symm hne)))
  all_goals
   go_wp2
   refine bodyPost_end (results_none rfl _ _ _) rfl ?_
   have q := HPut.out (t := ⟨kd, lo, i, X.data.toList⟩) (((Below.refl _ w).alloc (Nat.le_refl _) _).drew) hgrow (by rw [HX.out]; exact hown1)
   exact ⟨rfl, q.1, q.2⟩
end Go.Proofs.YtmfdfkbcommjfaaDoor
