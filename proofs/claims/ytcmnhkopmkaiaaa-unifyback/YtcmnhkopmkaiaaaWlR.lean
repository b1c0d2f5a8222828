/-
  types.walk over pointers to types: slices.Reverse of one, slices.Backward, walk.
-/
import Derived.Test.YtcmnhkopmkaiaaaWkp
namespace Go.Proofs.Ytcmnhkopmkaiaaa
open Go.RowKit
attribute [local go_sem] Oper.semAt_some
set_option maxRecDepth 100000 in
set_option maxHeartbeats 2000000 in
theorem revR (a : Option Addr) (c : Nat) (w : World) : Calls Try.prog 37 #[.slice a 1 c] w fun e w' => (∃ v, e = .returned v) ∧ w' = w := by
  refine (callsIn_wide (n := 3)).1 ?_
  refine callsIn_of_wp Try.func37 rfl trivial ?_ rfl
  simp only [Try.ntmps37, List.size_toArray, List.length_cons, List.length_nil, Nat.reduceAdd, Nat.reduceSub, Array.replicate_succ, Array.replicate_zero, List.push_toArray, List.append_toArray, List.nil_append, List.cons_append]
  gi_wp2
  refine wpIn_loop_rounds 1 ?_
  rw [roundsIn_succ]
  gi_wp2
  go_end0
  exact ⟨⟨_, rfl⟩, rfl⟩
/-- what is still to come -/
abbrev ElR := (Addr × Addr)
abbrev evR (x : ElR) : Value := .agg #[.pointer (some x.1), .pointer (some x.2)]
def ecR (x : ElR) : List Value := [.pointer (some x.1), .pointer (some x.2)]
theorem ecR_len (l : List ElR) : (l.flatMap ecR).length = l.length * 2 := by
  induction l with
  | nil => rfl
  | cons x l ih => rw [List.flatMap_cons, List.length_append, ih]; simp [ecR]; omega
/-- a slice of these -/
def RwR (B : BQ) (W : World) (v : Value) (l : List ElR) : Prop :=
  (∃ a c, v = .slice a 0 c ∧ l = []) ∨ ∃ b o c, v = .slice (some ⟨b, o, none⟩) l.length c ∧ (l.length : Int) ≤ 9223372036854775807 ∧ b < W.heap.size ∧ B b ∧ ∀ i x, l[i]? = some x → W.cell? ⟨b, o + i * 2, none⟩ = some (.pointer (some x.1)) ∧ W.cell? ⟨b, o + i * 2 + 1, none⟩ = some (.pointer (some x.2))
theorem RwR.to {B B' : BQ} {X : Nat → Prop} {W W' : World} {v : Value} {l : List ElR} (h : RwR B W v l) (hk : Kx X W W') (hB : ∀ b, b < W.heap.size → B b → B' b) (hX : ∀ b, b < W.heap.size → B b → ¬ X b) : RwR B' W' v l := by
  rcases h with h | ⟨b, o, c, e, hl, hb, h1, h2⟩
  · exact .inl h
  · exact .inr ⟨b, o, c, e, hl, Nat.lt_of_lt_of_le hb hk.size, hB b hb h1, fun i x hx => ⟨hk.cell (h2 i x hx).1 (hX b hb h1), hk.cell (h2 i x hx).2 (hX b hb h1)⟩⟩
theorem RwR.kept {B : BQ} {W W' : World} {v : Value} {l : List ElR} (h : RwR B W v l) (hk : Below W.heap.size W W') : RwR B W' v l :=
  h.to (X := fun _ => False) (Kx.of_whole hk) (fun _ _ h => h) (fun _ _ _ h => h)
set_option maxRecDepth 100000 in
set_option maxHeartbeats 2000000 in
/-- slices.Backward's closure at a slice that is not empty -/
theorem bwdR1 (m l Bs b off cap : Nat) (xs : List ElR) (hreach : xs.length ≤ 1000000000) (J Jx : List (Nat × ElR) → World → Prop)
    (hY : ∀ pre x W, J pre W → pre.length < xs.length → YieldAt Fence.wide (m - 1) Try.prog l #[.int .i64 (x.1 : Nat), evR x.2] W fun e W' =>
      (e = .returned (.bool true) ∧ J (pre ++ [x]) W' ∧ Kb Bs b W W') ∨ (e = .returned (.bool false) ∧ Jx (pre ++ [x]) W'))
    (W : World) (hBs : W.cell? ⟨Bs, 0, none⟩ = some (.slice (some ⟨b, off, none⟩) xs.length cap)) (hc : ∀ j x, xs[j]? = some x → W.cell? ⟨b, off + j * 2, none⟩ = some (.pointer (some x.1)) ∧ W.cell? ⟨b, off + j * 2 + 1, none⟩ = some (.pointer (some x.2))) (h0 : J [] W) :
    CallsIn Fence.wide m Try.prog 48 #[.func (.yield l) #[] #[], .pointer (some ⟨Bs, 0, none⟩)] W fun e W' => (∃ v, e = .returned v) ∧
      ((∃ ys, ys.map Prod.snd = xs.reverse ∧ J ys W') ∨ (∃ pre, True ∧ Jx pre W')) := by
  refine callsIn_of_wp Try.func48 rfl trivial ?_ rfl
  simp only [Try.ntmps48, List.size_toArray, List.length_cons, List.length_nil, Nat.reduceAdd, Nat.reduceSub, Array.replicate_succ, Array.replicate_zero, List.push_toArray, List.append_toArray, List.nil_append, List.cons_append]
  have hwp : wrap64 ((xs.length : Int) - 1) = (xs.length : Int) - 1 := by unfold wrap64; omega
  gi_wp2
  gi_loopw [3] (fun i wr => ∃ (k : Nat) (pre : List (Nat × ElR)), k ≤ xs.length ∧ i = .int .i64 ((xs.length : Int) - 1 - (k : Int)) ∧ pre.length = k ∧ pre.map Prod.snd = xs.reverse.take k ∧ J pre wr ∧ Kb Bs b W wr)
    (fun i _ => (intOf i + 1).toNat)
  case atStart => exact ⟨0, [], Nat.zero_le _, by simp, rfl, by simp, h0, Kb.refl _ _ _⟩
  case round =>
    obtain ⟨k, pre, hk, rfl, hpl, hpm, hJs, hnx⟩ := hrel
    have hBs' : wr.cell? ⟨Bs, 0, none⟩ = some (.slice (some ⟨b, off, none⟩) xs.length cap) := (World.cell?_of_block hnx.s).trans hBs
    clear hwp
    by_cases hlt : k < xs.length
    · obtain ⟨i, hi⟩ : ∃ i, xs.length = i + k + 1 := ⟨xs.length - 1 - k, by omega⟩
      have hix : (xs.length : Int) - 1 - (k : Int) = (i : Int) := by omega
      obtain ⟨x, hx⟩ : ∃ x, xs[i]? = some x := ⟨xs[i], List.getElem?_eq_getElem (by omega)⟩
      have hcx : wr.cell? ⟨b, off + i * 2, none⟩ = some (.pointer (some x.1)) := (World.cell?_of_block hnx.r).trans (hc i x hx).1
      have hcy : wr.cell? ⟨b, off + i * 2 + 1, none⟩ = some (.pointer (some x.2)) := (World.cell?_of_block hnx.r).trans (hc i x hx).2
      obtain ⟨fn, tmps, assign, body, hy, hR⟩ := hY pre (i, x) wr hJs (by omega)
      have h1 : (i : Int) < (xs.length : Int) := by omega
      have h2 : 0 ≤ (i : Int) := by omega
      have h3 : i < xs.length := by omega
      have hw1 : wrap64 ((i : Int) - 1) = (i : Int) - 1 := by unfold wrap64; omega
      have HPM : Hid (pre.map Prod.snd = xs.reverse.take k) := hpm
      have HPL : Hid (pre.length = k) := hpl
      have HNX : Hid (Kb Bs b W wr) := hnx
      have HX : Hid (xs[i]? = some x) := hx
      have HI : Hid (xs.length = i + k + 1) := hi
      have HC : Hid (∀ j x, xs[j]? = some x → W.cell? ⟨b, off + j * 2, none⟩ = some (.pointer (some x.1)) ∧ W.cell? ⟨b, off + j * 2 + 1, none⟩ = some (.pointer (some x.2))) := hc
      have HB0 : Hid (W.cell? ⟨Bs, 0, none⟩ = some (.slice (some ⟨b, off, none⟩) xs.length cap)) := hBs
      rw [hix]
      simp only [evR] at hy
      clear hpm hpl hnx hx hc hBs hi
      gi_wp2
      refine ⟨fun h => by simp [Fence.wide] at h, ?_⟩
      refine hR.mono ?_
      rintro e W3 (⟨rfl, hJ3, hk3⟩ | ⟨rfl, hJx3⟩)
      · gi_wp2
        go_roundw
        case rel =>
          refine ⟨k + 1, pre ++ [(i, x)], by omega, ?_, by simp [HPL.out], ?_, hJ3, HNX.out.trans hk3⟩
          · have := HI.out
            first | omega | (congr 1; omega) | (simp; omega)
          · rw [List.map_append, HPM.out, List.take_add_one]
            congr 1
            have := HI.out
            rw [List.getElem?_reverse (by omega), show xs.length - 1 - k = i by omega, HX.out]
            simp
        case measure => simp [intOf]
      · gi_wp2
        refine bodyPost_ret (results_none rfl _ _ _) rfl ?_
        exact ⟨⟨_, rfl⟩, .inr ⟨_, trivial, hJx3⟩⟩
    · obtain rfl : k = xs.length := by omega
      have hix : (xs.length : Int) - 1 - (xs.length : Int) = -1 := by omega
      rw [hix]
      have HPM : Hid (pre.map Prod.snd = xs.reverse.take xs.length) := hpm
      clear hpm hpl
      gi_wp2
      go_end0
      exact ⟨⟨_, rfl⟩, .inl ⟨pre, by rw [HPM.out, List.take_of_length_le (by simp)], hJs⟩⟩
set_option maxRecDepth 100000 in
set_option maxHeartbeats 2000000 in
theorem bwdR0 (m l Bs : Nat) (a : Option Addr) (cap : Nat) (J : List (Nat × ElR) → World → Prop) (W : World) (hBs : W.cell? ⟨Bs, 0, none⟩ = some (.slice a 0 cap)) (h0 : J [] W) :
    CallsIn Fence.wide m Try.prog 48 #[.func (.yield l) #[] #[], .pointer (some ⟨Bs, 0, none⟩)] W fun e W' => (∃ v, e = .returned v) ∧ J [] W' := by
  refine callsIn_of_wp Try.func48 rfl trivial ?_ rfl
  simp only [Try.ntmps48, List.size_toArray, List.length_cons, List.length_nil, Nat.reduceAdd, Nat.reduceSub, Array.replicate_succ, Array.replicate_zero, List.push_toArray, List.append_toArray, List.nil_append, List.cons_append]
  gi_wp2
  refine wpIn_loop_rounds 1 ?_
  rw [roundsIn_succ]
  gi_wp2
  go_end0
  exact ⟨⟨_, rfl⟩, h0⟩
set_option maxHeartbeats 1000000 in
/-- slices.Backward: the slice is boxed -/
theorem bwdR (a : Option Addr) (len cap : Nat) (w : World) :
    Calls Try.prog 38 #[.slice a len cap] w fun e w' => e = .returned (.func (.func 48) #[] #[.pointer (some ⟨w.heap.size, 0, none⟩)]) ∧ w' = w.alloc (.cells #[.slice a len cap] 45) := by
  have hmf := mkf
  go_enter Try.func38, Try.ntmps38
  go_wp2
  go_ret
  exact ⟨rfl, rfl⟩
/-- what Backward tells -/
theorem bwdR_stops (m Bs b : Nat) (sv : Value) (xs : List ElR) (hreach : xs.length ≤ 1000000000) (w : World) (hBs : Bs < w.heap.size) (hc : w.cell? ⟨Bs, 0, none⟩ = some sv) (hI : RwR (fun c => c = b) w sv xs) :
    SeqStopsK Fence.wide m Try.prog 48 #[.pointer (some ⟨Bs, 0, none⟩)] (fun x : Nat × ElR => #[Value.int .i64 (x.1 : Nat), evR x.2]) (Kb Bs b) (fun ys => ys.map Prod.snd = xs.reverse) (fun _ => True) xs.length w := fun l J Jx W hW _ _ hY h0 => by
  have hc' := (hW.cell (p := ⟨Bs, 0, none⟩) hBs).trans hc
  rcases hI with ⟨a, c, rfl, rfl⟩ | ⟨b', o, c, rfl, hlen, hb1, rfl, hcs⟩
  · exact (bwdR0 m l Bs a c J W hc' h0).mono fun e W' ⟨he, hj⟩ => ⟨he, .inl ⟨_, rfl, hj⟩⟩
  · exact bwdR1 m l Bs b' o c xs hreach J Jx hY W hc' (fun j x hx => ⟨(hW.cell (p := ⟨b', o + j * 2, none⟩) hb1).trans (hcs j x hx).1, (hW.cell (p := ⟨b', o + j * 2 + 1, none⟩) hb1).trans (hcs j x hx).2⟩) h0
end Go.Proofs.Ytcmnhkopmkaiaaa

