/-
  types.walk over pointers to types: slices.Reverse of one, slices.Backward, walk.
-/
import Derived.Test.YtcmnhkopmkaiaaaCln
namespace Go.Proofs.Ytcmnhkopmkaiaaa
open Go.RowKit
attribute [local go_sem] Oper.semAt_some
set_option maxRecDepth 100000 in
set_option maxHeartbeats 2000000 in
theorem revP (a : Option Addr) (c : Nat) (w : World) : Calls Try.prog 42 #[.slice a 1 c] w fun e w' => (∃ v, e = .returned v) ∧ w' = w := by
  refine (callsIn_wide (n := 3)).1 ?_
  refine callsIn_of_wp Try.func42 rfl trivial ?_ rfl
  simp only [Try.ntmps42, List.size_toArray, List.length_cons, List.length_nil, Nat.reduceAdd, Nat.reduceSub, Array.replicate_succ, Array.replicate_zero, List.push_toArray, List.append_toArray, List.nil_append, List.cons_append]
  gi_wp2
  refine wpIn_loop_rounds 1 ?_
  rw [roundsIn_succ]
  gi_wp2
  go_end0
  exact ⟨⟨_, rfl⟩, rfl⟩
/-- a pointer that is not nil -/
abbrev pv (x : Addr) : Value := .pointer (some x)
/-- what the loop's rounds keep: two blocks -/
structure Kb (Bs b : Nat) (W W' : World) : Prop where
  s : W'.heap[Bs]? = W.heap[Bs]?
  r : W'.heap[b]? = W.heap[b]?
theorem Kb.trans {Bs b : Nat} {A B C : World} (h : Kb Bs b A B) (k : Kb Bs b B C) : Kb Bs b A C := ⟨k.s.trans h.s, k.r.trans h.r⟩
theorem Kb.refl (Bs b : Nat) (A : World) : Kb Bs b A A := ⟨rfl, rfl⟩
set_option maxRecDepth 100000 in
set_option maxHeartbeats 2000000 in
/-- slices.Backward's closure at a slice that is not empty -/
theorem bwdP1 (m l Bs b off cap : Nat) (xs : List Addr) (hreach : xs.length ≤ 1000000000) (J Jx : List (Nat × Addr) → World → Prop)
    (hY : ∀ pre x W, J pre W → pre.length < xs.length → YieldAt Fence.wide (m - 1) Try.prog l #[.int .i64 (x.1 : Nat), pv x.2] W fun e W' =>
      (e = .returned (.bool true) ∧ J (pre ++ [x]) W' ∧ Kb Bs b W W') ∨ (e = .returned (.bool false) ∧ Jx (pre ++ [x]) W'))
    (W : World) (hBs : W.cell? ⟨Bs, 0, none⟩ = some (.slice (some ⟨b, off, none⟩) xs.length cap)) (hc : ∀ j x, xs[j]? = some x → W.cell? ⟨b, off + j, none⟩ = some (pv x)) (h0 : J [] W) :
    CallsIn Fence.wide m Try.prog 49 #[.func (.yield l) #[] #[], .pointer (some ⟨Bs, 0, none⟩)] W fun e W' => (∃ v, e = .returned v) ∧
      ((∃ ys, ys.map Prod.snd = xs.reverse ∧ J ys W') ∨ (∃ pre, True ∧ Jx pre W')) := by
  refine callsIn_of_wp Try.func49 rfl trivial ?_ rfl
  simp only [Try.ntmps49, List.size_toArray, List.length_cons, List.length_nil, Nat.reduceAdd, Nat.reduceSub, Array.replicate_succ, Array.replicate_zero, List.push_toArray, List.append_toArray, List.nil_append, List.cons_append]
  have hwp : wrap64 ((xs.length : Int) - 1) = (xs.length : Int) - 1 := by unfold wrap64; omega
  gi_wp2
  gi_loopw [3] (fun i wr => ∃ (k : Nat) (pre : List (Nat × Addr)), k ≤ xs.length ∧ i = .int .i64 ((xs.length : Int) - 1 - (k : Int)) ∧ pre.length = k ∧ pre.map Prod.snd = xs.reverse.take k ∧ J pre wr ∧ Kb Bs b W wr)
    (fun i _ => (intOf i + 1).toNat)
  case atStart => exact ⟨0, [], Nat.zero_le _, by simp, rfl, by simp, h0, Kb.refl _ _ _⟩
  case round =>
    obtain ⟨k, pre, hk, rfl, hpl, hpm, hJs, hnx⟩ := hrel
    have hBs' : wr.cell? ⟨Bs, 0, none⟩ = some (.slice (some ⟨b, off, none⟩) xs.length cap) := (World.cell?_of_block hnx.s).trans hBs
    clear hwp
    by_cases hlt : k < xs.length
    · obtain ⟨i, hi⟩ : ∃ i, xs.length = i + k + 1 := ⟨xs.length - 1 - k, by omega⟩
      have hix : (xs.length : Int) - 1 - (k : Int) = (i : Int) := by omega
      obtain ⟨x, hx⟩ : ∃ x, xs[i]? = some x := ⟨xs[i], List.getElem?_eq_getElem (by omega)⟩
      have hcx : wr.cell? ⟨b, off + i, none⟩ = some (pv x) := (World.cell?_of_block hnx.r).trans (hc i x hx)
      obtain ⟨fn, tmps, assign, body, hy, hR⟩ := hY pre (i, x) wr hJs (by omega)
      have h1 : (i : Int) < (xs.length : Int) := by omega
      have h2 : 0 ≤ (i : Int) := by omega
      have h3 : i < xs.length := by omega
      have hw1 : wrap64 ((i : Int) - 1) = (i : Int) - 1 := by unfold wrap64; omega
      have HPM : Hid (pre.map Prod.snd = xs.reverse.take k) := hpm
      have HPL : Hid (pre.length = k) := hpl
      have HNX : Hid (Kb Bs b W wr) := hnx
      have HX : Hid (xs[i]? = some x) := hx
      have HI : Hid (xs.length = i + k + 1) := hi
      have HC : Hid (∀ j x, xs[j]? = some x → W.cell? ⟨b, off + j, none⟩ = some (pv x)) := hc
      have HB0 : Hid (W.cell? ⟨Bs, 0, none⟩ = some (.slice (some ⟨b, off, none⟩) xs.length cap)) := hBs
      rw [hix]
      clear hpm hpl hnx hx hc hBs hi
      gi_wp2
      refine ⟨fun h => by simp [Fence.wide] at h, ?_⟩
      refine hR.mono ?_
      rintro e W3 (⟨rfl, hJ3, hk3⟩ | ⟨rfl, hJx3⟩)
      · gi_wp2
        go_roundw
        case rel =>
          refine ⟨k + 1, pre ++ [(i, x)], by omega, ?_, by simp [HPL.out], ?_, hJ3, HNX.out.trans hk3⟩
          · have := HI.out
            first | omega | (congr 1; omega) | (simp; omega)
          · rw [List.map_append, HPM.out, List.take_add_one]
            congr 1
            have := HI.out
            rw [List.getElem?_reverse (by omega), show xs.length - 1 - k = i by omega, HX.out]
            simp
        case measure => simp [intOf]
      · gi_wp2
        refine bodyPost_ret (results_none rfl _ _ _) rfl ?_
        exact ⟨⟨_, rfl⟩, .inr ⟨_, trivial, hJx3⟩⟩
    · obtain rfl : k = xs.length := by omega
      have hix : (xs.length : Int) - 1 - (xs.length : Int) = -1 := by omega
      rw [hix]
      have HPM : Hid (pre.map Prod.snd = xs.reverse.take xs.length) := hpm
      clear hpm hpl
      gi_wp2
      go_end0
      exact ⟨⟨_, rfl⟩, .inl ⟨pre, by rw [HPM.out, List.take_of_length_le (by simp)], hJs⟩⟩
set_option maxRecDepth 100000 in
set_option maxHeartbeats 2000000 in
theorem bwdP0 (m l Bs : Nat) (a : Option Addr) (cap : Nat) (J : List (Nat × Addr) → World → Prop) (W : World) (hBs : W.cell? ⟨Bs, 0, none⟩ = some (.slice a 0 cap)) (h0 : J [] W) :
    CallsIn Fence.wide m Try.prog 49 #[.func (.yield l) #[] #[], .pointer (some ⟨Bs, 0, none⟩)] W fun e W' => (∃ v, e = .returned v) ∧ J [] W' := by
  refine callsIn_of_wp Try.func49 rfl trivial ?_ rfl
  simp only [Try.ntmps49, List.size_toArray, List.length_cons, List.length_nil, Nat.reduceAdd, Nat.reduceSub, Array.replicate_succ, Array.replicate_zero, List.push_toArray, List.append_toArray, List.nil_append, List.cons_append]
  gi_wp2
  refine wpIn_loop_rounds 1 ?_
  rw [roundsIn_succ]
  gi_wp2
  go_end0
  exact ⟨⟨_, rfl⟩, h0⟩
theorem mkf : ∀ (fn : Fn) (first cap : Array Value) (w : World), (Instr.makeFunc fn first cap).run Try.prog w = .ok (.func fn first cap) w := fun _ _ _ _ => rfl
set_option maxHeartbeats 1000000 in
/-- slices.Backward: the slice is boxed -/
theorem bwdP (a : Option Addr) (len cap : Nat) (w : World) :
    Calls Try.prog 43 #[.slice a len cap] w fun e w' => e = .returned (.func (.func 49) #[] #[.pointer (some ⟨w.heap.size, 0, none⟩)]) ∧ w' = w.alloc (.cells #[.slice a len cap] 49) := by
  have hmf := mkf
  go_enter Try.func43, Try.ntmps43
  go_wp2
  go_ret
  exact ⟨rfl, rfl⟩
/-- a slice of pointers to types -/
abbrev PtV := RowV pv
/-- what Backward tells -/
theorem bwdP_stops (m Bs b : Nat) (sv : Value) (xs : List Addr) (hreach : xs.length ≤ 1000000000) (w : World) (hBs : Bs < w.heap.size) (hc : w.cell? ⟨Bs, 0, none⟩ = some sv) (hI : PtV (fun c => c = b) w sv xs) :
    SeqStopsK Fence.wide m Try.prog 49 #[.pointer (some ⟨Bs, 0, none⟩)] (fun x : Nat × Addr => #[Value.int .i64 (x.1 : Nat), pv x.2]) (Kb Bs b) (fun ys => ys.map Prod.snd = xs.reverse) (fun _ => True) xs.length w := fun l J Jx W hW _ _ hY h0 => by
  have hc' := (hW.cell (p := ⟨Bs, 0, none⟩) hBs).trans hc
  rcases hI with ⟨a, c, rfl, rfl⟩ | ⟨b', o, c, rfl, hlen, hb1, rfl, hcs⟩
  · exact (bwdP0 m l Bs a c J W hc' h0).mono fun e W' ⟨he, hj⟩ => ⟨he, .inl ⟨_, rfl, hj⟩⟩
  · exact bwdP1 m l Bs b' o c xs hreach J Jx hY W hc' (fun j x hx => (hW.cell (p := ⟨b', o + j, none⟩) hb1).trans (hcs j x hx)) h0
end Go.Proofs.Ytcmnhkopmkaiaaa

