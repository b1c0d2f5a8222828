/-
  Types that came in as arguments, opened.
-/
import Derived.Test.YtcmnhkopmkaiaaaFri
import Derived.Deep.Slices
import Derived.ProofKit
import Derived.OpenShut
import Derived.ShutString
import Derived.Carry
import Derived.Lib.SmallJoins
namespace Go.Proofs.Ytcmnhkopmkaiaaa
open Go.ChangeShapes Go.WideShapes Go.ChangeAt Go.RowKit
theorem cellsT : Try.prog.cellsOf 26 = 7 := by kernel_rfl
theorem cellsI : Try.prog.cellsOf 3 = 1 := by kernel_rfl
theorem cellsS : Try.prog.cellsOf 9 = 1 := by kernel_rfl
theorem cellsB : Try.prog.cellsOf 4 = 1 := by kernel_rfl
theorem cellsSS : Try.prog.cellsOf 22 = 1 := by kernel_rfl
theorem cellsSB : Try.prog.cellsOf 23 = 1 := by kernel_rfl
theorem cellsST : Try.prog.cellsOf 24 = 1 := by kernel_rfl
theorem bytesS : Try.prog.bytesOf 9 = 16 := by kernel_rfl
theorem bytesB : Try.prog.bytesOf 4 = 1 := by kernel_rfl
instance : Inhabited Ty := ⟨.mk 0 ⟨#[]⟩ 0 false [] [] []⟩
instance : Inhabited V3 := ⟨⟨.slice none 0 0, .slice none 0 0, .slice none 0 0⟩⟩
theorem spot_none {W : World} {a : Addr} {v : Value} (h : W.cell? a = some v) : a.spot = none := by
  unfold World.cell? at h
  split at h
  · split at h
    · cases h
    · rename_i h1; simpa using h1
  · cases h
/-- a slice of things of one cell each -/
theorem open_one {α : Type} [Inhabited α] {f : α → Value} {H : Type} {enc : TypeId × Value → H} {W : World} {spare : Nat → Bool} {held : Bool} {T E : TypeId} (hT : Try.prog.underlying T = some (.slice E)) (hE : Try.prog.cellsOf E = 1)
    (hel : ∀ (n : Nat) (c : Value) (x : DataW H × List MemPlace), DataW.trod enc Try.prog W 0 spare held n E [c] = some x → ∃ y, c = f y) {fuel : Nat} {c : Value} {x : DataW H × List MemPlace} (h : DataW.trod enc Try.prog W 0 spare held fuel T [c] = some x) :
    ∃ l : List α, RowV f (fun b => b < W.heap.size) W c l ∧ ((x.1.weights Try.prog T).all (· ≤ reachBytes) = true → l.length * Try.prog.bytesOf E ≤ 140737488355328) := by
  rcases DataW.trod_slice hT h with ⟨hcs, _⟩ | ⟨a', len, cap, elems, rest, n', hfu, hcs, hx, _, hlc, hcm, hlen, hele, _, _⟩
  · simp at hcs
    subst hcs
    exact ⟨[], .inl ⟨_, _, rfl, rfl⟩, fun _ => by simp⟩
  · simp at hcs
    subst hcs
    have hwt : (x.1.weights Try.prog T).all (· ≤ reachBytes) = true → len * Try.prog.bytesOf E ≤ 140737488355328 := fun h9 => by
      rw [hx] at h9
      simp only [DataW.weights, hT, List.all_cons, Bool.and_eq_true, decide_eq_true_eq, List.length_map] at h9
      have h10 := h9.1
      rw [hlen] at h10
      have : len * Try.prog.bytesOf E ≤ (len + rest.length) * Try.prog.bytesOf E := Nat.mul_le_mul_right _ (by omega)
      unfold reachBytes at h10
      omega
    by_cases h0 : len = 0
    · subst h0
      exact ⟨[], .inl ⟨_, _, rfl, rfl⟩, fun _ => by simp⟩
    have each : ∀ i, i < len → ∃ y : α, W.cell? (a'.add i) = some (f y) := fun i hi => by
      have key := hele i hi
      rw [hE, List.getElem?_eq_getElem (by omega)] at key
      obtain ⟨cs', h1, h2⟩ := Option.bind_eq_some_iff.1 key
      obtain ⟨hl1, _, h3⟩ := World.cells?_some h1
      have h4 := h3 0 (by omega)
      match cs', hl1 with
      | [c1], _ =>
        obtain ⟨y, rfl⟩ := hel _ _ _ h2
        refine ⟨y, ?_⟩
        rw [Go.Deep.add_add, show i * 1 + 0 = i by omega] at h4
        rw [h4]; rfl
    obtain ⟨g, hg⟩ := Go.Deep.choose_lt each
    obtain ⟨B, o, sp⟩ := a'
    have hsp : sp = none := by
      have := hg 0 (by omega)
      rw [show (⟨B, o, sp⟩ : Addr).add 0 = ⟨B, o, sp⟩ by simp [Addr.add]] at this
      exact spot_none this
    subst hsp
    have hcell : ∀ i, i < len → W.cell? ⟨B, o + i, none⟩ = some (f (g i)) := fun i hi => by
      have := hg i hi
      rwa [add_plain] at this
    have hkl : ((List.range len).map g).length = len := by simp
    refine ⟨(List.range len).map g, .inr ⟨B, o, cap, by rw [hkl], by rw [hkl]; unfold maxLen at hcm; omega, ?_, ?_, fun i x hx => ?_⟩, fun h9 => by rw [hkl]; exact hwt h9⟩
    · have := World.block_lt_of_cell? _ _ (hcell 0 (by omega)); exact this
    · have := World.block_lt_of_cell? _ _ (hcell 0 (by omega)); exact this
    · have hi : i < len := by have := (List.getElem?_eq_some_iff.1 hx).1; simpa using this
      obtain rfl : g i = x := by simpa [hi] using hx
      exact hcell i hi
theorem fsT : ∀ fs, Try.prog.underlying 26 = some (.struct fs) → fs.toList.map (·.type) = [3, 9, 3, 4, 22, 23, 24] := by
  intro fs h
  rw [Try.underlying26] at h
  obtain rfl : _ = fs := by simpa using h
  rfl
theorem all_app {l l' : List Nat} {f : Nat → Bool} : (l ++ l').all f = true ↔ l.all f = true ∧ l'.all f = true := by simp
theorem wAll {H : Type} {E : TypeId} : ∀ (l : List (DataW H)), (DataW.weightsAll Try.prog E l).all (· ≤ reachBytes) = true → ∀ d ∈ l, (d.weights Try.prog E).all (· ≤ reachBytes) = true
  | [], _, d, hd => by cases hd
  | x :: r, h, d, hd => by
    rw [DataW.weightsAll, all_app] at h
    rcases List.mem_cons.1 hd with rfl | hd
    · exact h.1
    · exact wAll r h.2 d hd
/-- a slice of types, from how one is opened -/
theorem open_many {H : Type} {enc : TypeId × Value → H} {W : World} {spare : Nat → Bool} {held : Bool} {fuel : Nat}
    (ih : ∀ n, n < fuel → ∀ {cs : List Value} {x : DataW H × List MemPlace}, DataW.trod enc Try.prog W 0 spare held n 26 cs = some x → ∃ (t : Ty) (v : V3), cs = cel t v ∧ Prt (fun b => b < W.heap.size) W t v.n v.m v.k ∧ ((x.1.weights Try.prog 26).all (· ≤ reachBytes) = true → Fit t))
    {c : Value} {x : DataW H × List MemPlace} (h : DataW.trod enc Try.prog W 0 spare held fuel 24 [c] = some x) :
    ∃ ks : List Ty, SlT (fun b => b < W.heap.size) W c ks ∧ ((x.1.weights Try.prog 24).all (· ≤ reachBytes) = true → ∀ t ∈ ks, Fit t) := by
  rcases DataW.trod_slice Try.underlying24 h with ⟨hcs, _⟩ | ⟨a', len, cap, elems, rest, n', hfu, hcs, hx, _, hlc, hcm, hlen, hel, _, _⟩
  · simp at hcs
    subst hcs
    exact ⟨[], .inl ⟨_, _, rfl, rfl⟩, fun _ t ht => by cases ht⟩
  · simp at hcs
    subst hcs
    by_cases h0 : len = 0
    · subst h0
      exact ⟨[], .inl ⟨_, _, rfl, rfl⟩, fun _ t ht => by cases ht⟩
    have each : ∀ i, i < len → ∃ p : Ty × V3, (∀ j, j < 7 → W.cell? ((a'.add (i * 7)).add j) = (cel p.1 p.2)[j]?) ∧ Prt (fun b => b < W.heap.size) W p.1 p.2.n p.2.m p.2.k ∧ ((x.1.weights Try.prog 24).all (· ≤ reachBytes) = true → Fit p.1) := fun i hi => by
      have key := hel i hi
      rw [cellsT, List.getElem?_eq_getElem (by omega)] at key
      obtain ⟨cs', h1, h2⟩ := Option.bind_eq_some_iff.1 key
      obtain ⟨t, v, rfl, hv, hf⟩ := ih n' (by omega) h2
      obtain ⟨_, _, h3⟩ := World.cells?_some h1
      refine ⟨(t, v), fun j hj => h3 j hj, hv, fun h9 => hf ?_⟩
      rw [hx] at h9
      simp only [DataW.weights, Try.underlying24, List.all_cons, Bool.and_eq_true, decide_eq_true_eq] at h9
      have h10 := (all_app.1 h9.2).1
      exact wAll _ h10 _ (List.mem_map.2 ⟨_, List.getElem_mem _, rfl⟩)
    obtain ⟨f, hf'⟩ := Go.Deep.choose_lt each
    obtain ⟨B, o, sp⟩ := a'
    have hsp : sp = none := by
      have h1 : W.cell? ⟨B, o, sp⟩ = some (.int .i64 (f 0).1.kind) := by
        have := (hf' 0 (by omega)).1 0 (by omega)
        simpa [Addr.add, cel] using this
      exact spot_none h1
    subst hsp
    have hcell : ∀ i, i < len → ∀ j, j < 7 → W.cell? ⟨B, o + i * 7 + j, none⟩ = (cel (f i).1 (f i).2)[j]? := fun i hi j hj => by
      have := (hf' i hi).1 j hj
      rw [Go.Deep.add_add, add_plain] at this
      rw [Nat.add_assoc]
      exact this
    have hBw : B < W.heap.size := by
      have h2 : W.cell? ⟨B, o, none⟩ = some (.int .i64 (f 0).1.kind) := by
        have := hcell 0 (by omega) 0 (by omega)
        simpa [cel] using this
      exact World.block_lt_of_cell? W ⟨B, o, none⟩ h2
    have hkl : ((List.range len).map fun i => (f i).1).length = len := by simp
    refine ⟨(List.range len).map fun i => (f i).1, .inr ⟨B, o, cap, by rw [hkl], by rw [hkl]; unfold maxLen at hcm; omega, hBw, hBw, liesT_of fun i hi => ?_⟩, fun h9 t ht => ?_⟩
    · have hi' : i < len := by omega
      have hg : ((List.range len).map fun i => (f i).1)[i] = (f i).1 := by simp
      rw [hg]
      have k := hcell i hi'
      exact lies_iff.2 ⟨by simpa [cel] using k 0 (by omega), by simpa [cel] using k 1 (by omega), by simpa [cel] using k 2 (by omega), by simpa [cel] using k 3 (by omega), _, _, _, by simpa [cel] using k 4 (by omega), by simpa [cel] using k 5 (by omega), by simpa [cel] using k 6 (by omega), (hf' i hi').2.1⟩
    · obtain ⟨i, hi, rfl⟩ := List.mem_map.1 ht
      exact (hf' i (by simpa using hi)).2.2 h9
set_option maxRecDepth 100000 in
/-- what a type's cells read as -/
theorem open_node {H : Type} {enc : TypeId × Value → H} {W : World} {spare : Nat → Bool} {held : Bool} : ∀ (fuel : Nat) {cs : List Value} {x : DataW H × List MemPlace}, DataW.trod enc Try.prog W 0 spare held fuel 26 cs = some x →
    ∃ (t : Ty) (v : V3), cs = cel t v ∧ Prt (fun b => b < W.heap.size) W t v.n v.m v.k ∧ ((x.1.weights Try.prog 26).all (· ≤ reachBytes) = true → Fit t) := by
  intro fuel
  induction fuel using Nat.strongRecOn with
  | ind fuel ih =>
    intro cs x h
    obtain ⟨xs, k, hk, rfl, hl, hxl, hf⟩ := DataW.trod_struct Try.underlying26 h
    rw [cellsT] at hl
    match cs, hl with
    | [c0, c1, c2, c3, c4, c5, c6], _ =>
      have g0 : DataW.trod enc Try.prog W 0 spare held k 3 [c0] = xs[0]? := by have h := hf 0 _ rfl; simpa [cellsI] using h
      have g1 : DataW.trod enc Try.prog W 0 spare held k 9 [c1] = xs[1]? := by have h := hf 1 _ rfl; simpa [cellsI, cellsS] using h
      have g2 : DataW.trod enc Try.prog W 0 spare held k 3 [c2] = xs[2]? := by have h := hf 2 _ rfl; simpa [cellsI, cellsS] using h
      have g3 : DataW.trod enc Try.prog W 0 spare held k 4 [c3] = xs[3]? := by have h := hf 3 _ rfl; simpa [cellsI, cellsS, cellsB] using h
      have g4 : DataW.trod enc Try.prog W 0 spare held k 22 [c4] = xs[4]? := by have h := hf 4 _ rfl; simpa [cellsI, cellsS, cellsB, cellsSS] using h
      have g5 : DataW.trod enc Try.prog W 0 spare held k 23 [c5] = xs[5]? := by have h := hf 5 _ rfl; simpa [cellsI, cellsS, cellsB, cellsSS, cellsSB] using h
      have g6 : DataW.trod enc Try.prog W 0 spare held k 24 [c6] = xs[6]? := by have h := hf 6 _ rfl; simpa [cellsI, cellsS, cellsB, cellsSS, cellsSB, cellsST] using h
      match xs, hxl with
      | [y0, y1, y2, y3, y4, y5, y6], _ =>
        simp only [List.getElem?_cons_zero, List.getElem?_cons_succ] at g0 g1 g2 g3 g4 g5 g6
        obtain ⟨s0, e0, r0, _⟩ := DataW.trod_int Try.underlying3 g0
        obtain ⟨s1, e1, r1, _⟩ := DataW.trod_string Try.underlying9 g1
        obtain ⟨s2, e2, r2, _⟩ := DataW.trod_int Try.underlying3 g2
        obtain ⟨s3, e3, r3⟩ := DataW.trod_bool Try.underlying4 g3
        simp at e0 e1 e2 e3
        subst e0 e1 e2 e3
        obtain ⟨ns, hns, wns⟩ := open_one (f := Value.string) Try.underlying22 cellsS (fun n c x h => by obtain ⟨s, e, _⟩ := DataW.trod_string Try.underlying9 h; exact ⟨s, by simpa using e⟩) g4
        obtain ⟨ms, hms, wms⟩ := open_one (f := Value.bool) Try.underlying23 cellsB (fun n c x h => by obtain ⟨s, e, _⟩ := DataW.trod_bool Try.underlying4 h; exact ⟨s, by simpa using e⟩) g5
        obtain ⟨ks, hks, wks⟩ := open_many (fuel := k) (fun n hn => ih n (by omega)) g6
        refine ⟨.mk s0 s1 s2 s3 ns ms ks, ⟨c4, c5, c6⟩, rfl, ⟨hns, hms, hks⟩, fun h9 => ?_⟩
        have h10 : (DataW.weightsEach Try.prog [3, 9, 3, 4, 22, 23, 24] [y0.1, y1.1, y2.1, y3.1, y4.1, y5.1, y6.1]).all (· ≤ reachBytes) = true := by
          have h11 := h9
          simp only [DataW.weights, Try.underlying26] at h11
          exact h11
        simp only [DataW.weightsEach, all_app] at h10
        obtain ⟨_, _, _, _, q4, q5, q6, _⟩ := h10
        have b4 := wns q4
        have b5 := wms q5
        rw [bytesS] at b4
        rw [bytesB] at b5
        exact .mk _ b4 b5 (wks q6)
set_option maxRecDepth 100000 in
/-- an argument that is a type -/
theorem open_type {H : Type} {enc : TypeId × Value → H} {W : World} {base : Nat} {v : Value} {d : DataW H} {ps : List MemPlace} (hv : Value.okWide Try.prog W .any base 26 v) (h : DataW.Trod enc Try.prog W 0 (fun _ => true) true 26 v d ps) :
    ∃ (t : Ty) (vn vm vk : Value), v = agT t vn vm vk ∧ Prt (fun b => b < W.heap.size) W t vn vm vk ∧ ((d.weights Try.prog 26).all (· ≤ reachBytes) = true → Fit t) := by
  obtain ⟨cs, rfl, _⟩ := okWide_struct Try.underlying26 hv
  obtain ⟨fuel, hf⟩ := h
  obtain ⟨t, u, hc, hs, hw⟩ := open_node fuel hf
  refine ⟨t, u.n, u.m, u.k, ?_, hs, hw⟩
  simp only [Value.cells] at hc
  unfold agT
  congr 1
  exact Array.toList_inj.1 hc
set_option maxRecDepth 100000 in
/-- an argument that is a slice of types -/
theorem open_types {H : Type} {enc : TypeId × Value → H} {W : World} {base : Nat} {v : Value} {d : DataW H} {ps : List MemPlace} (hv : Value.okWide Try.prog W .any base 24 v) (h : DataW.Trod enc Try.prog W 0 (fun _ => true) true 24 v d ps) :
    ∃ (a : Option Addr) (n c : Nat) (ks : List Ty), v = .slice a n c ∧ SlT (fun b => b < W.heap.size) W (.slice a n c) ks ∧ ((d.weights Try.prog 24).all (· ≤ reachBytes) = true → ∀ t ∈ ks, Fit t) := by
  obtain ⟨a, n, c, rfl⟩ := okWide_slice Try.underlying24 hv
  obtain ⟨fuel, hf⟩ := h
  obtain ⟨ks, hs, hw⟩ := open_many (fuel := fuel) (fun n _ => open_node n) (c := .slice a n c) hf
  exact ⟨a, n, c, ks, rfl, hs, hw⟩
end Go.Proofs.Ytcmnhkopmkaiaaa

