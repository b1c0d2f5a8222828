/-
  Arguments that are types, and declared types, opened.
-/
import Derived.Test.YtpcpncgigdebiaaJaK
import Derived.Deep.Slices
import Derived.ProofKit
import Derived.OpenShut
import Derived.ShutString
import Derived.Carry
import Derived.Lib.SmallJoins
import Derived.Test.YtpcpncgigdebiaaJaJ
import Derived.Test.YtpcpncgigdebiaaJaM
namespace Go.Proofs.Ytpcpncgigdebiaa
open Go.ChangeShapes Go.WideShapes Go.ChangeAt Go.RowKit
theorem cellsT : Try.prog.cellsOf 27 = 7 := by kernel_rfl
theorem cellsI : Try.prog.cellsOf 3 = 1 := by kernel_rfl
theorem cellsS : Try.prog.cellsOf 9 = 1 := by kernel_rfl
theorem cellsB : Try.prog.cellsOf 4 = 1 := by kernel_rfl
theorem cellsSS : Try.prog.cellsOf 23 = 1 := by kernel_rfl
theorem cellsSB : Try.prog.cellsOf 24 = 1 := by kernel_rfl
theorem cellsST : Try.prog.cellsOf 25 = 1 := by kernel_rfl
theorem cellsM : Try.prog.cellsOf 51 = 9 := by kernel_rfl
theorem cellsN : Try.prog.cellsOf 40 = 9 := by kernel_rfl
theorem cellsSM : Try.prog.cellsOf 38 = 1 := by kernel_rfl
theorem bytesS : Try.prog.bytesOf 9 = 16 := by kernel_rfl
theorem bytesB : Try.prog.bytesOf 4 = 1 := by kernel_rfl
theorem bytesM : Try.prog.bytesOf 51 = 136 := by kernel_rfl
instance : Inhabited Ty := ⟨.mk 0 ⟨#[]⟩ 0 false [] [] []⟩
instance : Inhabited V3 := ⟨⟨.slice none 0 0, .slice none 0 0, .slice none 0 0⟩⟩
instance : Inhabited V4 := ⟨⟨default, .slice none 0 0⟩⟩
instance : Inhabited Mth := ⟨⟨⟨#[]⟩, false, default⟩⟩
instance : Inhabited Nmd := ⟨⟨⟨#[]⟩, default, []⟩⟩
theorem spot_none {W : World} {a : Addr} {v : Value} (h : W.cell? a = some v) : a.spot = none := by
  unfold World.cell? at h
  split at h
  · split at h
    · cases h
    · rename_i h1; simpa using h1
  · cases h
theorem all_app {l l' : List Nat} {f : Nat → Bool} : (l ++ l').all f = true ↔ l.all f = true ∧ l'.all f = true := by simp
theorem wAll {H : Type} {E : TypeId} : ∀ (l : List (DataW H)), (DataW.weightsAll Try.prog E l).all (· ≤ reachBytes) = true → ∀ d ∈ l, (d.weights Try.prog E).all (· ≤ reachBytes) = true
  | [], _, d, hd => by cases hd
  | x :: r, h, d, hd => by
    rw [DataW.weightsAll, all_app] at h
    rcases List.mem_cons.1 hd with rfl | hd
    · exact h.1
    · exact wAll r h.2 d hd
set_option maxRecDepth 100000 in
/-- a slice's elements, from how one is opened -/
theorem open_row {α : Type} [Inhabited α] {H : Type} {enc : TypeId × Value → H} {W : World} {spare : Nat → Bool} {held : Bool} {fuel : Nat} {T E : TypeId} {sz : Nat} (hT : Try.prog.underlying T = some (.slice E)) (hE : Try.prog.cellsOf E = sz) (hs : 0 < sz) (cl : α → List Value) (hcl : ∀ a, (cl a).length = sz) (R Q : α → Prop)
    (ih : ∀ n, n < fuel → ∀ {cs : List Value} {x : DataW H × List MemPlace}, DataW.trod enc Try.prog W 0 spare held n E cs = some x → ∃ a : α, cs = cl a ∧ R a ∧ ((x.1.weights Try.prog E).all (· ≤ reachBytes) = true → Q a))
    {c : Value} {x : DataW H × List MemPlace} (h : DataW.trod enc Try.prog W 0 spare held fuel T [c] = some x) :
    ∃ l : List α, ((∃ a c', c = .slice a 0 c' ∧ l = []) ∨ ∃ b o c', c = .slice (some ⟨b, o, none⟩) l.length c' ∧ (l.length : Int) ≤ 9223372036854775807 ∧ b < W.heap.size ∧ ∀ i (hi : i < l.length) j, j < sz → W.cell? ⟨b, o + i * sz + j, none⟩ = (cl l[i])[j]?) ∧ (∀ a ∈ l, R a) ∧ ((x.1.weights Try.prog T).all (· ≤ reachBytes) = true → (∀ a ∈ l, Q a) ∧ l.length * Try.prog.bytesOf E ≤ 140737488355328) := by
  rcases DataW.trod_slice hT h with ⟨hcs, _⟩ | ⟨a', len, cap, elems, rest, n', hfu, hcs, hx, _, hlc, hcm, hlen, hel, _, _⟩
  · simp at hcs
    subst hcs
    exact ⟨[], .inl ⟨_, _, rfl, rfl⟩, (fun t ht => by cases ht), fun _ => ⟨(fun t ht => by cases ht), by simp⟩⟩
  · simp at hcs
    subst hcs
    have hwt : (x.1.weights Try.prog T).all (· ≤ reachBytes) = true → len * Try.prog.bytesOf E ≤ 140737488355328 := fun h9 => by
      rw [hx] at h9
      simp only [DataW.weights, hT, List.all_cons, Bool.and_eq_true, decide_eq_true_eq, List.length_map] at h9
      have h10 := h9.1
      rw [hlen] at h10
      have : len * Try.prog.bytesOf E ≤ (len + rest.length) * Try.prog.bytesOf E := Nat.mul_le_mul_right _ (by omega)
      unfold reachBytes at h10
      omega
    by_cases h0 : len = 0
    · subst h0
      exact ⟨[], .inl ⟨_, _, rfl, rfl⟩, (fun t ht => by cases ht), fun _ => ⟨(fun t ht => by cases ht), by simp⟩⟩
    have each : ∀ i, i < len → ∃ p : α, (∀ j, j < sz → W.cell? ((a'.add (i * sz)).add j) = (cl p)[j]?) ∧ R p ∧ ((x.1.weights Try.prog T).all (· ≤ reachBytes) = true → Q p) := fun i hi => by
      have key := hel i hi
      rw [hE, List.getElem?_eq_getElem (by omega)] at key
      obtain ⟨cs', h1, h2⟩ := Option.bind_eq_some_iff.1 key
      obtain ⟨p, rfl, hv, hf⟩ := ih n' (by omega) h2
      obtain ⟨_, _, h3⟩ := World.cells?_some h1
      refine ⟨p, fun j hj => h3 j hj, hv, fun h9 => hf ?_⟩
      rw [hx] at h9
      simp only [DataW.weights, hT, List.all_cons, Bool.and_eq_true, decide_eq_true_eq] at h9
      have h10 := (all_app.1 h9.2).1
      exact wAll _ h10 _ (List.mem_map.2 ⟨_, List.getElem_mem _, rfl⟩)
    obtain ⟨f, hf'⟩ := Go.Deep.choose_lt each
    obtain ⟨B, o, sp⟩ := a'
    have hf0 := (hf' 0 (by omega)).1 0 hs
    have hlp : 0 < (cl (f 0)).length := by rw [hcl]; exact hs
    have hc0 : (cl (f 0))[0]? = some ((cl (f 0))[0]'hlp) := List.getElem?_eq_getElem hlp
    have hsp : sp = none := by
      rw [hc0] at hf0
      exact spot_none (W := W) (a := ⟨B, o, sp⟩) (v := (cl (f 0))[0]'hlp) (by simpa [Addr.add] using hf0)
    subst hsp
    have hcell : ∀ i, i < len → ∀ j, j < sz → W.cell? ⟨B, o + i * sz + j, none⟩ = (cl (f i))[j]? := fun i hi j hj => by
      have := (hf' i hi).1 j hj
      rw [Go.Deep.add_add, add_plain] at this
      rw [Nat.add_assoc]
      exact this
    have hBw : B < W.heap.size := by
      have h2 := hcell 0 (by omega) 0 hs
      rw [hc0] at h2
      exact World.block_lt_of_cell? W _ h2
    have hkl : ((List.range len).map f).length = len := by simp
    refine ⟨(List.range len).map f, .inr ⟨B, o, cap, by rw [hkl], by rw [hkl]; unfold maxLen at hcm; omega, hBw, fun i hi j hj => ?_⟩, fun t ht => ?_, fun h9 => ⟨fun t ht => ?_, by rw [hkl]; exact hwt h9⟩⟩
    · have hi' : i < len := by omega
      have hg : ((List.range len).map f)[i] = f i := by simp
      rw [hg]
      exact hcell i hi' j hj
    · obtain ⟨i, hi, rfl⟩ := List.mem_map.1 ht
      exact (hf' i (by simpa using hi)).2.1
    · obtain ⟨i, hi, rfl⟩ := List.mem_map.1 ht
      exact (hf' i (by simpa using hi)).2.2 h9
/-- a slice of things of one cell each -/
theorem open_one {α : Type} [Inhabited α] {f : α → Value} {H : Type} {enc : TypeId × Value → H} {W : World} {spare : Nat → Bool} {held : Bool} {T E : TypeId} (hT : Try.prog.underlying T = some (.slice E)) (hE : Try.prog.cellsOf E = 1)
    (hel : ∀ (n : Nat) (c : Value) (x : DataW H × List MemPlace), DataW.trod enc Try.prog W 0 spare held n E [c] = some x → ∃ y, c = f y) {fuel : Nat} {c : Value} {x : DataW H × List MemPlace} (h : DataW.trod enc Try.prog W 0 spare held fuel T [c] = some x) :
    ∃ l : List α, RowV f (fun b => b < W.heap.size) W c l ∧ ((x.1.weights Try.prog T).all (· ≤ reachBytes) = true → l.length * Try.prog.bytesOf E ≤ 140737488355328) := by
  rcases DataW.trod_slice hT h with ⟨hcs, _⟩ | ⟨a', len, cap, elems, rest, n', hfu, hcs, hx, _, hlc, hcm, hlen, hele, _, _⟩
  · simp at hcs
    subst hcs
    exact ⟨[], .inl ⟨_, _, rfl, rfl⟩, fun _ => by simp⟩
  · simp at hcs
    subst hcs
    have hwt : (x.1.weights Try.prog T).all (· ≤ reachBytes) = true → len * Try.prog.bytesOf E ≤ 140737488355328 := fun h9 => by
      rw [hx] at h9
      simp only [DataW.weights, hT, List.all_cons, Bool.and_eq_true, decide_eq_true_eq, List.length_map] at h9
      have h10 := h9.1
      rw [hlen] at h10
      have : len * Try.prog.bytesOf E ≤ (len + rest.length) * Try.prog.bytesOf E := Nat.mul_le_mul_right _ (by omega)
      unfold reachBytes at h10
      omega
    by_cases h0 : len = 0
    · subst h0
      exact ⟨[], .inl ⟨_, _, rfl, rfl⟩, fun _ => by simp⟩
    have each : ∀ i, i < len → ∃ y : α, W.cell? (a'.add i) = some (f y) := fun i hi => by
      have key := hele i hi
      rw [hE, List.getElem?_eq_getElem (by omega)] at key
      obtain ⟨cs', h1, h2⟩ := Option.bind_eq_some_iff.1 key
      obtain ⟨hl1, _, h3⟩ := World.cells?_some h1
      have h4 := h3 0 (by omega)
      match cs', hl1 with
      | [c1], _ =>
        obtain ⟨y, rfl⟩ := hel _ _ _ h2
        refine ⟨y, ?_⟩
        rw [Go.Deep.add_add, show i * 1 + 0 = i by omega] at h4
        rw [h4]; rfl
    obtain ⟨g, hg⟩ := Go.Deep.choose_lt each
    obtain ⟨B, o, sp⟩ := a'
    have hsp : sp = none := by
      have := hg 0 (by omega)
      rw [show (⟨B, o, sp⟩ : Addr).add 0 = ⟨B, o, sp⟩ by simp [Addr.add]] at this
      exact spot_none this
    subst hsp
    have hcell : ∀ i, i < len → W.cell? ⟨B, o + i, none⟩ = some (f (g i)) := fun i hi => by
      have := hg i hi
      rwa [add_plain] at this
    have hkl : ((List.range len).map g).length = len := by simp
    refine ⟨(List.range len).map g, .inr ⟨B, o, cap, by rw [hkl], by rw [hkl]; unfold maxLen at hcm; omega, ?_, ?_, fun i x hx => ?_⟩, fun h9 => by rw [hkl]; exact hwt h9⟩
    · have := World.block_lt_of_cell? _ _ (hcell 0 (by omega)); exact this
    · have := World.block_lt_of_cell? _ _ (hcell 0 (by omega)); exact this
    · have hi : i < len := by have := (List.getElem?_eq_some_iff.1 hx).1; simpa using this
      obtain rfl : g i = x := by simpa [hi] using hx
      exact hcell i hi
theorem cel_len (t : Ty) (v : V3) : (cel t v).length = 7 := rfl
theorem nszL_of {l : List Ty} (h : ∀ x ∈ l, x.nsz = true) : nszL l = true := by
  induction l with
  | nil => rfl
  | cons x r ih => simp only [nszL, Bool.and_eq_true]; exact ⟨h x (by simp), ih (fun y hy => h y (by simp [hy]))⟩
set_option maxRecDepth 100000 in
/-- what a type's cells read as -/
theorem open_node {H : Type} {enc : TypeId × Value → H} {W : World} {spare : Nat → Bool} {held : Bool} : ∀ (fuel : Nat) {cs : List Value} {x : DataW H × List MemPlace}, DataW.trod enc Try.prog W 0 spare held fuel 27 cs = some x →
    ∃ p : Ty × V3, cs = cel p.1 p.2 ∧ (Prt (fun b => b < W.heap.size) W p.1 p.2.n p.2.m p.2.k ∧ p.1.nsz = true) ∧ ((x.1.weights Try.prog 27).all (· ≤ reachBytes) = true → Fit p.1) := by
  intro fuel
  induction fuel using Nat.strongRecOn with
  | ind fuel ih =>
    intro cs x h
    obtain ⟨xs, k, hk, rfl, hl, hxl, hf⟩ := DataW.trod_struct Try.underlying27 h
    rw [cellsT] at hl
    match cs, hl with
    | [c0, c1, c2, c3, c4, c5, c6], _ =>
      have g0 : DataW.trod enc Try.prog W 0 spare held k 3 [c0] = xs[0]? := by have h := hf 0 _ rfl; simpa [cellsI] using h
      have g1 : DataW.trod enc Try.prog W 0 spare held k 9 [c1] = xs[1]? := by have h := hf 1 _ rfl; simpa [cellsI, cellsS] using h
      have g2 : DataW.trod enc Try.prog W 0 spare held k 3 [c2] = xs[2]? := by have h := hf 2 _ rfl; simpa [cellsI, cellsS] using h
      have g3 : DataW.trod enc Try.prog W 0 spare held k 4 [c3] = xs[3]? := by have h := hf 3 _ rfl; simpa [cellsI, cellsS, cellsB] using h
      have g4 : DataW.trod enc Try.prog W 0 spare held k 23 [c4] = xs[4]? := by have h := hf 4 _ rfl; simpa [cellsI, cellsS, cellsB, cellsSS] using h
      have g5 : DataW.trod enc Try.prog W 0 spare held k 24 [c5] = xs[5]? := by have h := hf 5 _ rfl; simpa [cellsI, cellsS, cellsB, cellsSS, cellsSB] using h
      have g6 : DataW.trod enc Try.prog W 0 spare held k 25 [c6] = xs[6]? := by have h := hf 6 _ rfl; simpa [cellsI, cellsS, cellsB, cellsSS, cellsSB, cellsST] using h
      match xs, hxl with
      | [y0, y1, y2, y3, y4, y5, y6], _ =>
        simp only [List.getElem?_cons_zero, List.getElem?_cons_succ] at g0 g1 g2 g3 g4 g5 g6
        obtain ⟨s0, e0, r0, _⟩ := DataW.trod_int Try.underlying3 g0
        obtain ⟨s1, e1, r1, m1⟩ := DataW.trod_string Try.underlying9 g1
        obtain ⟨s2, e2, r2, _⟩ := DataW.trod_int Try.underlying3 g2
        obtain ⟨s3, e3, r3⟩ := DataW.trod_bool Try.underlying4 g3
        simp at e0 e1 e2 e3
        subst e0 e1 e2 e3
        obtain ⟨ns, hns, wns⟩ := open_one (f := Value.string) Try.underlying23 cellsS (fun n c x h => by obtain ⟨s, e, _⟩ := DataW.trod_string Try.underlying9 h; exact ⟨s, by simpa using e⟩) g4
        obtain ⟨ms, hms, wms⟩ := open_one (f := Value.bool) Try.underlying24 cellsB (fun n c x h => by obtain ⟨s, e, _⟩ := DataW.trod_bool Try.underlying4 h; exact ⟨s, by simpa using e⟩) g5
        obtain ⟨ks, hks, rks, wks⟩ := open_row (α := Ty × V3) (fuel := k) Try.underlying25 cellsT (by omega) (fun p => cel p.1 p.2) (fun p => cel_len _ _) (fun p => Prt (fun b => b < W.heap.size) W p.1 p.2.n p.2.m p.2.k ∧ p.1.nsz = true) (fun p => Fit p.1) (fun n hn => ih n (by omega)) g6
        have hsl : SlT (fun b => b < W.heap.size) W c6 (ks.map (·.1)) := by
          rcases hks with ⟨a, c', rfl, rfl⟩ | ⟨b, o, c', rfl, h2, h3, h4⟩
          · exact .inl ⟨a, c', rfl, rfl⟩
          · refine .inr ⟨b, o, c', by simp, by simpa using h2, h3, h3, liesT_of fun i hi => ?_⟩
            have hi' : i < ks.length := by simpa using hi
            have hg : (ks.map (·.1))[i] = (ks[i]).1 := by simp
            rw [hg]
            have kk := h4 i hi'
            exact lies_iff.2 ⟨by simpa [cel] using kk 0 (by omega), by simpa [cel] using kk 1 (by omega), by simpa [cel] using kk 2 (by omega), by simpa [cel] using kk 3 (by omega), _, _, _, by simpa [cel] using kk 4 (by omega), by simpa [cel] using kk 5 (by omega), by simpa [cel] using kk 6 (by omega), (rks _ (List.getElem_mem hi')).1⟩
        refine ⟨(.mk s0 s1 s2 s3 ns ms (ks.map (fun p : Ty × V3 => p.1)), ⟨c4, c5, c6⟩), rfl, ⟨⟨hns, hms, hsl⟩, ?_⟩, fun h9 => ?_⟩
        · simp only [Ty.nsz, Bool.and_eq_true, decide_eq_true_eq]
          refine ⟨m1, nszL_of fun t ht => ?_⟩
          obtain ⟨p, hp, rfl⟩ := List.mem_map.1 ht
          exact (rks p hp).2
        · have h10 : (DataW.weightsEach Try.prog [3, 9, 3, 4, 23, 24, 25] [y0.1, y1.1, y2.1, y3.1, y4.1, y5.1, y6.1]).all (· ≤ reachBytes) = true := by
            have h11 := h9
            simp only [DataW.weights, Try.underlying27] at h11
            exact h11
          simp only [DataW.weightsEach, all_app] at h10
          obtain ⟨_, _, _, _, q4, q5, q6, _⟩ := h10
          have b4 := wns q4
          have b5 := wms q5
          rw [bytesS] at b4
          rw [bytesB] at b5
          exact .mk _ b4 b5 (fun t ht => by
            obtain ⟨p, hp, rfl⟩ := List.mem_map.1 ht
            exact (wks q6).1 p hp)
theorem celM_len (m : Mth) (v : V3) : (celM m v).length = 9 := rfl
theorem celN_len (m : Nmd) (v : V4) : (celN m v).length = 9 := rfl
set_option maxRecDepth 100000 in
/-- what a method's cells read as -/
theorem open_mth {H : Type} {enc : TypeId × Value → H} {W : World} {spare : Nat → Bool} {held : Bool} (fuel : Nat) {cs : List Value} {x : DataW H × List MemPlace} (h : DataW.trod enc Try.prog W 0 spare held fuel 51 cs = some x) :
    ∃ p : Mth × V3, cs = celM p.1 p.2 ∧ (Prt (fun b => b < W.heap.size) W p.1.sig p.2.n p.2.m p.2.k ∧ p.1.sig.nsz = true) ∧ ((x.1.weights Try.prog 51).all (· ≤ reachBytes) = true → Fit p.1.sig) := by
  obtain ⟨xs, k, hk, rfl, hl, hxl, hf⟩ := DataW.trod_struct Try.underlying51 h
  rw [cellsM] at hl
  match cs, hl with
  | [c0, c1, c2, c3, c4, c5, c6, c7, c8], _ =>
    have g0 : DataW.trod enc Try.prog W 0 spare held k 9 [c0] = xs[0]? := by have h := hf 0 _ rfl; simpa [cellsS] using h
    have g1 : DataW.trod enc Try.prog W 0 spare held k 4 [c1] = xs[1]? := by have h := hf 1 _ rfl; simpa [cellsS, cellsB] using h
    have g2 : DataW.trod enc Try.prog W 0 spare held k 27 [c2, c3, c4, c5, c6, c7, c8] = xs[2]? := by have h := hf 2 _ rfl; simpa [cellsS, cellsB, cellsT] using h
    match xs, hxl with
    | [y0, y1, y2], _ =>
      simp only [List.getElem?_cons_zero, List.getElem?_cons_succ] at g0 g1 g2
      obtain ⟨s0, e0, r0, _⟩ := DataW.trod_string Try.underlying9 g0
      obtain ⟨s1, e1, r1⟩ := DataW.trod_bool Try.underlying4 g1
      simp at e0 e1
      subst e0 e1
      obtain ⟨p, e2, hp, hw⟩ := open_node k g2
      refine ⟨(⟨s0, s1, p.1⟩, p.2), ?_, hp, fun h9 => ?_⟩
      · show _ = [_, _] ++ cel p.1 p.2
        rw [← e2]; rfl
      · have h10 : (DataW.weightsEach Try.prog [9, 4, 27] [y0.1, y1.1, y2.1]).all (· ≤ reachBytes) = true := by
          have h11 := h9
          simp only [DataW.weights, Try.underlying51] at h11
          exact h11
        simp only [DataW.weightsEach, all_app] at h10
        exact hw h10.2.2.1
/-- what is known of a declared type that came in -/
structure InN (t : Nmd) : Prop where
  nm : t.name.size ≤ maxLen
  us : t.under.nsz = true
  ms : ∀ m ∈ t.mths, m.sig.nsz = true
/-- what is known of its size -/
structure InF (t : Nmd) : Prop where
  un : Fit t.under
  ms : t.mths.length * 136 ≤ 140737488355328
  ss : ∀ m ∈ t.mths, Fit m.sig
set_option maxRecDepth 100000 in
/-- what a declared type's cells read as -/
theorem open_nmd {H : Type} {enc : TypeId × Value → H} {W : World} {spare : Nat → Bool} {held : Bool} (fuel : Nat) {cs : List Value} {x : DataW H × List MemPlace} (h : DataW.trod enc Try.prog W 0 spare held fuel 40 cs = some x) :
    ∃ p : Nmd × V4, cs = celN p.1 p.2 ∧ (NmP (fun b => b < W.heap.size) W p.1 p.2.t.n p.2.t.m p.2.t.k p.2.s ∧ InN p.1) ∧ ((x.1.weights Try.prog 40).all (· ≤ reachBytes) = true → InF p.1) := by
  obtain ⟨xs, k, hk, rfl, hl, hxl, hf⟩ := DataW.trod_struct Try.underlying40 h
  rw [cellsN] at hl
  match cs, hl with
  | [c0, c1, c2, c3, c4, c5, c6, c7, c8], _ =>
    have g0 : DataW.trod enc Try.prog W 0 spare held k 9 [c0] = xs[0]? := by have h := hf 0 _ rfl; simpa [cellsS] using h
    have g1 : DataW.trod enc Try.prog W 0 spare held k 27 [c1, c2, c3, c4, c5, c6, c7] = xs[1]? := by have h := hf 1 _ rfl; simpa [cellsS, cellsT] using h
    have g2 : DataW.trod enc Try.prog W 0 spare held k 38 [c8] = xs[2]? := by have h := hf 2 _ rfl; simpa [cellsS, cellsT, cellsSM] using h
    match xs, hxl with
    | [y0, y1, y2], _ =>
      simp only [List.getElem?_cons_zero, List.getElem?_cons_succ] at g0 g1 g2
      obtain ⟨s0, e0, r0, m0⟩ := DataW.trod_string Try.underlying9 g0
      simp at e0
      subst e0
      obtain ⟨p, e1, hp, hw⟩ := open_node k g1
      obtain ⟨ks, hks, rks, wks⟩ := open_row (α := Mth × V3) (fuel := k) Try.underlying38 cellsM (by omega) (fun p => celM p.1 p.2) (fun p => celM_len _ _) (fun p => Prt (fun b => b < W.heap.size) W p.1.sig p.2.n p.2.m p.2.k ∧ p.1.sig.nsz = true) (fun p => Fit p.1.sig) (fun n hn => open_mth n) g2
      have hsl : SlM (fun b => b < W.heap.size) W c8 (ks.map (·.1)) := by
        rcases hks with ⟨a, c', rfl, rfl⟩ | ⟨b, o, c', rfl, h2, h3, h4⟩
        · exact .inl ⟨a, c', rfl, rfl⟩
        · refine .inr ⟨b, o, c', by simp, by simpa using h2, h3, h3, fun i hi => ?_⟩
          have hi' : i < ks.length := by simpa using hi
          have hg : (ks.map (·.1))[i] = (ks[i]).1 := by simp
          rw [hg]
          have kk := h4 i hi'
          exact ⟨by simpa [celM, cel] using kk 0 (by omega), by simpa [celM, cel] using kk 1 (by omega), lies_iff.2 ⟨by simpa [celM, cel] using kk 2 (by omega), by simpa [celM, cel] using kk 3 (by omega), by simpa [celM, cel] using kk 4 (by omega), by simpa [celM, cel] using kk 5 (by omega), _, _, _, by simpa [celM, cel] using kk 6 (by omega), by simpa [celM, cel] using kk 7 (by omega), by simpa [celM, cel] using kk 8 (by omega), (rks _ (List.getElem_mem hi')).1⟩⟩
      refine ⟨(⟨s0, p.1, ks.map (fun q : Mth × V3 => q.1)⟩, ⟨p.2, c8⟩), ?_, ⟨⟨hp.1, hsl⟩, m0, hp.2, fun m hm => ?_⟩, fun h9 => ?_⟩
      · have e2 : cel p.1 p.2 = [.int .i64 p.1.kind, .string p.1.name, .int .i64 p.1.n, .bool p.1.flag, p.2.n, p.2.m, p.2.k] := rfl
        rw [e2] at e1
        simp only [List.cons.injEq, and_true] at e1
        obtain ⟨rfl, rfl, rfl, rfl, rfl, rfl, rfl⟩ := e1
        rfl
      · obtain ⟨q, hq, rfl⟩ := List.mem_map.1 hm
        exact (rks q hq).2
      · have h10 : (DataW.weightsEach Try.prog [9, 27, 38] [y0.1, y1.1, y2.1]).all (· ≤ reachBytes) = true := by
          have h11 := h9
          simp only [DataW.weights, Try.underlying40] at h11
          exact h11
        simp only [DataW.weightsEach, all_app] at h10
        obtain ⟨w1, w2⟩ := wks h10.2.2.1
        rw [bytesM] at w2
        exact ⟨hw h10.2.1, by simpa using w2, fun m hm => by
          obtain ⟨q, hq, rfl⟩ := List.mem_map.1 hm
          exact w1 q hq⟩
set_option maxRecDepth 100000 in
/-- an argument that is a type -/
theorem open_type {H : Type} {enc : TypeId × Value → H} {W : World} {base : Nat} {v : Value} {d : DataW H} {ps : List MemPlace} (hv : Value.okWide Try.prog W .any base 27 v) (h : DataW.Trod enc Try.prog W 0 (fun _ => true) true 27 v d ps) :
    ∃ (t : Ty) (vn vm vk : Value), v = agT t vn vm vk ∧ Prt (fun b => b < W.heap.size) W t vn vm vk ∧ t.nsz = true ∧ ((d.weights Try.prog 27).all (· ≤ reachBytes) = true → Fit t) := by
  obtain ⟨cs, rfl, _⟩ := okWide_struct Try.underlying27 hv
  obtain ⟨fuel, hf⟩ := h
  obtain ⟨⟨t, u⟩, hc, hs, hw⟩ := open_node fuel hf
  refine ⟨t, u.n, u.m, u.k, ?_, hs.1, hs.2, hw⟩
  simp only [Value.cells] at hc
  unfold agT
  congr 1
  exact Array.toList_inj.1 hc
set_option maxRecDepth 100000 in
/-- an argument that is a slice of declared types -/
theorem open_nmds {H : Type} {enc : TypeId × Value → H} {W : World} {base : Nat} {v : Value} {d : DataW H} {ps : List MemPlace} (hv : Value.okWide Try.prog W .any base 22 v) (h : DataW.Trod enc Try.prog W 0 (fun _ => true) true 22 v d ps) :
    ∃ (a : Option Addr) (n c : Nat) (l : List Nmd), v = .slice a n c ∧ SlN (fun b => b < W.heap.size) W (.slice a n c) l ∧ (∀ t ∈ l, InN t) ∧ ((d.weights Try.prog 22).all (· ≤ reachBytes) = true → ∀ t ∈ l, InF t) := by
  obtain ⟨a, n, c, rfl⟩ := okWide_slice Try.underlying22 hv
  obtain ⟨fuel, hf⟩ := h
  obtain ⟨ks, hks, rks, wks⟩ := open_row (α := Nmd × V4) (fuel := fuel) Try.underlying22 cellsN (by omega) (fun p => celN p.1 p.2) (fun p => celN_len _ _) (fun p => NmP (fun b => b < W.heap.size) W p.1 p.2.t.n p.2.t.m p.2.t.k p.2.s ∧ InN p.1) (fun p => InF p.1) (fun n _ => open_nmd n) (c := .slice a n c) hf
  refine ⟨a, n, c, ks.map (fun q : Nmd × V4 => q.1), rfl, ?_, fun t ht => ?_, fun h9 t ht => ?_⟩
  · rcases hks with ⟨a, c', e, rfl⟩ | ⟨b, o, c', e, h2, h3, h4⟩
    · exact .inl ⟨a, c', e, rfl⟩
    · rw [e]
      refine .inr ⟨b, o, c', by simp, by simpa using h2, h3, h3, fun i hi => ?_⟩
      have hi' : i < ks.length := by simpa using hi
      have hg : (ks.map (·.1))[i] = (ks[i]).1 := by simp
      rw [hg]
      have kk := h4 i hi'
      have hn := (rks _ (List.getElem_mem hi')).1
      exact ⟨by simpa [celN] using kk 0 (by omega), lies_iff.2 ⟨by simpa [celN] using kk 1 (by omega), by simpa [celN] using kk 2 (by omega), by simpa [celN] using kk 3 (by omega), by simpa [celN] using kk 4 (by omega), _, _, _, by simpa [celN] using kk 5 (by omega), by simpa [celN] using kk 6 (by omega), by simpa [celN] using kk 7 (by omega), hn.un⟩, _, by simpa [celN] using kk 8 (by omega), hn.ms⟩
  · obtain ⟨p, hp, rfl⟩ := List.mem_map.1 ht
    exact (rks p hp).2
  · obtain ⟨p, hp, rfl⟩ := List.mem_map.1 ht
    exact (wks h9).1 p hp
end Go.Proofs.Ytpcpncgigdebiaa

/-
  World.orNone and World.Under with declared types, walked.
-/
namespace Go.Proofs.Ytpcpncgigdebiaa
open Go.RowKit
attribute [local go_sem ↓] Go.wp_at_zero Go.wp_at_succ
set_option maxRecDepth 100000 in
theorem orNone_any {w : World} {V : Nat} : Calls Try.prog 28 #[.pointer (some ⟨V, 0, none⟩)] w fun e w' => e = .returned (.pointer (some ⟨V, 0, none⟩)) ∧ w' = w := by
  go_enter Try.func28, Try.ntmps28
  go_wp2_with fail
  go_ret
  exact ⟨rfl, rfl⟩
set_option maxRecDepth 100000 in
set_option maxHeartbeats 8000000 in
theorem wunder_any {K B : BQ} {w : World} {V : Nat} {l : List Nmd} {b0 n N : Nat} {t r : Ty} {vn vm vk : Value} (hV : w.cell? ⟨V, 0, none⟩ = some (.map (some b0))) (hT : TbS K w b0 n l) (hs : ∀ u ∈ l, NmS u) (hp : Prt B w t vn vm vk) (hz : t.name.size ≤ maxLen) (hzz : ∀ u ∈ l, u.under.name.size ≤ maxLen) (hu : Und l N t r) (hf : Fit r) (hc : r.cnt ≤ 1000000) : Calls Try.prog 12 #[.pointer (some ⟨V, 0, none⟩), agT t vn vm vk] w (TyQ w (fun b => w.heap.size ≤ b) r) := by
  obtain ⟨an, cn, am, cm, ak, ck, rfl, rfl, rfl⟩ := hp.form
  obtain ⟨W2, hW2⟩ : ∃ W2, W2 = (w.alloc (.cells #[.int .i64 t.kind, .string t.name, .int .i64 t.n, .bool t.flag, .slice an t.names.length cn, .slice am t.marks.length cm, .slice ak t.kids.length ck] 27)).alloc (.cells #[.int .i64 0, .string ⟨#[]⟩, .int .i64 0, .bool false, .slice none 0 0, .slice none 0 0, .slice none 0 0] 27) := ⟨_, rfl⟩
  have hb2 : Below w.heap.size w W2.drew := by rw [hW2]; exact bthen (bthen (below_alloc _ _) (below_alloc _ _)) (below_drew1 _)
  have hor := orNone_any (w := W2.drew) (V := V)
  have hun := under_any (hT.kept hb2) hs (hp.kept hb2) hz hzz hu
  have HB2 : Hid (Below w.heap.size w W2.drew) := hb2
  have HRS : Hid (W2.drew.heap[w.heap.size + 1]? = some (.cells #[.int .i64 0, .string ⟨#[]⟩, .int .i64 0, .bool false, .slice none 0 0, .slice none 0 0, .slice none 0 0] 27 (0, 0))) := by
    refine blk_kept (below_drew1 _) ?_
    rw [hW2]
    have := heap_new (w.alloc (.cells #[.int .i64 t.kind, .string t.name, .int .i64 t.n, .bool t.flag, .slice an t.names.length cn, .slice am t.marks.length cm, .slice ak t.kids.length ck] 27)) (.cells #[.int .i64 0, .string ⟨#[]⟩, .int .i64 0, .bool false, .slice none 0 0, .slice none 0 0, .slice none 0 0] 27)
    rw [World.size_alloc] at this
    exact this
  have vV := World.block_lt_of_cell? _ _ hV
  have HF : Hid (Fit r ∧ r.cnt ≤ 1000000) := ⟨hf, hc⟩
  unfold agT at hun
  unfold agT
  clear hT hs hp hu hb2 hz hzz hf hc
  subst hW2
  go_enter Try.func12, Try.ntmps12
  go_wp2_with fail
  go_region_law
    (go_simp; go_wp2_with (first
      | (go_at_call 28; refine hor.mono ?_; rintro e w3 ⟨rfl, hw3⟩; subst hw3; clear hor)
      | (go_at_call 35; refine hun.mono ?_; intro e w4 hq; obtain ⟨pn, pm, pk, rfl, hp4⟩ := hq.ex; have HB4 : Hid (Below _ _ w4) := hq.bl; have hfr := fresh_any hp4 HF.out.1 HF.out.2; clear hq hp4 hun)
      | (go_at_call 34; refine hfr.mono ?_; intro e w5 hq; obtain ⟨xn, xm, xk, rfl, hp5⟩ := hq.ex; obtain ⟨bn, dn, bm, dm, bk, dk, rfl, rfl, rfl⟩ := hp5.form; have hb5 := bthen HB4.out hq.bl; have HB5 : Hid (Below w.heap.size w w5) := bthen HB2.out hb5; have HR5 : Hid (w5.heap[w.heap.size + 1]? = _) := blk_kept hb5 HRS.out; have HP5 : Hid (Prt _ w5 r (.slice bn r.names.length dn) (.slice bm r.marks.length dm) (.slice bk r.kids.length dk)) := hp5.with (B' := fun b => w.heap.size + 2 ≤ b) (fun b _ h => by have h' := Nat.le_trans HB4.out.size h; simp at h'; omega); obtain ⟨g0, g1, g2, g3, g4, g5, g6⟩ := bx7f HR5.out; obtain ⟨r0, r1, r2, r3, r4, r5, r6⟩ := bx7 HR5.out; unfold agT; clear hq hp5 hfr hb5)))
  all_goals
    go_simp
    go_wp2_with fail
    have hkf := kx_set7 (w := w5) (g := w.heap.size + 1) (a := .int .i64 r.kind) (b := .string r.name) (c := .int .i64 r.n) (d := .bool r.flag) (x := .slice bn r.names.length dn) (y := .slice bm r.marks.length dm) (z := .slice bk r.kids.length dk)
    refine bodyPost_ret (v := agT r (.slice bn r.names.length dn) (.slice bm r.marks.length dm) (.slice bk r.kids.length dk)) (results_cell rfl rfl (resT (bx7_set HR5.out))) rfl ?_
    exact ⟨below_kx1 HB5.out hkf (by omega), _, _, _, rfl, HP5.out.to hkf (fun b _ h => by have h' : w.heap.size + 2 ≤ b := h; show w.heap.size ≤ b; omega) (fun b _ h e => by have h' : w.heap.size + 2 ≤ b := h; omega)⟩
end Go.Proofs.Ytpcpncgigdebiaa

/-
  World.Named of the code, walked.
-/
namespace Go.Proofs.Ytpcpncgigdebiaa
open Go.RowKit
attribute [local go_sem ↓] Go.wp_at_zero Go.wp_at_succ
/-- what Named answers -/
structure NdQ (w : World) (t : Nmd) (q : Bool) (e : Ending) (w' : World) : Prop where
  bl : Below w.heap.size w w'
  ex : ∃ vn vm vk vs, e = .returned (.tuple #[agN t vn vm vk vs, .bool q]) ∧ NmP (fun b => w.heap.size ≤ b) w' t vn vm vk vs
set_option maxRecDepth 100000 in
set_option maxHeartbeats 8000000 in
theorem wnamed_at {K : BQ} {w : World} {V b0 : Nat} {s : ByteArray} {t : Nmd} {q : Bool} {an : Option Addr} {cn : Nat} {am : Option Addr} {cm : Nat} {ak : Option Addr} {ck : Nat} {sa : Option Addr} {sc : Nat} (hV : w.cell? ⟨V, 0, none⟩ = some (.map (some b0))) (hp : NmP K w t (.slice an t.under.names.length cn) (.slice am t.under.marks.length cm) (.slice ak t.under.kids.length ck) (.slice sa t.mths.length sc)) (hf : FitN t) (hfd : ∀ W, Below w.heap.size w W → Calls Try.prog 29 #[.map (some b0), .string s] W fun r w' => r = .returned (.tuple #[agN t (.slice an t.under.names.length cn) (.slice am t.under.marks.length cm) (.slice ak t.under.kids.length ck) (.slice sa t.mths.length sc), .bool q]) ∧ Below W.heap.size W w') : Calls Try.prog 9 #[.pointer (some ⟨V, 0, none⟩), .string s] w (NdQ w t q) := by
  obtain ⟨W1, hW1⟩ : ∃ W1, W1 = w.alloc (.cells #[.string ⟨#[]⟩, .int .i64 0, .string ⟨#[]⟩, .int .i64 0, .bool false, .slice none 0 0, .slice none 0 0, .slice none 0 0, .slice none 0 0] 40) := ⟨_, rfl⟩
  have hb1 : Below w.heap.size w W1 := by rw [hW1]; exact below_alloc _ _
  have hor := orNone_any (w := W1) (V := V)
  have hfn := hfd W1 hb1
  have HB1 : Hid (Below w.heap.size w W1) := hb1
  have HRS : Hid (W1.heap[w.heap.size]? = some (.cells #[.string ⟨#[]⟩, .int .i64 0, .string ⟨#[]⟩, .int .i64 0, .bool false, .slice none 0 0, .slice none 0 0, .slice none 0 0, .slice none 0 0] 40 (0, 0))) := by rw [hW1]; exact heap_new _ _
  have vV := World.block_lt_of_cell? _ _ hV
  have HP : Hid (∀ W, Below w.heap.size w W → Calls Try.prog 30 #[.agg #[.string t.name, .int .i64 t.under.kind, .string t.under.name, .int .i64 t.under.n, .bool t.under.flag, .slice an t.under.names.length cn, .slice am t.under.marks.length cm, .slice ak t.under.kids.length ck, .slice sa t.mths.length sc]] W (NmQ W (fun b => W.heap.size ≤ b) t)) := fun W hb => freshN_any (hp.kept hb) hf
  unfold agN at hfn
  clear hp hf hfd hb1
  subst hW1
  go_enter Try.func9, Try.ntmps9
  go_wp2_with (first
    | (go_at_call 28; refine hor.mono ?_; rintro e w2 ⟨rfl, hw2⟩; subst hw2; clear hor)
    | (go_at_call 29; refine hfn.mono ?_; rintro e w3 ⟨rfl, hb3⟩; have HB3 : Hid (Below _ _ w3) := hb3; have hfr := HP.out (w3.alloc (.cells #[.string t.name, .int .i64 t.under.kind, .string t.under.name, .int .i64 t.under.n, .bool t.under.flag, .slice an t.under.names.length cn, .slice am t.under.marks.length cm, .slice ak t.under.kids.length ck, .slice sa t.mths.length sc] 40)) (bthen HB1.out (bthen hb3 (below_alloc _ _))); clear hb3 hfn)
    | (go_at_call 30; refine hfr.mono ?_; intro e w5 hq; obtain ⟨xn, xm, xk, xs, rfl, hp5⟩ := hq.ex; obtain ⟨a1, c1, a2, c2, a3, c3, a4, c4, rfl, rfl, rfl, rfl⟩ := hp5.form; have hb5 := bthen HB3.out (bthen (below_alloc _ _) hq.bl); have HB5 : Hid (Below w.heap.size w w5) := bthen HB1.out hb5; have HR5 : Hid (w5.heap[w.heap.size]? = _) := blk_kept hb5 HRS.out; have HP5 : Hid (NmP _ w5 t (.slice a1 t.under.names.length c1) (.slice a2 t.under.marks.length c2) (.slice a3 t.under.kids.length c3) (.slice a4 t.mths.length c4)) := hp5.with (B' := fun b => w.heap.size + 1 ≤ b) (fun b _ h => by have h1 := HB3.out.size; have h' := h; simp at h' h1; omega); obtain ⟨g0, g1, g2, g3, g4, g5, g6, g7, g8⟩ := bx9f HR5.out; obtain ⟨r0, r1, r2, r3, r4, r5, r6, r7, r8⟩ := bx9 HR5.out; unfold agN; clear hq hp5 hfr hb5))
  have hkf := kx_set9 (w := w5) (g := w.heap.size) (a := .string t.name) (b := .int .i64 t.under.kind) (c := .string t.under.name) (d := .int .i64 t.under.n) (e := .bool t.under.flag) (f := .slice a1 t.under.names.length c1) (x := .slice a2 t.under.marks.length c2) (y := .slice a3 t.under.kids.length c3) (z := .slice a4 t.mths.length c4)
  refine bodyPost_ret (results_ct rfl rfl rfl (resN (bx9_all HR5.out))) rfl ?_
  exact ⟨below_kx1 HB5.out hkf (Nat.le_refl _), _, _, _, _, rfl, HP5.out.to hkf (fun b _ h => by have h' : w.heap.size + 1 ≤ b := h; show w.heap.size ≤ b; omega) (fun b _ h e => by have h' : w.heap.size + 1 ≤ b := h; omega)⟩
end Go.Proofs.Ytpcpncgigdebiaa

/-
  What the law TypesWorld asks, in plain Lean; types.Name.
-/
namespace Go.Proofs.Ytpcpncgigdebiaa
open Go.RowKit
attribute [local go_sem ↓] Go.wp_at_zero Go.wp_at_succ
set_option maxRecDepth 100000 in
set_option maxHeartbeats 4000000 in
theorem name_any (s : ByteArray) (w : World) (K : BQ) : Calls Try.prog 13 #[.string s] w (TyQ w K (.mk 8 s 0 false [] [] [])) := by
  have hn := heap_new w (.cells #[.int .i64 8, .string s, .int .i64 0, .bool false, .slice none 0 0, .slice none 0 0, .slice none 0 0] 27)
  go_enter Try.func13, Try.ntmps13
  go_wp2_with fail
  refine bodyPost_ret (v := .agg #[.int .i64 8, .string s, .int .i64 0, .bool false, .slice none 0 0, .slice none 0 0, .slice none 0 0]) (results_cell rfl rfl (resT hn)) rfl ?_
  exact ⟨below_alloc _ _, _, _, _, rfl, prt_nil _ _ _ _⟩
/-- the type of a name -/
def nmT (s : ByteArray) : Ty := .mk 8 s 0 false [] [] []
theorem Und.from {l : List Nmd} {n : Nat} {t r : Ty} (h : Und l n t r) : r = t ∨ ∃ u ∈ l, r = u.under := by
  induction h with
  | kind t h => exact .inl rfl
  | none t h hn => exact .inl rfl
  | step t u r n h hu e k ih =>
    rcases ih with e | ih
    · exact .inr ⟨u, hu, e⟩
    · exact .inr ih
theorem tsz_c {t : Ty} (h : t.tsz 120 ≤ 120) : t.cnt ≤ 120 := by
  have := tsz_cnt t 120 (by omega) h
  omega
/-- what the law knows of declared types that are looked at -/
structure LkW (l : List Nmd) : Prop where
  len : l.length ≤ 120
  nm : ∀ t ∈ l, NmS t
  ft : ∀ t ∈ l, FitN t
  uc : ∀ t ∈ l, t.under.cnt ≤ 1000
theorem LkW.of {l : List Nmd} (h : l.length ≤ 120 ∧ ∀ t ∈ l, OkN t) (hi : ∀ t ∈ l, InN t) (hf : ∀ t ∈ l, InF t) : LkW l := by
  refine ⟨h.1, fun t ht => ?_, fun t ht => ?_, fun t ht => ?_⟩
  · obtain ⟨h1, h2⟩ := h.2 t ht
    exact ⟨(hi t ht).nm, (hi t ht).us, by have := tsz_c h1; omega, fun m hm => ⟨(hi t ht).ms m hm, by have := tsz_c (h2 m hm); omega⟩⟩
  · obtain ⟨h1, h2⟩ := h.2 t ht
    exact ⟨(hf t ht).un, by have := tsz_c h1; omega, (hf t ht).ms, fun m hm => ⟨(hf t ht).ss m hm, by have := tsz_c (h2 m hm); omega⟩⟩
  · have := tsz_c (h.2 t ht).1
    omega
/-- what a type is underneath fits, too -/
theorem LkW.und {l : List Nmd} (h : LkW l) {n : Nat} {t r : Ty} (hu : Und l n t r) (hf : Fit t) (hc : t.cnt ≤ 1000) : Fit r ∧ r.cnt ≤ 1000000 := by
  rcases hu.from with rfl | ⟨u, hm, rfl⟩
  · exact ⟨hf, by omega⟩
  · exact ⟨(h.ft u hm).un, by have := h.uc u hm; omega⟩
theorem fit_nm (s : ByteArray) : Fit (nmT s) := .mk _ (by simp [nmT, Ty.names]) (by simp [nmT, Ty.marks]) (by simp [nmT, Ty.kids])
/-- the code's Under, where the world stands and each type is something underneath -/
theorem under_at {K B : BQ} {w : World} {V : Nat} {l : List Nmd} {b0 n : Nat} {t r : Ty} {N : Nat} {vn vm vk : Value} (hL : LkW l) (hV : w.cell? ⟨V, 0, none⟩ = some (.map (some b0))) (hT : TbS K w b0 n l) (hp : Prt B w t vn vm vk) (hz : t.name.size ≤ maxLen) (hu : Und l N t r) (hf : Fit t) (hc : t.cnt ≤ 1000) : Calls Try.prog 12 #[.pointer (some ⟨V, 0, none⟩), agT t vn vm vk] w (TyQ w (fun b => w.heap.size ≤ b) r) := by
  obtain ⟨h1, h2⟩ := hL.und hu hf hc
  exact wunder_any hV hT hL.nm hp hz (fun u hu => Ty.nsz_name (hL.nm u hu).us) hu h1 h2
/-- the code's Named of a declared type -/
theorem named_at {K : BQ} {w : World} {V : Nat} {l : List Nmd} {b0 n : Nat} {t : Nmd} (hL : LkW l) (hV : w.cell? ⟨V, 0, none⟩ = some (.map (some b0))) (hT : TbS K w b0 n l) (ht : t ∈ l) : Calls Try.prog 9 #[.pointer (some ⟨V, 0, none⟩), .string t.name] w (NdQ w t true) := by
  obtain ⟨f, hm, hf⟩ := hT.ex
  obtain ⟨xn, xm, xk, xs, e1, hp⟩ := hf t ht
  obtain ⟨a1, c1, a2, c2, a3, c3, a4, c4, rfl, rfl, rfl, rfl⟩ := hp.form
  refine wnamed_at hV hp (hL.ft t ht) (fun W hb => ?_)
  have := find_any (hm.kept hb) t.name (hL.nm t ht).nm (by rw [e1]; rfl)
  rw [e1] at this
  exact this
/-- what both sides' New answer -/
theorem new_both {w w' : World} {l : List Nmd} {e : Ending} (h : NwQ w l e w') : (∃ ec : Int, (ec = 1 ∨ ec = 4) ∧ e = .returned (.tuple #[.pointer none, .int .i64 ec]) ∧ ∀ W e2 w2, RnQ W l e2 w2 → e2 = .returned (.tuple #[.pointer none, .int .i64 ec])) ∨
    ((l.map Nmd.name).Nodup ∧ (¬ ∃ a ∈ l.map Nmd.name, Rch (Hf l) a a) ∧ (∃ V b0 n, e = .returned (.tuple #[.pointer (some ⟨V, 0, none⟩), .int .i64 0]) ∧ w'.cell? ⟨V, 0, none⟩ = some (.map (some b0)) ∧ TbS (fun b => w.heap.size ≤ b) w' b0 n l) ∧ ∀ W e2 w2, RnQ W l e2 w2 → ∃ V, e2 = .returned (.tuple #[.pointer (some ⟨V, 0, none⟩), .int .i64 0]) ∧ W8S (fun _ => True) w2 V l) := by
  rcases h.ex with ⟨h1, he⟩ | ⟨h1, h2, he⟩ | ⟨h1, h2, h3, he⟩ | ⟨h1, h2, h3, V, b0, n, he, _, _, hc, ht⟩
  · refine .inl ⟨1, .inl rfl, he, fun W e2 w2 hr => ?_⟩
    rcases hr.ex with ⟨k1, ke⟩ | ⟨k1, k2, ke⟩ | ⟨k1, k2, k3, ke⟩ | ⟨k1, k2, k3, V, ke, _⟩
    · exact ke
    · exact absurd k1 h1
    · exact absurd k1 h1
    · exact absurd k1 h1
  · refine .inl ⟨1, .inl rfl, he, fun W e2 w2 hr => ?_⟩
    rcases hr.ex with ⟨k1, ke⟩ | ⟨k1, k2, ke⟩ | ⟨k1, k2, k3, ke⟩ | ⟨k1, k2, k3, V, ke, _⟩
    · exact absurd h1 k1
    · exact ke
    · exact absurd h2 k2
    · exact absurd h2 k2
  · refine .inl ⟨4, .inr rfl, he, fun W e2 w2 hr => ?_⟩
    rcases hr.ex with ⟨k1, ke⟩ | ⟨k1, k2, ke⟩ | ⟨k1, k2, k3, ke⟩ | ⟨k1, k2, k3, V, ke, _⟩
    · exact absurd h1 k1
    · exact absurd k2 h2
    · exact ke
    · rw [h3] at k3; cases k3
  · refine .inr ⟨h1, h2, ⟨V, b0, n, he, hc, ht⟩, fun W e2 w2 hr => ?_⟩
    rcases hr.ex with ⟨k1, ke⟩ | ⟨k1, k2, ke⟩ | ⟨k1, k2, k3, ke⟩ | ⟨k1, k2, k3, V, ke, hw⟩
    · exact absurd h1 k1
    · exact absurd k2 h2
    · rw [h3] at k3; cases k3
    · exact ⟨V, ke, hw⟩
end Go.Proofs.Ytpcpncgigdebiaa

