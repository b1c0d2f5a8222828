/-
  A slice of files that came in, opened: the files that it holds, and how great they may be.
-/
import Derived.Test.YtbgkdofjndocfabWalkY
import Derived.Deep.Slices
import Derived.SizedLaws
import Derived.WalkKit
import Derived.ProofKit
import Derived.OpenShut
import Derived.ShutString
import Derived.Carry
namespace Go.Proofs.Ytbgkdofjndocfab
open Go.ChangeShapes Go.WideShapes Go.ChangeAt Go.RowKit
set_option maxRecDepth 100000 in
theorem ok_files {W : World} {base len cap : Nat} {a : Addr} (h : Value.okWide Try.prog W .any base 27 (.slice (some a) len cap)) : a.spot = none ∧ a.block < W.heap.size := by
  have h' : len ≤ cap ∧ (cap : Int) ≤ IntKind.i64.max ∧ W.has Try.prog .any base a 32 cap := by simpa [Value.okWide, Cell.okWide, Cell.ok, Try.underlying27] using h
  obtain ⟨_, _, _, hsp, row, cells, hs, _⟩ := h'
  refine ⟨hsp, ?_⟩
  unfold World.shape? at hs
  rcases Nat.lt_or_ge a.block W.heap.size with h | h
  · exact h
  · rw [Array.getElem?_eq_none h] at hs; cases hs
theorem cells32 : Try.prog.cellsOf 32 = 2 := by kernel_rfl
theorem cells9' : Try.prog.cellsOf 9 = 1 := by kernel_rfl
def datF {H : Type} (x : Fi) : DataW H := .agg [.lit (.string x.1.data.toList), .lit (.string x.2.data.toList)]
set_option maxRecDepth 100000 in
theorem open_file {H : Type} {enc : TypeId × Value → H} {W : World} {base n : Nat} {spare : Nat → Bool} {held : Bool} {cs : List Value} {x : DataW H × List MemPlace} (h : DataW.trod enc Try.prog W base spare held n 32 cs = some x) :
    ∃ e : Fi, cs = encF e ∧ x.1 = datF e := by
  obtain ⟨xs, k, rfl, rfl, hl, hxl, hf⟩ := DataW.trod_struct Try.underlying32 h
  rw [cells32] at hl
  match cs, hl with
  | [c0, c1], _ =>
    have g0 : DataW.trod enc Try.prog W base spare held k 9 [c0] = xs[0]? := by have h := hf 0 ⟨ "Path", 9, 0, false, "", "", 0⟩ rfl; simpa [cells9'] using h
    have g1 : DataW.trod enc Try.prog W base spare held k 9 [c1] = xs[1]? := by have h := hf 1 ⟨ "Text", 9, 1, false, "", "", 16⟩ rfl; simpa [cells9'] using h
    match xs, hxl with
    | [y0, y1], _ =>
      simp only [List.getElem?_cons_zero, List.getElem?_cons_succ] at g0 g1
      obtain ⟨s0, e0, r0, _⟩ := DataW.trod_string Try.underlying9 g0
      obtain ⟨s1, e1, r1, _⟩ := DataW.trod_string Try.underlying9 g1
      simp at e0 e1
      subst e0 e1 r0 r1
      exact ⟨(s0, s1), rfl, rfl⟩
set_option maxRecDepth 100000 in
theorem open_files {H : Type} {enc : TypeId × Value → H} {W : World} {base : Nat} {v : Value} {d : DataW H} {ps : List MemPlace} (hv : Value.okWide Try.prog W .any base 27 v) (h : DataW.Trod enc Try.prog W 0 (fun _ => true) true 27 v d ps) :
    v = .slice none 0 0 ∨ ∃ F fo fc fs, v = .slice (some ⟨F, fo, none⟩) (List.length fs) fc ∧ F < W.heap.size ∧ FilesAt W F fo fs ∧ ∃ spare, d = .slice (fs.map datF) spare := by
  obtain ⟨a, len, cap, rfl⟩ := okWide_slice Try.underlying27 hv
  obtain ⟨fuel, hf⟩ := h
  rcases Go.Deep.open_slice Try.underlying27 hf with ⟨hcs, hx⟩ | ⟨a', len', cap', m, n, D, Pl, hcs, _, hl, _, hm, hx, hc⟩
  · simp [Value.cells] at hcs
    obtain ⟨rfl, rfl, rfl⟩ := hcs
    exact .inl rfl
  · simp [Value.cells] at hcs
    obtain ⟨rfl, rfl, rfl⟩ := hcs
    simp only [if_true] at hm
    obtain ⟨hsp, hbk⟩ := ok_files hv
    obtain ⟨B, o, sp⟩ := a'
    simp only at hsp hbk
    subst hsp
    have each : ∀ i, i < len → ∃ e : Fi, (W.cell? ⟨B, o + i * 2, none⟩ = some (.string e.1) ∧ W.cell? ⟨B, o + i * 2 + 1, none⟩ = some (.string e.2)) ∧ D i = datF e := fun i hi => by
      obtain ⟨cs', h1, h2⟩ := hc i (by omega)
      obtain ⟨e, rfl, hd⟩ := open_file h2
      rw [cells32] at h1
      obtain ⟨_, _, h3⟩ := World.cells?_some h1
      have k0 := h3 0 (by omega)
      have k1 := h3 1 (by omega)
      rw [Go.Deep.add_add, add_plain] at k0 k1
      exact ⟨e, ⟨k0, by rw [Nat.add_assoc]; exact k1⟩, hd⟩
    obtain ⟨f, hf'⟩ := Go.Deep.choose_lt each
    have hg : ∀ j, j < ((List.range len).map f).length → ((List.range len).map f).getD j default = f j := fun j hj => by
      have hj' : j < len := by simpa using hj
      simp [List.getD_eq_getElem?_getD, hj']
    refine .inr ⟨B, o, cap, (List.range len).map f, by simp, hbk, ⟨fun j hj => ?_, fun j hj => ?_⟩, (List.range (m - len)).map fun j => D (len + j), ?_⟩
    · rw [hg j hj]; exact (hf' j (by simpa using hj)).1.1
    · rw [hg j hj]; exact (hf' j (by simpa using hj)).1.2
    · rw [List.map_map]
      have e1 : (List.range len).map D = (List.range len).map (datF ∘ f) := List.map_congr_left fun i hi => (hf' i (List.mem_range.1 hi)).2
      rw [← e1]
      exact (Prod.mk.inj hx).1
theorem weightsAll_mem {H : Type} {P : Program} {e : TypeId} : ∀ {ds : List (DataW H)} {d : DataW H}, d ∈ ds → ∀ n ∈ d.weights P e, n ∈ DataW.weightsAll P e ds
  | [], _, h, _, _ => by simp at h
  | x :: r, d, h, n, hn => by
    rw [DataW.weightsAll]
    rcases List.mem_cons.1 h with rfl | h
    · exact List.mem_append.2 (.inl hn)
    · exact List.mem_append.2 (.inr (weightsAll_mem h n hn))
set_option maxRecDepth 100000 in
theorem files_sizes {H : Type} {ts : List TypeId} {ds : List (DataW H)} {j : Nat} {fs : List Fi} {spare : List (DataW H)} (h : (DataW.weightsEach Try.prog ts ds).all (· ≤ reachBytes) = true) (ht : ts[j]? = some 27) (hd : ds[j]? = some (.slice (fs.map datF) spare)) :
    ∀ k, k < fs.length → (fs.getD k default).1.size ≤ 140737488355328 ∧ (fs.getD k default).2.size ≤ 140737488355328 := by
  intro k hk
  have hm : (fs.getD k default) ∈ fs := by simp [List.getD_eq_getElem?_getD, hk]
  have hw : ∀ n ∈ (datF (fs.getD k default) : DataW H).weights Try.prog 32, n ≤ 140737488351232 := fun n hn => by
    have h1 : n ∈ (DataW.slice (fs.map datF) spare : DataW H).weights Try.prog 27 := by
      simp only [DataW.weights, Try.underlying27]
      exact List.mem_cons_of_mem _ (List.mem_append.2 (.inl (weightsAll_mem (List.mem_map_of_mem hm) n hn)))
    have := List.all_eq_true.1 h _ (DataW.weights_mem_each ht hd n h1)
    exact of_decide_eq_true this
  have e : (datF (fs.getD k default) : DataW H).weights Try.prog 32 = [(fs.getD k default).1.data.toList.length, (fs.getD k default).2.data.toList.length] := by
    simp [datF, DataW.weights, DataW.weightsEach, Try.underlying32]
  rw [e] at hw
  have h1 := hw (fs.getD k default).1.size (by simp)
  have h2 := hw (fs.getD k default).2.size (by simp)
  omega
end Go.Proofs.Ytbgkdofjndocfab
