/-
  Slices of files and of edits that came in, opened; how great they may be where all that came in is small.
-/
import Derived.Test.YtbgkdofjndocfabApplyAll
import Derived.Test.YtbgkdofjndocfabWalkX
import Derived.Deep.Slices
import Derived.WalkKit
import Derived.ProofKit
import Derived.OpenShut
import Derived.ShutString
import Derived.Carry
namespace Go.Proofs.Ytbgkdofjndocfab
open Go.ChangeShapes Go.WideShapes Go.ChangeAt Go.RowKit
set_option maxRecDepth 100000 in
theorem ok_files {W : World} {base len cap : Nat} {a : Addr} (h : Value.okWide Try.prog W .any base 27 (.slice (some a) len cap)) : a.spot = none ∧ a.block < W.heap.size := by
  have h' : len ≤ cap ∧ (cap : Int) ≤ IntKind.i64.max ∧ W.has Try.prog .any base a 32 cap := by simpa [Value.okWide, Cell.okWide, Cell.ok, Try.underlying27] using h
  obtain ⟨_, _, _, hsp, row, cells, hs, _⟩ := h'
  refine ⟨hsp, ?_⟩
  unfold World.shape? at hs
  rcases Nat.lt_or_ge a.block W.heap.size with h | h
  · exact h
  · rw [Array.getElem?_eq_none h] at hs; cases hs
theorem cells32 : Try.prog.cellsOf 32 = 2 := by kernel_rfl
theorem cells9' : Try.prog.cellsOf 9 = 1 := by kernel_rfl
def datF {H : Type} (x : Fi) : DataW H := .agg [.lit (.string x.1.data.toList), .lit (.string x.2.data.toList)]
set_option maxRecDepth 100000 in
theorem open_file {H : Type} {enc : TypeId × Value → H} {W : World} {base n : Nat} {spare : Nat → Bool} {held : Bool} {cs : List Value} {x : DataW H × List MemPlace} (h : DataW.trod enc Try.prog W base spare held n 32 cs = some x) :
    ∃ e : Fi, cs = encF e ∧ x.1 = datF e := by
  obtain ⟨xs, k, rfl, rfl, hl, hxl, hf⟩ := DataW.trod_struct Try.underlying32 h
  rw [cells32] at hl
  match cs, hl with
  | [c0, c1], _ =>
    have g0 : DataW.trod enc Try.prog W base spare held k 9 [c0] = xs[0]? := by have h := hf 0 ⟨ "Path", 9, 0, false, "", "", 0⟩ rfl; simpa [cells9'] using h
    have g1 : DataW.trod enc Try.prog W base spare held k 9 [c1] = xs[1]? := by have h := hf 1 ⟨ "Text", 9, 1, false, "", "", 16⟩ rfl; simpa [cells9'] using h
    match xs, hxl with
    | [y0, y1], _ =>
      simp only [List.getElem?_cons_zero, List.getElem?_cons_succ] at g0 g1
      obtain ⟨s0, e0, r0, _⟩ := DataW.trod_string Try.underlying9 g0
      obtain ⟨s1, e1, r1, _⟩ := DataW.trod_string Try.underlying9 g1
      simp at e0 e1
      subst e0 e1 r0 r1
      exact ⟨(s0, s1), rfl, rfl⟩
set_option maxRecDepth 100000 in
theorem open_files {H : Type} {enc : TypeId × Value → H} {W : World} {base : Nat} {v : Value} {d : DataW H} {ps : List MemPlace} (hv : Value.okWide Try.prog W .any base 27 v) (h : DataW.Trod enc Try.prog W 0 (fun _ => true) true 27 v d ps) :
    v = .slice none 0 0 ∨ ∃ F fo fc fs, v = .slice (some ⟨F, fo, none⟩) (List.length fs) fc ∧ F < W.heap.size ∧ FilesAt W F fo fs ∧ ∃ spare, d = .slice (fs.map datF) spare := by
  obtain ⟨a, len, cap, rfl⟩ := okWide_slice Try.underlying27 hv
  obtain ⟨fuel, hf⟩ := h
  rcases Go.Deep.open_slice Try.underlying27 hf with ⟨hcs, hx⟩ | ⟨a', len', cap', m, n, D, Pl, hcs, _, hl, _, hm, hx, hc⟩
  · simp [Value.cells] at hcs
    obtain ⟨rfl, rfl, rfl⟩ := hcs
    exact .inl rfl
  · simp [Value.cells] at hcs
    obtain ⟨rfl, rfl, rfl⟩ := hcs
    simp only [if_true] at hm
    obtain ⟨hsp, hbk⟩ := ok_files hv
    obtain ⟨B, o, sp⟩ := a'
    simp only at hsp hbk
    subst hsp
    have each : ∀ i, i < len → ∃ e : Fi, (W.cell? ⟨B, o + i * 2, none⟩ = some (.string e.1) ∧ W.cell? ⟨B, o + i * 2 + 1, none⟩ = some (.string e.2)) ∧ D i = datF e := fun i hi => by
      obtain ⟨cs', h1, h2⟩ := hc i (by omega)
      obtain ⟨e, rfl, hd⟩ := open_file h2
      rw [cells32] at h1
      obtain ⟨_, _, h3⟩ := World.cells?_some h1
      have k0 := h3 0 (by omega)
      have k1 := h3 1 (by omega)
      rw [Go.Deep.add_add, add_plain] at k0 k1
      exact ⟨e, ⟨k0, by rw [Nat.add_assoc]; exact k1⟩, hd⟩
    obtain ⟨f, hf'⟩ := Go.Deep.choose_lt each
    have hg : ∀ j, j < ((List.range len).map f).length → ((List.range len).map f).getD j default = f j := fun j hj => by
      have hj' : j < len := by simpa using hj
      simp [List.getD_eq_getElem?_getD, hj']
    refine .inr ⟨B, o, cap, (List.range len).map f, by simp, hbk, ⟨fun j hj => ?_, fun j hj => ?_⟩, (List.range (m - len)).map fun j => D (len + j), ?_⟩
    · rw [hg j hj]; exact (hf' j (by simpa using hj)).1.1
    · rw [hg j hj]; exact (hf' j (by simpa using hj)).1.2
    · rw [List.map_map]
      have e1 : (List.range len).map D = (List.range len).map (datF ∘ f) := List.map_congr_left fun i hi => (hf' i (List.mem_range.1 hi)).2
      rw [← e1]
      exact (Prod.mk.inj hx).1
theorem open_filesArg {H : Type} {enc : TypeId × Value → H} {W : World} {base : Nat} {v : Value} {d : DataW H} {ps : List MemPlace} (hv : Value.okWide Try.prog W .any base 27 v) (h : DataW.Trod enc Try.prog W 0 (fun _ => true) true 27 v d ps) :
    ∃ fs, FiArg W v fs ∧ (fs = [] ∨ ∃ spare, d = .slice (fs.map datF) spare) := by
  rcases open_files hv h with rfl | ⟨F, fo, fc, fs, rfl, hF, hA, spare, rfl⟩
  · exact ⟨[], .inl ⟨rfl, rfl⟩, .inl rfl⟩
  · exact ⟨fs, .inr ⟨F, fo, fc, rfl, hF, hA⟩, .inr ⟨spare, rfl⟩⟩
set_option maxRecDepth 100000 in
theorem ok_slice {W : World} {base len cap : Nat} {a : Addr} (h : Value.okWide Try.prog W .any base 22 (.slice (some a) len cap)) : a.spot = none ∧ a.block < W.heap.size := by
  have h' : len ≤ cap ∧ (cap : Int) ≤ IntKind.i64.max ∧ W.has Try.prog .any base a 26 cap := by simpa [Value.okWide, Cell.okWide, Cell.ok, Try.underlying22] using h
  obtain ⟨_, _, _, hsp, row, cells, hs, _⟩ := h'
  refine ⟨hsp, ?_⟩
  unfold World.shape? at hs
  rcases Nat.lt_or_ge a.block W.heap.size with h | h
  · exact h
  · rw [Array.getElem?_eq_none h] at hs; cases hs
theorem cells26 : Try.prog.cellsOf 26 = 4 := by kernel_rfl
theorem cells3' : Try.prog.cellsOf 3 = 1 := by kernel_rfl
def datE {H : Type} (x : Ed) : DataW H := .agg [.lit (.string x.1.data.toList), .lit (.int .i64 x.2.1), .lit (.int .i64 x.2.2.1), .lit (.string x.2.2.2.data.toList)]
set_option maxRecDepth 100000 in
theorem open_edit {H : Type} {enc : TypeId × Value → H} {W : World} {base n : Nat} {spare : Nat → Bool} {held : Bool} {cs : List Value} {x : DataW H × List MemPlace} (h : DataW.trod enc Try.prog W base spare held n 26 cs = some x) :
    ∃ e : Ed, cs = encE e ∧ x.1 = datE e := by
  obtain ⟨xs, k, rfl, rfl, hl, hxl, hf⟩ := DataW.trod_struct Try.underlying26 h
  rw [cells26] at hl
  match cs, hl with
  | [c0, c1, c2, c3], _ =>
    have g0 : DataW.trod enc Try.prog W base spare held k 9 [c0] = xs[0]? := by have h := hf 0 ⟨ "Path", 9, 0, false, "", "", 0⟩ rfl; simpa [cells9'] using h
    have g1 : DataW.trod enc Try.prog W base spare held k 3 [c1] = xs[1]? := by have h := hf 1 ⟨ "From", 3, 1, false, "", "", 16⟩ rfl; simpa [cells3'] using h
    have g2 : DataW.trod enc Try.prog W base spare held k 3 [c2] = xs[2]? := by have h := hf 2 ⟨ "To", 3, 2, false, "", "", 24⟩ rfl; simpa [cells3'] using h
    have g3 : DataW.trod enc Try.prog W base spare held k 9 [c3] = xs[3]? := by have h := hf 3 ⟨ "Text", 9, 3, false, "", "", 32⟩ rfl; simpa [cells9'] using h
    match xs, hxl with
    | [y0, y1, y2, y3], _ =>
      simp only [List.getElem?_cons_zero, List.getElem?_cons_succ] at g0 g1 g2 g3
      obtain ⟨s0, e0, r0, _⟩ := DataW.trod_string Try.underlying9 g0
      obtain ⟨s1, e1, r1, _⟩ := DataW.trod_int Try.underlying3 g1
      obtain ⟨s2, e2, r2, _⟩ := DataW.trod_int Try.underlying3 g2
      obtain ⟨s3, e3, r3, _⟩ := DataW.trod_string Try.underlying9 g3
      simp at e0 e1 e2 e3
      subst e0 e1 e2 e3 r0 r1 r2 r3
      exact ⟨(s0, s1, s2, s3), rfl, rfl⟩
theorem flat_map (f : Nat → Ed) (n : Nat) (W : World) (B o : Nat) (h : ∀ i, i < n → ∀ k, k < 4 → W.cell? ⟨B, o + (i * 4 + k), none⟩ = (encE (f i))[k]?) : EdsAt W B o ((List.range n).map f) := by
  intro j u hu
  have hl : ((List.range n).map f).length = n := by simp
  have hj : j < n * 4 := by have := (List.getElem?_eq_some_iff.1 hu).1; rw [flatE_len, hl] at this; exact this
  have e := flatE_get ((List.range n).map f) (j / 4) (j % 4) (by rw [hl]; omega) (Nat.mod_lt _ (by omega))
  rw [show j / 4 * 4 + j % 4 = j by omega, hu] at e
  have h1 := h (j / 4) (by omega) (j % 4) (Nat.mod_lt _ (by omega))
  rw [show j / 4 * 4 + j % 4 = j by omega] at h1
  rw [h1, e]
  simp [List.getD_eq_getElem?_getD, (by omega : j / 4 < n)]
set_option maxRecDepth 100000 in
theorem open_edits {H : Type} {enc : TypeId × Value → H} {W : World} {base : Nat} {v : Value} {d : DataW H} {ps : List MemPlace} (hv : Value.okWide Try.prog W .any base 22 v) (h : DataW.Trod enc Try.prog W 0 (fun _ => true) true 22 v d ps) :
    ∃ l : List Ed, EdArg W v l ∧ (l = [] ∨ ∃ spare, d = .slice (l.map datE) spare) := by
  obtain ⟨a, len, cap, rfl⟩ := okWide_slice Try.underlying22 hv
  obtain ⟨fuel, hf⟩ := h
  rcases Go.Deep.open_slice Try.underlying22 hf with ⟨hcs, hx⟩ | ⟨a', len', cap', m, n, D, Pl, hcs, _, hl, _, hm, hx, hc⟩
  · simp [Value.cells] at hcs
    obtain ⟨rfl, rfl, rfl⟩ := hcs
    exact ⟨[], .inl ⟨rfl, rfl⟩, .inl rfl⟩
  · simp [Value.cells] at hcs
    obtain ⟨rfl, rfl, rfl⟩ := hcs
    simp only [if_true] at hm
    obtain ⟨hsp, hbk⟩ := ok_slice hv
    obtain ⟨B, o, sp⟩ := a'
    simp only at hsp hbk
    subst hsp
    have each : ∀ i, i < len → ∃ e : Ed, (∀ k, k < 4 → W.cell? ⟨B, o + (i * 4 + k), none⟩ = (encE e)[k]?) ∧ D i = datE e := fun i hi => by
      obtain ⟨cs', h1, h2⟩ := hc i (by omega)
      obtain ⟨e, rfl, hd⟩ := open_edit h2
      rw [cells26] at h1
      obtain ⟨_, _, h3⟩ := World.cells?_some h1
      refine ⟨e, fun k hk => ?_, hd⟩
      have := h3 k hk
      rw [Go.Deep.add_add, add_plain] at this
      exact this
    obtain ⟨f, hf'⟩ := Go.Deep.choose_lt each
    refine ⟨(List.range len).map f, .inr ⟨B, o, cap, by simp, fun _ => hbk, flat_map f len W B o fun i hi => (hf' i hi).1⟩, .inr ⟨(List.range (m - len)).map fun j => D (len + j), ?_⟩⟩
    rw [List.map_map]
    have e1 : (List.range len).map D = (List.range len).map (datE ∘ f) := List.map_congr_left fun i hi => (hf' i (List.mem_range.1 hi)).2
    rw [← e1]
    exact (Prod.mk.inj hx).1
theorem bulk_mem {H : Type} {d : DataW H} : ∀ {l : List (DataW H)}, d ∈ l → Rows.uptoBulk d ≤ Rows.uptoBulkAll l
  | [], h => by simp at h
  | x :: r, h => by
    simp only [Rows.uptoBulkAll]
    rcases List.mem_cons.1 h with rfl | h
    · omega
    · have := bulk_mem h; omega
theorem bulk_edit {H : Type} (x : Ed) : Rows.uptoBulk (datE x : DataW H) = x.1.size + x.2.2.2.size + 5 := by
  have e1 : x.1.data.toList.length = x.1.size := rfl
  have e2 : x.2.2.2.data.toList.length = x.2.2.2.size := rfl
  simp only [datE, Rows.uptoBulk, Rows.uptoBulkAll, e1, e2]
  omega
theorem bulk_edits {H : Type} : ∀ l : List Ed, 5 * l.length ≤ Rows.uptoBulkAll (l.map (datE : Ed → DataW H))
  | [] => by simp
  | x :: r => by
    have := bulk_edits (H := H) r
    have h := bulk_edit (H := H) x
    simp only [List.map_cons, Rows.uptoBulkAll, List.length_cons]
    omega
theorem bulk_file {H : Type} (x : Fi) : Rows.uptoBulk (datF x : DataW H) = x.1.size + x.2.size + 3 := by
  have e1 : x.1.data.toList.length = x.1.size := rfl
  have e2 : x.2.data.toList.length = x.2.size := rfl
  simp only [datF, Rows.uptoBulk, Rows.uptoBulkAll, e1, e2]
  omega
theorem bulk_files {H : Type} : ∀ l : List Fi, 3 * l.length ≤ Rows.uptoBulkAll (l.map (datF : Fi → DataW H))
  | [] => by simp
  | x :: r => by
    have := bulk_files (H := H) r
    have h := bulk_file (H := H) x
    simp only [List.map_cons, Rows.uptoBulkAll, List.length_cons]
    omega
/-- What it means for edits that all that came in is small. -/
theorem small_edits {H : Type} {l : List Ed} {d : DataW H} (hd : l = [] ∨ ∃ spare, d = .slice (l.map datE) spare) (h : Rows.uptoBulk d ≤ 1048576) : 5 * l.length ≤ 1048576 ∧ ∀ x ∈ l, x.1.size ≤ 1048576 ∧ x.2.2.2.size ≤ 1048576 := by
  rcases hd with rfl | ⟨spare, rfl⟩
  · exact ⟨by simp, by simp⟩
  · simp only [Rows.uptoBulk] at h
    refine ⟨by have := bulk_edits (H := H) l; omega, fun x hx => ?_⟩
    have h1 := bulk_mem (List.mem_map_of_mem (f := (datE : Ed → DataW H)) hx)
    rw [bulk_edit] at h1
    omega
theorem small_files {H : Type} {fs : List Fi} {d : DataW H} (hd : fs = [] ∨ ∃ spare, d = .slice (fs.map datF) spare) (h : Rows.uptoBulk d ≤ 1048576) : 3 * fs.length ≤ 1048576 ∧ ∀ j, j < fs.length → (fs.getD j default).1.size ≤ 1048576 ∧ (fs.getD j default).2.size ≤ 1048576 := by
  rcases hd with rfl | ⟨spare, rfl⟩
  · exact ⟨by simp, by simp⟩
  · simp only [Rows.uptoBulk] at h
    refine ⟨by have := bulk_files (H := H) fs; omega, fun j hj => ?_⟩
    have hm : fs.getD j default ∈ fs := by simp [List.getD_eq_getElem?_getD, hj]
    have h1 := bulk_mem (List.mem_map_of_mem (f := (datF : Fi → DataW H)) hm)
    rw [bulk_file] at h1
    omega
end Go.Proofs.Ytbgkdofjndocfab
