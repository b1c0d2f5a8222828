/- Writing into a row beyond what is known of it. -/
import Derived.Test.YtpmjneggkccaiaaGreatDoorEvU
set_option linter.unusedVariables false
set_option linter.unusedSimpArgs false
namespace Go.Proofs.YtpmjneggkccaiaaGreatDoor
namespace Ev
theorem ones {μ : Mu} {vs : List AV} {xs : List Value} (h1 : ∀ v ∈ vs, lone1 v = true) (hv : RVs μ vs xs) : ∀ x ∈ xs, x.oneCell' = true := by
  intro x hx
  obtain ⟨j, hj⟩ := List.getElem?_of_mem hx
  have hlen := hv.length
  have hj' : j < xs.length := by
    rcases Nat.lt_or_ge j xs.length with q | q
    · exact q
    · simp [List.getElem?_eq_none q] at hj
  have : ∃ v, vs[j]? = some v := ⟨vs[j]'(by omega), by simp⟩
  obtain ⟨v, hv'⟩ := this
  obtain ⟨y, hy, hr⟩ := hv.get hv'
  rw [hj] at hy; cases hy
  exact lone_one (h1 v (List.mem_of_getElem? hv')) hr
theorem allL_true : ∀ {l : List AV}, allL l = true → ∀ v ∈ l, lone1 v = true
  | [], _, v, hv => by cases hv
  | u :: l, h, v, hv => by
    rcases tb_or (b := lone1 u) (x := allL l) (y := false) (r := true) h with ⟨h1, h2⟩ | ⟨_, h2⟩
    · cases hv with
      | head => exact h1
      | tail _ m => exact allL_true h2 v m
    · cases h2
/-- Cells are stored into a block. -/
theorem row_write {P : Program} {w : World} {g o : Nat} {cs : Array Value} {el : TypeId} {xs : List Value} (hg : w.heap[g]? = some (.cells cs el (0, 0))) (ho : o + xs.length ≤ cs.size) (one : ∀ x ∈ xs, x.oneCell' = true) :
    ∃ (w' : World) (cs' : Array Value), (storeCells ⟨g, o, none⟩ xs).run P w = .ok () w' ∧ w'.heap[g]? = some (.cells cs' el (0, 0)) ∧ cs'.size = cs.size ∧ w'.os = w.os ∧ w'.tape = w.tape ∧ w'.output = w.output ∧
      w'.heap.size = w.heap.size ∧ (∀ i, i ≠ g → w'.heap[i]? = w.heap[i]?) ∧ (∀ k, k < o → cs'[k]? = cs[k]?) ∧ ∀ k, k < xs.length → cs'[o + k]? = xs[k]? := by
  have hrun := run_storeCells_at (P := P) g o el xs 0 cs w hg (by omega) one
  simp only [Nat.add_zero] at hrun
  have hh := setRow_heap w g cs (cs.toList.take o ++ xs ++ cs.toList.drop (o + xs.length)).toArray el (0, 0) hg
  refine ⟨_, _, hrun, hh, by simp; omega, rfl, rfl, rfl, by simp [World.setRow], fun i hi => by simp [World.setRow, Array.getElem?_modify, Ne.symm hi], fun k hk => ?_, fun k hk => ?_⟩
  · simp only [List.getElem?_toArray]
    rw [List.append_assoc, List.getElem?_append_left (by simp; omega), List.getElem?_take_of_lt hk]; simp
  · simp only [List.getElem?_toArray]
    rw [List.append_assoc, List.getElem?_append_right (by simp; omega), List.getElem?_append_left (by simp; omega)]
    congr 1; simp; omega
/-- Cells are read out of a block. -/
theorem row_read {P : Program} {w : World} {g o n : Nat} {cs : Array Value} {el : TypeId} (hg : w.heap[g]? = some (.cells cs el (0, 0))) (ho : o + n ≤ cs.size) :
    ∃ xs : List Value, (∀ w' : World, w'.heap = w.heap → (loadCells ⟨g, o, none⟩ n).run P w' = .ok xs.toArray w') ∧ xs.length = n ∧ ∀ k, k < n → xs[k]? = cs[o + k]? := by
  refine ⟨(cs.toList.drop o).take n, fun w' hw' => ?_, by simp; omega, fun k hk => ?_⟩
  · have hx : ((cs.toList.drop o).take n).length = n := by simp; omega
    have := run_loadCells_list (P := P) w' ⟨g, o, none⟩ ((cs.toList.drop o).take n) (fun j y hy => by
      rw [addr_add]
      have hj : j < n := by
        rcases Nat.lt_or_ge j n with q | q
        · exact q
        · rw [List.getElem?_eq_none (by rw [hx]; exact q)] at hy; cases hy
      rw [List.getElem?_take_of_lt hj, List.getElem?_drop] at hy
      simp only [World.cell?, hw', hg]
      simpa using hy)
    rw [hx] at this; exact this
  · rw [List.getElem?_take_of_lt hk, List.getElem?_drop]; simp
section
variable {T0 : Tab} {w0 : Fx} {μ : Mu} {σ : AS} {a : Act} {w : World} {o : Oper}
/-- A row is made anew by 'append', of which some cells are known. -/
theorem ok_growP {H : T AO} (hR : HR w0 μ H σ.nx w) {r : Result Next} {t : T AV} {xs ext : List Value} {n nc size : Nat} {el : TypeId}
    (hr : r = .ok (.value (.slice (some ⟨w.heap.size, 0, none⟩) n nc)) { w with drawn := w.drawn + 1, heap := w.heap.push (.cells (xs ++ ext).toArray el (0, 0)) })
    (hn : xs.length = n * size) (ht : ∀ k v, k < n * size → t.getN k = some v → ∃ x, xs[k]? = some x ∧ RV μ v x) (hnc : n ≤ nc) (he : ext.length = (nc - n) * size) :
    OutOk T0 w0 μ w r (.val (.slu σ.nx 0 n 0) (H.put σ.nx (some (.cells t (n * size) size el))) σ.nx.succ) := by
  have hR1 : HR w0 μ H σ.nx { w with drawn := w.drawn + 1 } := hR.same rfl rfl rfl rfl
  have hn0 := hR.new σ.nx (Nat.le_refl _)
  have hlen : (xs ++ ext).length = nc * size := by
    rw [List.length_append, hn, he, ← Nat.add_mul]; congr 1; omega
  refine ⟨_, _, _, .inl hr, Mu.le_put hn0, hR1.alloc (.cells (xs ++ ext).toArray el (0, 0)) _ nc
    ⟨(xs ++ ext).toArray, by simp, ?_, ⟨?_, .inr (Nat.mul_le_mul_right _ hnc)⟩, fun i v hi hv => ?_⟩, ?_⟩
  · simp [hn]
  · simp only [List.size_toArray, hlen, Nat.zero_add]; exact Nat.le_refl _
  · obtain ⟨x, hx, hrv⟩ := ht i v hi hv
    refine ⟨x, ?_, hrv.mono (Mu.le_put hn0)⟩
    simp only [Nat.zero_add, List.getElem?_toArray]
    rw [List.getElem?_append_left (by omega)]; exact hx
  · have := RV.slu (μ := μ.put σ.nx ⟨w.heap.size, 0, nc⟩) (b := σ.nx) (off := 0) (len := n) (less := 0) (l := ⟨w.heap.size, 0, nc⟩) (Mu.put_same _ _ _) (by simpa using hnc)
    simpa using this
end
end Ev
end Go.Proofs.YtpmjneggkccaiaaGreatDoor
