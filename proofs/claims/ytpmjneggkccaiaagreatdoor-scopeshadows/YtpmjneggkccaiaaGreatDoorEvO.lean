/- The operations that read and write memory, and those that make it: the evaluator's answer is the world's. -/
import Derived.Test.YtpmjneggkccaiaaGreatDoorEvS
set_option linter.unusedVariables false
set_option linter.unusedSimpArgs false
namespace Go.Proofs.YtpmjneggkccaiaaGreatDoor
namespace Ev
structure TyOk (P : Program) (t : TypeId) (i : TyI) : Prop where
  und : P.underlying t = some i.d
  agg : i.agg = isAggD i.d
  inf : ∃ info z, P.info? t = some info ∧ info.size = i.size ∧ info.bytes = i.bytes ∧ info.zero = some z ∧ RVs (fun _ => none) i.zero z.cells.toList
  zval : ∃ info z, P.info? t = some info ∧ info.zero = some z ∧ RV (fun _ => none) i.zv z
  off : offsD P i.d = some i.offs
  zlen : i.zero.length = i.size
/-- What a known call means: from any world in which the names from its first on are free it answers so, and leaves these blocks. -/
def MetOk (P : Program) (m : Met) : Prop :=
  ∀ (w0 : Fx) (μ : Mu) (w : World) (xs : List Value), HR w0 μ .leaf m.nx w → RVs μ m.args xs →
    Calls P m.f ⟨xs⟩ w (fun e w' => ∃ μ' x, Mu.le μ μ' ∧ HR w0 μ' (putL m.news .leaf) m.nz w' ∧ RV μ' m.v x ∧ e = .returned x)
structure TabOk (T0 : Tab) : Prop where
  ty : ∀ t i, T0.t t = some i → TyOk T0.P t i
  fn : ∀ f i, T0.fn.get (pOf f) = some i → ∃ fn, T0.P.funcs[f]? = some fn ∧ fn.body = some i.body ∧ fn.ntmps = i.nt ∧ fn.results.toList = i.res ∧ (fn.name == "runtime.NumGoroutine") = false
  mixed : T0.P.follows .mixedOrders = true
  kn : ∀ f, f ∈ T0.kn → ∀ w, Calls T0.P f #[] w (fun e w' => e = .returned (.bool true) ∧ w'.os = w.os ∧ w'.tape = w.tape ∧ w'.output = w.output ∧ w.heap.size ≤ w'.heap.size ∧ ∀ i, i < w.heap.size → w'.heap[i]? = w.heap[i]?)
  mt : ∀ m, m ∈ T0.mt → MetOk T0.P m
section
variable {P : Program} {t : TypeId} {i : TyI} {w : World}
theorem run_info (h : TyOk P t i) : ∃ info z, (typeInfo t).run P w = .ok info w ∧ info.size = i.size ∧ info.bytes = i.bytes ∧ info.zero = some z ∧ RVs (fun _ => none) i.zero z.cells.toList := by
  obtain ⟨info, z, h1, h2, h3, h4, h5⟩ := h.inf
  exact ⟨info, z, by simp [typeInfo, program, Sem.run, bind, Sem.bind, h1, pure], h2, h3, h4, h5⟩
theorem run_und (h : TyOk P t i) : (underlying t).run P w = .ok i.d w := by
  simp [underlying, program, Sem.run, bind, Sem.bind, h.und, pure]
theorem run_size (h : TyOk P t i) : (sizeOf t).run P w = .ok i.size w := by
  obtain ⟨info, z, h1, h2, _⟩ := run_info (w := w) h
  simp [sizeOf, h1, h2]
theorem run_zero (h : TyOk P t i) : ∃ z, (zeroValue t).run P w = .ok z w ∧ RVs (fun _ => none) i.zero z.cells.toList := by
  obtain ⟨info, z, h1, _, _, h4, h5⟩ := run_info (w := w) h
  exact ⟨z, by simp [zeroValue, h1, h4], h5⟩
theorem run_agg (h : TyOk P t i) : (isAgg t).run P w = .ok i.agg w := by
  rw [h.agg]
  simp only [isAgg, Sem.run_bind, run_und h, Result.andThen_ok]
  cases i.d <;> rfl
end
theorem RVs.any {μ : Mu} {l : List AV} {xs : List Value} (h : RVs (fun _ => none) l xs) : RVs μ l xs := h.mono (fun _ _ e => by cases e)
/-- The values of a list, put one behind the other, are found again. -/
theorem alt_get {α : Type} : ∀ (l : List α) (k : Nat), (alt l).1[k]? = l[2 * k]? ∧ (alt l).2[k]? = l[2 * k + 1]?
  | [], k => by simp [alt]
  | x :: l, k => by
    have e : alt (x :: l) = (x :: (alt l).2, (alt l).1) := rfl
    rw [e]
    constructor
    · cases k with
      | zero => simp
      | succ k =>
        have := (alt_get l k).2
        simp only [List.getElem?_cons_succ, this]
        rw [show 2 * (k + 1) = (2 * k + 1) + 1 by omega]; simp
    · have := (alt_get l k).1
      simp only [this]; simp
theorem alt_len {α : Type} : ∀ l : List α, (alt l).1.length ≤ l.length ∧ (alt l).2.length ≤ l.length
  | [] => by simp [alt]
  | x :: l => by
    have e : alt (x :: l) = (x :: (alt l).2, (alt l).1) := rfl
    have := alt_len l
    rw [e]; simp; omega
theorem ofL_get {α : Type} : ∀ (f : Nat) (l : List α), l.length < f → ∀ k, (T.ofL f l).getN k = l[k]?
  | 0, _, h, _ => by omega
  | f + 1, [], _, k => by show (T.leaf : T α).getN k = _; rw [T.getN_leaf]; simp
  | f + 1, x :: l, h, k => by
    show (T.node (T.ofL f (alt l).1) (some x) (T.ofL f (alt l).2)).getN k = _
    have hl := alt_len l
    rw [T.getN_node]
    cases k with
    | zero => simp
    | succ m =>
      simp only []
      have hg := alt_get l (m / 2)
      cases q : Nat.land m 1 with
      | zero =>
        simp only []
        rw [shr_one, ofL_get f _ (by simp at h; omega), hg.1]
        rw [land_one] at q
        rw [show 2 * (m / 2) = m by omega]; simp
      | succ z =>
        simp only []
        rw [shr_one, ofL_get f _ (by simp at h; omega), hg.2]
        rw [land_one] at q
        rw [show 2 * (m / 2) + 1 = m by omega]; simp
/-- A new row of cells. -/
theorem RO.new {μ : Mu} {w : World} {l : List AV} {xs : List Value} {n es cap : Nat} {el : TypeId} (h : RVs μ l xs) (hn : n = l.length) (hc : cap * es ≤ xs.length ∧ (es = 0 ∨ n ≤ cap * es)) :
    RO μ ⟨w.heap.size, 0, cap⟩ { w with heap := w.heap.push (.cells xs.toArray el (0, 0)) } (mkCells l n es el) := by
  refine ⟨xs.toArray, by simp, ?_, ?_, fun i v hi hv => ?_⟩
  · simp [hn, h.length]
  · exact ⟨by simpa using hc.1, hc.2.imp (fun e => ⟨e, rfl, by simp [hn, h.length]⟩) id⟩
  · rw [lenN_eq, ofL_get _ _ (Nat.lt_succ_self _)] at hv
    obtain ⟨x, hx, hr⟩ := h.get hv
    exact ⟨x, by simpa using hx, hr⟩
theorem RV.cells {μ : Mu} {v : AV} {x : Value} (h : RV μ v x) : RVs μ v.cells x.cells.toList := by
  cases h with
  | agg r => exact r
  | bool => exact .cons .bool .nil
  | int => exact .cons .int .nil
  | str e => exact .cons (.str e) .nil
  | ptr0 => exact .cons .ptr0 .nil
  | ptr e => exact .cons (.ptr e) .nil
  | sl0 => exact .cons .sl0 .nil
  | slk e c => exact .cons (.slk e c) .nil
  | slu e c => exact .cons (.slu e c) .nil
  | sle => exact .cons .sle .nil
  | map0 => exact .cons .map0 .nil
  | map e => exact .cons (.map e) .nil
  | func e a b => exact .cons (.func e a b) .nil
  | yield e => exact .cons (.yield e) .nil
  | nilF => exact .cons .nilF .nil
  | iface a => exact .cons (.iface a) .nil
  | nilI => exact .cons .nilI .nil
  | tup a => exact .cons (.tup a) .nil
  | any e =>
    have : x.cells.toList = [x] := by cases x <;> first | rfl | cases e
    rw [this]; exact .cons (.any e) .nil
/-- What is read out of a row. -/
theorem readN_sound {μ : Mu} {t : T AV} {c : Array Value} {b n : Nat} (h : ∀ i v, i < n → t.getN i = some v → ∃ x, c[b + i]? = some x ∧ RV μ v x) :
    ∀ (m o : Nat) (l : List AV), readN t o m = some l → o + m ≤ n → ∃ xs, RVs μ l xs ∧ ∀ j x, xs[j]? = some x → c[b + o + j]? = some x
  | 0, o, l, e, _ => by cases e; exact ⟨[], .nil, fun j x q => by simp at q⟩
  | m + 1, o, l, e, hn => by
    obtain ⟨v, h1, h2⟩ := ob_some (x := t.getN o) e
    obtain ⟨r, h3, h4⟩ := ob_some (x := readN t (Nat.succ o) m) h2
    cases h4
    obtain ⟨x, hx, hr⟩ := h o v (by omega) h1
    obtain ⟨xs, q1, q2⟩ := readN_sound h m (o + 1) r h3 (by omega)
    refine ⟨x :: xs, .cons hr q1, fun j y q => ?_⟩
    cases j with
    | zero => simp at q; subst q; simpa using hx
    | succ j =>
      simp at q
      have := q2 j y q
      rw [show b + (o + 1) + j = b + o + (j + 1) by omega] at this
      exact this
theorem readN_len {t : T AV} : ∀ (m o : Nat) (l : List AV), readN t o m = some l → l.length = m
  | 0, _, _, e => by cases e; rfl
  | m + 1, o, l, e => by
    obtain ⟨v, h1, h2⟩ := ob_some (x := t.getN o) e
    obtain ⟨r, h3, h4⟩ := ob_some (x := readN t (Nat.succ o) m) h2
    cases h4
    simp [readN_len m _ r h3]
theorem addr_add (b o n : Nat) : (⟨b, o, none⟩ : Addr).add n = ⟨b, o + n, none⟩ := by unfold Addr.add; split <;> simp_all
theorem loadE_sound {w0 : Fx} {μ : Mu} {H : T AO} {nx : Bn} {w : World} {P : Program} {t : TypeId} {i : TyI} (hR : HR w0 μ H nx w) (ht : TyOk P t i) {p : Pt} {v : AV} {l : Loc}
    (e : loadE H i p = some v) (hl : μ p.b = some l) : ∃ x, (loadVar t ⟨l.blk, l.base + p.off, none⟩).run P w = .ok x w ∧ RV μ v x := by
  obtain ⟨c, h1, h2⟩ := ob_some e
  have h1 := cellsAt_some h1
  obtain ⟨l', m, r⟩ := hR.live _ _ h1
  rw [hl] at m; cases m
  obtain ⟨cs, g1, g2, _, g4⟩ := r
  have cell : ∀ j x, cs[l.base + p.off + j]? = some x → w.cell? ((⟨l.blk, l.base + p.off, none⟩ : Addr).add j) = some x := fun j x q => by
    rw [addr_add]; simp [World.cell?, g1, q]
  rcases tb_or h2 with ⟨ha, h3⟩ | ⟨ha, h3⟩
  · obtain ⟨hb, h4⟩ := cb_some h3
    obtain ⟨q, h5, h6⟩ := ob_some h4
    cases h6
    obtain ⟨xs, r1, r2⟩ := readN_sound g4 i.size p.off q h5 (ble_true hb)
    have hx : xs.length = i.size := by rw [r1.length, readN_len _ _ _ h5]
    refine ⟨.agg xs.toArray, ?_, .agg r1⟩
    have := run_loadCells_list (P := P) w ⟨l.blk, l.base + p.off, none⟩ xs (fun j y hy => cell j y (r2 j y hy))
    rw [hx] at this
    simp [loadVar, run_agg ht, ha, run_size ht, this]
  · obtain ⟨hb, h4⟩ := cb_some h3
    rw [blt_eq] at hb
    obtain ⟨x, hx, hr⟩ := g4 p.off v (by simpa using hb) h4
    refine ⟨x, ?_, hr⟩
    have := cell 0 x (by simpa using hx)
    rw [addr_add, Nat.add_zero] at this
    simp only [loadVar, Sem.run_bind, run_agg ht, ha, Result.andThen_ok]
    simp [run_load, this]
theorem lone_one {μ : Mu} {v : AV} {x : Value} (h : lone1 v = true) (r : RV μ v x) : x.oneCell' = true := by
  cases r <;> first | rfl | assumption | cases h
/-- What is written into a row. -/
theorem writeN_get {t t' : T AV} : ∀ (l : List AV) (o : Nat), writeN t o l = some t' → (∀ v ∈ l, lone1 v = true) ∧
    ∀ k, t'.getN k = if o ≤ k ∧ k < o + l.length then l[k - o]? else t.getN k := by
  intro l
  induction l generalizing t with
  | nil => intro o e; cases e; exact ⟨fun v h => (by cases h), fun k => (by rw [if_neg (by simp only [List.length_nil]; omega)])⟩
  | cons v l ih =>
    intro o e
    obtain ⟨h1, h2⟩ := cb_some (b := lone1 v) (x := writeN (t.putN o (some v)) (Nat.succ o) l) e
    obtain ⟨q1, q2⟩ := ih (Nat.succ o) h2
    refine ⟨fun u hu => ?_, fun k => ?_⟩
    · cases hu with
      | head => exact h1
      | tail _ hm => exact q1 u hm
    · rw [q2 k, T.putN_get]
      by_cases a : o + 1 ≤ k ∧ k < o + 1 + l.length
      · rw [if_pos a, if_pos (by simp; omega), show k - o = (k - (o + 1)) + 1 by omega]; simp
      · rw [if_neg a]
        by_cases b : k = o
        · subst b; simp
        · rw [if_neg b, if_neg (by simp; omega)]
theorem store_sound {w0 : Fx} {μ : Mu} {H : T AO} {nx : Bn} {w : World} {P : Program} (hR : HR w0 μ H nx w) {b : Bn} {c : Ce} {l : Loc} (hc : cellsAt H b = some c) (hl : μ b = some l)
    {o : Nat} {vs : List AV} {xs : List Value} {t' : T AV} (hw : writeN c.t o vs = some t') (hn : o + vs.length ≤ c.n) (hv : RVs μ vs xs) :
    ∃ w', (storeCells ⟨l.blk, l.base + o, none⟩ xs).run P w = .ok () w' ∧ HR w0 μ (H.put b (some (.cells t' c.n c.es c.el))) nx w' := by
  have h1 := cellsAt_some hc
  obtain ⟨l', m, r⟩ := hR.live _ _ h1
  rw [hl] at m; cases m
  obtain ⟨cs, g1, g2, g3, g4⟩ := r
  obtain ⟨q1, q2⟩ := writeN_get vs o hw
  have hlen := hv.length
  have one : ∀ x ∈ xs, x.oneCell' = true := by
    intro x hx
    obtain ⟨j, hj⟩ := List.getElem?_of_mem hx
    have hj' : j < xs.length := by
      rcases Nat.lt_or_ge j xs.length with q | q
      · exact q
      · simp [List.getElem?_eq_none q] at hj
    have : ∃ v, vs[j]? = some v := ⟨vs[j]'(by omega), by simp⟩
    obtain ⟨v, hv'⟩ := this
    obtain ⟨y, hy, hr⟩ := hv.get hv'
    rw [hj] at hy; cases hy
    exact lone_one (q1 v (List.mem_of_getElem? hv')) hr
  have hrun := run_storeCells_at (P := P) l.blk (l.base + o) c.el xs 0 cs w g1 (by rw [hlen]; omega) one
  simp only [Nat.add_zero] at hrun
  refine ⟨_, hrun, ?_⟩
  have hh := setRow_heap w l.blk cs (cs.toList.take (l.base + o) ++ xs ++ cs.toList.drop (l.base + o + xs.length)).toArray c.el (0, 0) g1
  have hsz : (cs.toList.take (l.base + o) ++ xs ++ cs.toList.drop (l.base + o + xs.length)).length = cs.size := by simp [hlen]; omega
  refine hR.write h1 hl rfl rfl rfl (by simp [World.setRow]) (fun i hi => by simp [World.setRow, Array.getElem?_modify, Ne.symm hi]) ⟨_, hh, by simp only [List.size_toArray, hsz]; exact g2, by simp only [List.size_toArray, hsz]; exact g3, fun i v hi hg => ?_⟩
  rw [q2 i] at hg
  simp only [List.getElem?_toArray]
  split at hg
  · rename_i a
    obtain ⟨x, hx, hr⟩ := hv.get hg
    refine ⟨x, ?_, hr⟩
    rw [List.append_assoc, List.getElem?_append_right (by simp; omega), List.getElem?_append_left (by simp [hlen]; omega)]
    simp only [List.length_take, Array.length_toList]
    rw [show l.base + i - min (l.base + o) cs.size = i - o by omega]; exact hx
  · rename_i a
    obtain ⟨x, hx, hr⟩ := g4 i v hi hg
    refine ⟨x, ?_, hr⟩
    by_cases b1 : i < o
    · rw [List.append_assoc, List.getElem?_append_left (by simp; omega), List.getElem?_take_of_lt (by omega)]
      simpa using hx
    · rw [List.append_assoc, List.getElem?_append_right (by simp; omega), List.getElem?_append_right (by simp [hlen]; omega)]
      simp only [List.length_take, Array.length_toList, List.getElem?_drop]
      rw [show l.base + o + xs.length + (l.base + i - min (l.base + o) cs.size - xs.length) = l.base + i by omega]
      simpa using hx
end Ev
end Go.Proofs.YtpmjneggkccaiaaGreatDoor
