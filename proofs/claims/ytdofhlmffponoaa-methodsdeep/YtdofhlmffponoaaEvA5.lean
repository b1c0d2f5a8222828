/- Structs, arrays and slices that are written out; slices that are made. -/
import Derived.Test.YtdofhlmffponoaaEvA4
import Derived.Laws.Tables
set_option linter.unusedVariables false
set_option linter.unusedSimpArgs false
namespace Go.Proofs.Ytdofhlmffponoaa
namespace Ev
theorem over0_eq : ∀ (vs cs : List AV), vs.length ≤ cs.length → over0 cs vs = vs ++ cs.drop vs.length
  | [], cs, _ => by show cs = _; simp
  | v :: vs, [], h => by simp at h
  | v :: vs, c :: cs, h => by
    show v :: over0 cs vs = _
    rw [over0_eq vs cs (by simpa using h)]; simp
theorem over_eq : ∀ (o : Nat) (cs vs : List AV), o + vs.length ≤ cs.length → over cs o vs = cs.take o ++ (vs ++ cs.drop (o + vs.length))
  | 0, cs, vs, h => by
    show over0 cs vs = _
    rw [over0_eq vs cs (by omega)]; simp
  | o + 1, [], vs, h => by simp at h
  | o + 1, c :: cs, vs, h => by
    show c :: over cs o vs = _
    rw [over_eq o cs vs (by simp at h; omega), show o + 1 + vs.length = (o + vs.length) + 1 by omega]; simp
theorem foldl_set : ∀ (vs : List Value) (k o : Nat) (arr : Array Value), o + k + vs.length ≤ arr.size →
    ((vs.zipIdx k).foldl (fun cs (p : Value × Nat) => cs.setIfInBounds (o + p.2) p.1) arr).toList = arr.toList.take (o + k) ++ (vs ++ arr.toList.drop (o + k + vs.length))
  | [], k, o, arr, _ => by simp
  | v :: vs, k, o, arr, h => by
    simp only [List.zipIdx_cons, List.foldl_cons]
    rw [foldl_set vs (k + 1) o _ (by simp at h ⊢; omega)]
    simp only [Array.toList_setIfInBounds, List.length_cons] at h ⊢
    have hl : o + k < arr.toList.length := by simp; omega
    rw [show o + (k + 1) = (o + k) + 1 by omega]
    rw [List.take_succ_eq_append_getElem (by simp; omega)]
    simp only [List.getElem_set_self, List.append_assoc, List.cons_append]
    rw [List.take_set_of_le (by omega), List.drop_set_of_lt (by omega)]
    simp [show o + k + 1 + vs.length = o + k + (vs.length + 1) by omega]
/-- Parts of a literal. -/
inductive PV (μ : Mu) : List (Nat × AV) → List (Nat × Value) → Prop
  | nil : PV μ [] []
  | cons {i : Nat} {v : AV} {x : Value} {l : List (Nat × AV)} {m : List (Nat × Value)} : RV μ v x → PV μ l m → PV μ ((i, v) :: l) ((i, x) :: m)
theorem parts_sound {μ : Mu} {tm : T AV} {a : Act} (h : RT μ tm a.tmps) : ∀ {ps : List (Nat × Operand)} {l : List (Nat × AV)}, parts tm ps = some l → PV μ l (ps.map fun p => (p.1, a.eval p.2))
  | [], _, e => by cases e; exact .nil
  | (i, x) :: ps, l, e => by
    obtain ⟨v, h1, h2⟩ := ob_some (x := opnd tm x) e
    obtain ⟨r, h3, h4⟩ := ob_some (x := parts tm ps) h2
    cases h4
    exact .cons (opnd_sound h h1) (parts_sound h h3)
theorem fillA_sound {μ : Mu} {place place' : Nat → Option (Nat × Nat)} (hp : ∀ i q, place i = some q → place' i = some q) : ∀ {l : List (Nat × AV)} {m : List (Nat × Value)} {cs cs' : List AV} {xs : List Value}, PV μ l m → RVs μ cs xs →
    fillA place l cs = some cs' → ∃ xs', Instr.fill place' ⟨xs⟩ m = some ⟨xs'⟩ ∧ RVs μ cs' xs'
  | [], _, cs, cs', xs, .nil, h, e => by cases e; exact ⟨xs, rfl, h⟩
  | (i, v) :: l, _, cs, cs', xs, .cons hv hm, h, e => by
    rename_i x m
    obtain ⟨q, h1, h2⟩ := ob_some (x := place i) e
    obtain ⟨h3, h4⟩ := cb_some h2
    obtain ⟨h5, h6⟩ := cb_some h4
    have h3 : lenN v.cells = q.2 := beq_true h3
    have h5 : q.1 + q.2 ≤ lenN cs := ble_true h5
    rw [lenN_eq] at h3 h5
    have hc := hv.cells
    have hxl := h.length
    have hcl := hc.length
    have h7 : RVs μ (over cs q.1 v.cells) (xs.take q.1 ++ (x.cells.toList ++ xs.drop (q.1 + x.cells.toList.length))) := by
      rw [over_eq q.1 cs v.cells (by omega), hcl]
      exact (h.take _).append (hc.append (h.drop _))
    obtain ⟨xs', g1, g2⟩ := fillA_sound hp hm h7 h6
    refine ⟨xs', ?_, g2⟩
    have hsz : x.cells.size = q.2 := by rw [← Array.length_toList, hcl, h3]
    have e1 : x.cells.zipIdx.foldl (fun cs (c, j) => cs.setIfInBounds (q.1 + j) c) (⟨xs⟩ : Array Value) = ⟨xs.take q.1 ++ (x.cells.toList ++ xs.drop (q.1 + x.cells.toList.length))⟩ := by
      apply Array.ext'
      rw [← Array.foldl_toList, Array.toList_zipIdx]
      have := foldl_set x.cells.toList 0 q.1 ⟨xs⟩ (by simp only [Array.length_toList, hsz]; show q.1 + 0 + q.2 ≤ xs.length; omega)
      simpa using this
    simp only [Instr.fill, hp i q h1]
    rw [if_neg (by simp only [hsz]; show ¬ ((decide (q.2 ≠ q.2) || decide (q.1 + q.2 > xs.length)) = true); simp; omega), e1]
    exact g1
theorem repN_get {α : Type} (l : List α) : ∀ (n j : Nat), j < n * l.length → (repN l n)[j]? = l[j % l.length]?
  | 0, j, h => by simp at h
  | n + 1, j, h => by
    show (appN l (repN l n))[j]? = _
    rw [appN_eq]
    by_cases q : j < l.length
    · rw [List.getElem?_append_left q, Nat.mod_eq_of_lt q]
    · rw [List.getElem?_append_right (by omega), repN_get l n _ (by rw [Nat.add_mul] at h; omega)]
      rw [show j % l.length = (j - l.length) % l.length from by rw [Nat.mod_eq_sub_mod (by omega)]]
theorem repN_len {α : Type} (l : List α) : ∀ n, (repN l n).length = n * l.length
  | 0 => by show ([] : List α).length = _; simp
  | n + 1 => by
    show (appN l (repN l n)).length = _
    rw [appN_eq, List.length_append, repN_len l n, Nat.add_mul]; omega
theorem RVs.rep {μ : Mu} {l : List AV} {xs : List Value} (h : RVs μ l xs) : ∀ n, RVs μ (repN l n) (repN xs n)
  | 0 => .nil
  | n + 1 => by
    show RVs μ (appN l (repN l n)) (appN xs (repN xs n))
    rw [appN_eq, appN_eq]
    exact h.append (h.rep n)
/-- Zero elements, as the model lays them. -/
theorem zeros_eq (z : Array Value) (n : Nat) : ((Array.range (n * z.size)).map (fun i => z[i % z.size]!)) = ⟨repN z.toList n⟩ := by
  apply Array.ext'
  apply List.ext_getElem?
  intro j
  by_cases h : j < n * z.size
  · rw [repN_get _ _ _ (by simpa using h)]
    have hz : 0 < z.size := by
      rcases Nat.eq_zero_or_pos z.size with e | e
      · rw [e] at h; simp at h
      · exact e
    have hm : j % z.size < z.size := Nat.mod_lt _ hz
    simp [h, hm]
  · rw [List.getElem?_eq_none (by simp; omega), List.getElem?_eq_none (by rw [repN_len]; simpa using Nat.le_of_not_lt h)]
end Ev
end Go.Proofs.Ytdofhlmffponoaa
/- Literals, 'make', and parts of slices: the operations. -/
set_option linter.unusedVariables false
set_option linter.unusedSimpArgs false
namespace Go.Proofs.Ytdofhlmffponoaa
namespace Ev
section
variable {T0 : Tab} {w0 : Fx} {μ : Mu} {σ : AS} {a : Act} {w : World} {o : Oper}
theorem elemI_some (hT : TabOk T0) {t : TypeId} {q : TypeId × TyI} (h : elemI T0 t = some q) : (∃ i, TyOk T0.P t i ∧ i.d = .slice q.1) ∧ TyOk T0.P q.1 q.2 := by
  obtain ⟨i, h1, h2⟩ := ob_some h
  obtain ⟨e, h3, h4⟩ := ob_some h2
  obtain ⟨ei, h5, h6⟩ := ob_some h4
  cases h6
  exact ⟨⟨i, hT.ty t i h1, dSlice_some h3⟩, hT.ty e ei h5⟩
theorem map_parts (a : Act) (ps : Array (Nat × Operand)) : (ps.map fun (i, x) => (i, a.eval x)).toList = ps.toList.map fun p => (p.1, a.eval p.2) := by simp
theorem map_eval (a : Act) (ps : Array (Nat × Operand)) : (ps.map fun p => (p.1, a.eval p.2)).toList = ps.toList.map fun p => (p.1, a.eval p.2) := by simp
theorem s_buildS (hT : TabOk T0) (hR : HR w0 μ σ.hp σ.nx w) (hA : RT μ σ.tm a.tmps) {t : TypeId} {i : TyI} {ps : Array (Nat × Operand)} {l : List TypeId} (hi : T0.t t = some i) (hd : dFields i.d = some l)
    (ho : o.op = .build t ps) {out : Out} (h : opBuildS σ i ps.toList = some out) : OutOk T0 w0 μ w ((execOp a.eval o).run T0.P w) out := by
  obtain ⟨m, h1, h2⟩ := ob_some h
  obtain ⟨cs, h3, h4⟩ := ob_some h2
  cases h4
  have ht := hT.ty t i hi
  obtain ⟨fs, e1, _⟩ := dFields_some hd
  obtain ⟨info, z, g1, g2, g3, g4, g5⟩ := ht.inf
  have hof := ht.off
  have hu := ht.und
  rw [e1] at hof hu
  obtain ⟨xs, q1, q2⟩ := fillA_sound (place' := fun x => (i.offs.toArray)[x]?) (fun j q e => by rw [nthO_eq] at e; simpa using e) (parts_sound hA h1) (g5.any (μ := μ)) h3
  refine ok_pure hR (x := .agg ⟨xs⟩) ?_ (.agg q2)
  have hb : T0.P.built t (ps.map fun (i, x) => (i, a.eval x)).toList = some ⟨xs⟩ := by
    have hof' : fs.toList.mapM (fun f => (T0.P.info? f.type).map fun i => (f.offset, i.size)) = some i.offs := hof
    simp only [Program.built, g1, hu, g4, hof']
    rw [map_parts]
    exact q1
  simp [execOp, ho, run_build w t _ _ hb]
theorem s_buildA (hT : TabOk T0) (hR : HR w0 μ σ.hp σ.nx w) (hA : RT μ σ.tm a.tmps) {t : TypeId} {i ei : TyI} {ps : Array (Nat × Operand)} {p : Nat × TypeId} (hi : T0.t t = some i) (hd : dArr i.d = some p) (he : T0.t p.2 = some ei)
    (ho : o.op = .build t ps) {out : Out} (h : opBuildA σ i ei ps.toList = some out) : OutOk T0 w0 μ w ((execOp a.eval o).run T0.P w) out := by
  obtain ⟨m, h1, h2⟩ := ob_some h
  obtain ⟨cs, h3, h4⟩ := ob_some h2
  cases h4
  have ht := hT.ty t i hi
  have hte := hT.ty p.2 ei he
  obtain ⟨info, z, g1, g2, g3, g4, g5⟩ := ht.inf
  obtain ⟨ie, ze, k1, k2, k3, k4, k5⟩ := hte.inf
  have hu := ht.und
  rw [dArr_some hd] at hu
  obtain ⟨xs, q1, q2⟩ := fillA_sound (place' := fun j => some (j * ie.size, ie.size)) (fun j q e => by rw [k2]; exact e) (parts_sound hA h1) (g5.any (μ := μ)) h3
  refine ok_pure hR (x := .agg ⟨xs⟩) ?_ (.agg q2)
  have hb : T0.P.built t (ps.map fun (i, x) => (i, a.eval x)).toList = some ⟨xs⟩ := by
    simp only [Program.built, g1, hu, g4, k1]
    rw [map_parts]
    exact q1
  simp [execOp, ho, run_build w t _ _ hb]
theorem fillA_len {place : Nat → Option (Nat × Nat)} : ∀ {l : List (Nat × AV)} {cs cs' : List AV}, fillA place l cs = some cs' → cs'.length = cs.length
  | [], _, _, e => by cases e; rfl
  | (i, v) :: l, cs, cs', e => by
    obtain ⟨q, h1, h2⟩ := ob_some (x := place i) e
    obtain ⟨h3, h4⟩ := cb_some h2
    obtain ⟨h5, h6⟩ := cb_some h4
    have h3 : lenN v.cells = q.2 := beq_true h3
    have h5 : q.1 + q.2 ≤ lenN cs := ble_true h5
    rw [lenN_eq] at h3 h5
    have h3 : (v.cells).length = q.2 := h3
    have e := fillA_len h6
    rw [over_eq q.1 cs v.cells (by omega)] at e
    rw [e]; simp; omega
theorem s_buildSlice (hT : TabOk T0) (hR : HR w0 μ σ.hp σ.nx w) (hA : RT μ σ.tm a.tmps) {t : TypeId} {q : TypeId × TyI} {len : Nat} {ps : Array (Nat × Operand)} (hq : elemI T0 t = some q)
    (ho : o.op = .buildSlice t len ps) {out : Out} (h : opBuildSlice σ q.1 q.2 len ps.toList = some out) : OutOk T0 w0 μ w ((execOp a.eval o).run T0.P w) out := by
  obtain ⟨h0, h⟩ := cb_some h
  obtain ⟨m, h1, h2⟩ := ob_some h
  obtain ⟨cs, h3, h4⟩ := ob_some h2
  cases h4
  obtain ⟨⟨i, ht, hd⟩, hte⟩ := elemI_some hT hq
  have hu := run_und (w := w) ht
  rw [hd] at hu
  obtain ⟨z, g1, g2⟩ := run_zero (w := w) hte
  have hzl : z.cells.size = q.2.size := by rw [← Array.length_toList, g2.length, hte.zlen]
  have h0 : len * q.2.size ≤ 16777216 := ble_true h0
  obtain ⟨xs, q1, q2⟩ := fillA_sound (place' := fun j => some (j * q.2.size, q.2.size)) (fun j q e => e) (parts_sound hA h1) ((g2.any (μ := μ)).rep len) h3
  have hzc : ∀ (n : Nat), n = len * q.2.size → ∀ zc : Array Value, (n ≠ 0 → zc = z.cells) → (Array.range n).map (fun j => zc[j % zc.size]!) = ⟨repN z.cells.toList len⟩ := by
    intro n hn zc hz
    by_cases e : n = 0
    · rw [e]
      have : repN z.cells.toList len = [] := List.eq_nil_of_length_eq_zero (by rw [repN_len, Array.length_toList, hzl]; omega)
      rw [this]; exact Array.ext' (by simp)
    · rw [hz e, ← zeros_eq, hzl, hn]
  have hlen : xs.length = len * q.2.size := by rw [q2.length, fillA_len h3, repN_len, hte.zlen]
  refine ok_new hR (xs := xs) (cap := 0) ?_ q2 (lenN_eq _) (by simp) (fun b => .slk (l := ⟨w.heap.size, 0, 0⟩) (Mu.put_same _ _ _) (Nat.le_refl _))
  have hl : ¬ (len * q.2.size > 2 ^ 24) := by omega
  by_cases e : len * q.2.size = 0
  · have hz := hzc (len * q.2.size) rfl #[] (fun k => absurd e k)
    simp only [execOp, ho, Instr.buildSlice, Sem.run_bind, hu, Result.andThen_ok, run_size hte, Sem.run_ite, if_neg hl, Sem.run_pure, if_pos e]
    rw [hz, map_parts, q1]
    simp [run_newRow]
  · have hz := hzc (len * q.2.size) rfl z.cells (fun _ => rfl)
    simp only [execOp, ho, Instr.buildSlice, Sem.run_bind, hu, Result.andThen_ok, run_size hte, Sem.run_ite, if_neg hl, Sem.run_pure, if_neg e, g1]
    rw [hz, map_parts, q1]
    simp [run_newRow]
end
end Ev
end Go.Proofs.Ytdofhlmffponoaa
/- 'make' of slices; parts of texts and slices. -/
set_option linter.unusedVariables false
set_option linter.unusedSimpArgs false
namespace Go.Proofs.Ytdofhlmffponoaa
namespace Ev
theorem run_askRoom (P : Program) (w : World) (n : Nat) : (askRoom n).run P w = .ok () w := by
  unfold askRoom; split <;> rfl
section
variable {T0 : Tab} {w0 : Fx} {μ : Mu} {σ : AS} {a : Act} {w : World} {o : Oper}
theorem s_makeSlice (hT : TabOk T0) (hR : HR w0 μ σ.hp σ.nx w) (hA : RT μ σ.tm a.tmps) {t : TypeId} {q : TypeId × TyI} {x y : Operand} (hq : elemI T0 t = some q)
    (ho : o.op = .makeSlice t x y) {out : Out} (h : opMakeSlice σ q.1 q.2 x y = some out) : OutOk T0 w0 μ w ((execOp a.eval o).run T0.P w) out := by
  obtain ⟨m, h1, h2⟩ := ob_some h
  obtain ⟨k, h3, h4⟩ := ob_some h2
  obtain ⟨h5, h6⟩ := cb_some h4
  obtain ⟨h7, h8⟩ := cb_some h6
  cases h8
  have h5 := ble_true h5
  have h7 : k * (q.2.bytes + 1) ≤ 1000000000 := ble_true h7
  obtain ⟨⟨i, ht, hd⟩, hte⟩ := elemI_some hT hq
  have hu := run_und (w := w) ht
  rw [hd] at hu
  obtain ⟨z, g1, g2⟩ := run_zero (w := w) hte
  obtain ⟨info, z', g3, g4, g5, _, _⟩ := run_info (w := w) hte
  have hzl : z.cells.size = q.2.size := by rw [← Array.length_toList, g2.length, hte.zlen]
  obtain ⟨k1, e1⟩ := natO_some hA h1
  obtain ⟨k2, e2⟩ := natO_some hA h3
  have hk : k ≤ 1000000000 := by
    have : k * 1 ≤ k * (q.2.bytes + 1) := Nat.mul_le_mul_left k (by omega)
    omega
  have hkb : k * q.2.bytes ≤ 1000000000 := by
    have : k * q.2.bytes ≤ k * (q.2.bytes + 1) := Nat.mul_le_mul_left k (by omega)
    omega
  have w1 : IntKind.i64.wrap (Int.ofNat m) = (m : Int) := wrap_small _ (by simp) (by simp only [Int.ofNat_eq_natCast]; omega)
  have w2 : IntKind.i64.wrap (Int.ofNat k) = (k : Int) := wrap_small _ (by simp) (by simp only [Int.ofNat_eq_natCast]; omega)
  have hlen : (repN z.cells.toList k).length = k * q.2.size := by rw [repN_len, Array.length_toList, hzl]
  refine ok_new hR (xs := repN z.cells.toList k) (cap := 0) ?_ ((g2.any (μ := μ)).rep k) (by rw [repN_len, hte.zlen]; rfl) (by simp) (fun b => .slk (l := ⟨w.heap.size, 0, 0⟩) (Mu.put_same _ _ _) h5)
  have hb : ((q.2.bytes : Int) * (k : Int)) = ((k * q.2.bytes : Nat) : Int) := by rw [Nat.mul_comm]; simp
  have hbad : ((decide ((k : Int) < 0) || decide ((info.bytes : Int) * (k : Int) > 2 ^ 48) || decide ((m : Int) < 0) || decide ((m : Int) > (k : Int))) = true) = False := by
    rw [g5, hb]
    have a1 : ¬ ((k : Int) < 0) := by omega
    have a3 : ¬ ((m : Int) < 0) := by omega
    have a4 : ¬ ((m : Int) > (k : Int)) := by omega
    simp [a1, a3, a4]
    have hk2 : ((k * q.2.bytes : Nat) : Int) ≤ 1000000000 := Int.ofNat_le.2 hkb
    rw [Int.natCast_mul] at hk2
    exact Int.le_trans hk2 (by decide)
  have hrow : ∀ zc : Array Value, (k * q.2.size ≠ 0 → zc = z.cells) → (Array.range (k * q.2.size)).map (fun j => zc[j % zc.size]!) = (repN z.cells.toList k).toArray := by
    intro zc hz
    by_cases e : k * q.2.size = 0
    · rw [e]
      have : repN z.cells.toList k = [] := List.eq_nil_of_length_eq_zero (by omega)
      rw [this]; exact Array.ext' (by simp)
    · rw [hz e, ← hzl, zeros_eq]
  simp only [execOp, ho, Instr.makeSlice, Sem.run_bind, hu, Result.andThen_ok, e1, e2, asInt, asIntOf, Sem.run_pure, g3, w1, w2, Sem.run_ite]
  rw [if_neg (by rw [hbad]; exact id)]
  simp only [Result.andThen_ok, run_askRoom, run_size hte, Int.toNat_natCast]
  by_cases e : k * q.2.size = 0
  · simp only [if_pos e]
    rw [hrow #[] (fun k => absurd e k)]
    simp [run_newRow]
  · simp only [if_neg e, g1, Result.andThen_ok]
    rw [hrow z.cells (fun _ => rfl)]
    simp [run_newRow]
/-- An operand that may lack. -/
def OV (μ : Mu) : Option AV → Option Value → Prop
  | none, none => True
  | some v, some x => RV μ v x
  | _, _ => False
theorem okO_some (hA : RT μ σ.tm a.tmps) {x : Option Operand} {v : Option AV} (h : okO σ.tm x = some v) : OV μ v (x.map a.eval) := by
  rcases oc_or h with ⟨e, h1⟩ | ⟨y, e, h1⟩
  · cases h1; subst e; trivial
  · obtain ⟨u, h2, h3⟩ := ob_some h1
    cases h3; subst e
    exact opnd_sound hA h2
theorem bound_run {v : AV} {x : Value} {n y : Nat} {c : BoundsCode} (hv : RV μ v x) (hn : intOf v = some n) (hy : n ≤ y) : (Instr.sliceBound x y c).run T0.P w = .ok n w := by
  obtain ⟨k, rfl⟩ := intOf_some hn
  rw [hv.int_inv]
  have : (0 : Int) ≤ Int.ofNat n ∧ Int.ofNat n ≤ (y : Int) := ⟨by simp, by simp only [Int.ofNat_eq_natCast]; omega⟩
  simp only [Instr.sliceBound, asIntOf, Sem.run_bind, Sem.run_pure, Result.andThen_ok, Sem.run_ite, if_pos this]
  rfl
theorem bounds_run {lo hi : Option AV} {xl xh : Option Value} {len cap l h : Nat} {b : Bool} (hl : OV μ lo xl) (hh : OV μ hi xh) (el : bnd lo 0 = some l) (eh : bnd hi len = some h) (h1 : l ≤ h) (h2 : h ≤ cap) :
    (Instr.sliceBounds b len cap xl xh none).run T0.P w = .ok (l, h, cap) w := by
  unfold Instr.sliceBounds
  cases hi with
  | none => cases xh with
    | some x => exact hh.elim
    | none =>
      cases eh
      cases lo with
      | none => cases xl with
        | some x => exact hl.elim
        | none => cases el; simp
      | some v => cases xl with
        | none => exact hl.elim
        | some x => simp [bound_run (T0 := T0) (w := w) (c := .sliceB) hl el h1]
  | some u => cases xh with
    | none => exact hh.elim
    | some y =>
      have q1 : ∀ c, (Instr.sliceBound y cap c).run T0.P w = .ok h w := fun c => bound_run hh eh h2
      cases lo with
      | none => cases xl with
        | some x => exact hl.elim
        | none => cases el; simp [q1]
      | some v => cases xl with
        | none => exact hl.elim
        | some x => simp [q1, bound_run (T0 := T0) (w := w) (c := .sliceB) hl el h1]
end
end Ev
end Go.Proofs.Ytdofhlmffponoaa
/- Parts of texts and of slices: the operations. -/
set_option linter.unusedVariables false
set_option linter.unusedSimpArgs false
namespace Go.Proofs.Ytdofhlmffponoaa
namespace Ev
theorem bl_extract (s : ByteArray) (l h : Nat) : bl (s.extract l h) = ((bl s).drop l).take (h - l) := by
  simp only [bl, ByteArray.data_extract, Array.toList_extract, List.extract_eq_take_drop, List.map_take, List.map_drop]
section
variable {T0 : Tab} {w0 : Fx} {μ : Mu} {σ : AS} {a : Act} {w : World} {o : Oper}
theorem sliceAt_str {t : TypeId} {x : Value} {lo hi mx : Option Value} (hu : (underlying t).run T0.P w = .ok .string w) : (Instr.sliceAt t x lo hi mx).run T0.P w = (Instr.slice t x lo hi mx).run T0.P w := by
  simp only [Instr.sliceAt, Sem.run_bind, hu, Result.andThen_ok]
theorem sliceAt_sl {t e : TypeId} {x : Value} {lo hi mx : Option Value} (hu : (underlying t).run T0.P w = .ok (.slice e) w) : (Instr.sliceAt t x lo hi mx).run T0.P w = (Instr.slice t x lo hi mx).run T0.P w := by
  simp only [Instr.sliceAt, Sem.run_bind, hu, Result.andThen_ok]
theorem s_sliceS (hT : TabOk T0) (hR : HR w0 μ σ.hp σ.nx w) (hA : RT μ σ.tm a.tmps) {t : TypeId} {i : TyI} {x : Operand} {lo hi : Option Operand} (hi' : T0.t t = some i) (hd : dStr i.d = true)
    (ho : o.op = .slice t x lo hi none) {out : Out} (h : opSliceS σ x lo hi = some out) : OutOk T0 w0 μ w ((execOp a.eval o).run T0.P w) out := by
  obtain ⟨v, h1, h2⟩ := ob_some h
  obtain ⟨l, h3, h4⟩ := ob_some h2
  obtain ⟨k, h5, h6⟩ := ob_some h4
  obtain ⟨u, h7, rfl⟩ := valE_some h6
  obtain ⟨n, h8, h9⟩ := ob_some h7
  obtain ⟨s, h10, h11⟩ := ob_some h9
  obtain ⟨m, h12, h13⟩ := ob_some h11
  obtain ⟨h14, h15⟩ := cb_some h13
  obtain ⟨h16, h17⟩ := cb_some h15
  cases h17
  have hv := opnd_sound hA h1
  rw [asS_some h10] at hv
  obtain ⟨s', e1, e2⟩ := hv.str_inv
  have hsz : lenN s = s'.size := by rw [lenN_eq, ← e1, bl_length]
  rw [hsz] at h12 h16
  have hu := run_und (w := w) (hT.ty t i hi')
  rw [dStr_true hd] at hu
  have hb := bounds_run (T0 := T0) (w := w) (b := false) (okO_some hA h3) (okO_some hA h5) h8 h12 (ble_true h14) (ble_true h16)
  refine ok_pure hR (x := .string (s'.extract n m)) ?_ (.str (by rw [← e1, cutN_eq (bl_lt _) (by rw [bl_length]; have q1 := ble_true h14; have q2 := ble_true h16; show n + (m - n) ≤ _; omega), bl_extract]; rfl))
  simp only [execOp, ho, Sem.run_bind, Option.map_none, sliceAt_str hu, Instr.slice, hu, Result.andThen_ok, e2]
  simp [hb]
theorem s_slice (hT : TabOk T0) (hR : HR w0 μ σ.hp σ.nx w) (hA : RT μ σ.tm a.tmps) {t : TypeId} {q : TypeId × TyI} {x : Operand} {lo hi : Option Operand} (hq : elemI T0 t = some q)
    (ho : o.op = .slice t x lo hi none) {out : Out} (h : opSlice σ q.2.size x lo hi = some out) : OutOk T0 w0 μ w ((execOp a.eval o).run T0.P w) out := by
  obtain ⟨v, h1, h2⟩ := ob_some h
  obtain ⟨l, h3, h4⟩ := ob_some h2
  obtain ⟨k, h5, h6⟩ := ob_some h4
  obtain ⟨u, h7, rfl⟩ := valE_some h6
  obtain ⟨n, h8, h9⟩ := ob_some h7
  obtain ⟨⟨i, ht, hd⟩, hte⟩ := elemI_some hT hq
  have hu := run_und (w := w) ht
  rw [hd] at hu
  have hv := opnd_sound hA h1
  have hsz := run_size (w := w) hte
  -- what a slice of these bounds is
  have key : ∀ {b : Option Addr} {len cap m : Nat}, a.eval x = .slice b len cap → bnd k len = some m → n ≤ m → m ≤ cap →
      (execOp a.eval o).run T0.P w = .ok (.value (.slice (if cap = n then b else b.map (·.add (n * q.2.size))) (m - n) (cap - n))) w := by
    intro b len cap m hx hm hnm hmc
    have hb := bounds_run (T0 := T0) (w := w) (b := true) (okO_some hA h3) (okO_some hA h5) h8 hm hnm hmc
    simp only [execOp, ho, Sem.run_bind, Option.map_none, sliceAt_sl hu, Instr.slice, hu, Result.andThen_ok, hx]
    simp [hb, hsz]
  rcases oc_or h9 with ⟨_, g⟩ | ⟨s, g1, g2⟩
  · rcases oc_or g with ⟨_, g⟩ | ⟨s, g1, g2⟩
    · obtain ⟨g1, g2⟩ := cb_some g
      obtain ⟨m, g3, g4⟩ := ob_some g2
      obtain ⟨g5, g6⟩ := cb_some g4
      obtain ⟨g7, g8⟩ := cb_some g6
      cases g8
      rw [isSl0_true g1] at hv
      have hx : a.eval x = .slice none 0 0 := by generalize a.eval x = y at hv; cases hv; rfl
      have e1 := beq_true g5
      have e2 := beq_true g7
      subst e1; subst e2
      exact ok_pure hR (key hx g3 (Nat.le_refl _) (Nat.le_refl _)) (by simp; exact .sl0)
    · obtain ⟨m, g3, g4⟩ := ob_some g2
      obtain ⟨g5, g6⟩ := cb_some g4
      obtain ⟨g7, g8⟩ := cb_some g6
      cases g8
      rw [asSk_some g1] at hv
      generalize hx : a.eval x = y at hv
      cases hv with | slk e1 e2 =>
      rename_i lc
      refine ok_pure hR (key hx g3 (ble_true g5) (ble_true g7)) ?_
      have hle : m - n ≤ s.c - n := Nat.sub_le_sub_right (ble_true g7) n
      rcases tb_or (b := Nat.beq n s.c) (x := s.off) (y := Nat.add s.off (Nat.mul n q.2.size)) rfl with ⟨g9, g10⟩ | ⟨g9, g10⟩
      · rw [← g10, if_pos (beq_true g9).symm]
        exact .slk e1 hle
      · rw [← g10, if_neg (fun e => Nat.ne_of_beq_eq_false g9 e.symm)]
        simp only [Option.map_some, addr_add, Nat.add_assoc]
        exact .slk e1 hle
  · obtain ⟨m, g3, g4⟩ := ob_some g2
    obtain ⟨c, g5, g6⟩ := ob_some g4
    obtain ⟨k0, g6⟩ := cb_some g6
    obtain ⟨k1, g6⟩ := cb_some g6
    obtain ⟨k2, g6⟩ := cb_some g6
    obtain ⟨k3, g6⟩ := cb_some g6
    obtain ⟨k4, g6⟩ := cb_some g6
    cases g6
    rw [blt_eq] at k0
    have k0 : 0 < q.2.size := by simpa using k0
    have k1 := beq_true k1
    have k2 : s.off = s.c * q.2.size := beq_true k2
    have k3 := ble_true k3
    have k4 : s.off + m * q.2.size ≤ c.n := ble_true k4
    rw [asSu_some g1] at hv
    generalize hx : a.eval x = y at hv
    cases hv with | slu e1 e2 =>
    rename_i lc
    obtain ⟨lc', m', r⟩ := hR.live _ _ (cellsAt_some g5)
    rw [e1] at m'; cases m'
    obtain ⟨cs, _, _, ⟨_, r4⟩, _⟩ := r
    have r4 : c.n ≤ lc.cap * q.2.size := by
      rcases r4 with r4 | r4
      · omega
      · rw [k1] at r4; exact r4
    have hm : s.c + m ≤ lc.cap := by
      have : (s.c + m) * q.2.size ≤ lc.cap * q.2.size := by rw [Nat.add_mul]; omega
      exact Nat.le_of_mul_le_mul_right this k0
    refine ok_pure hR (key hx g3 k3 (by omega)) ?_
    rcases tb_or (b := Nat.blt (Nat.add s.off (Nat.mul n q.2.size)) c.n) (x := AV.slu s.b (Nat.add s.off (Nat.mul n q.2.size)) (Nat.sub m n) (Nat.add s.c n)) (y := AV.sle) rfl with ⟨g9, g10⟩ | ⟨g9, g10⟩
    · rw [← g10]
      rw [blt_eq] at g9
      have g9 : s.off + n * q.2.size < c.n := by simpa using g9
      have hn : s.c + n < lc.cap := by
        have : (s.c + n) * q.2.size < lc.cap * q.2.size := by rw [Nat.add_mul]; omega
        exact Nat.lt_of_mul_lt_mul_right this
      rw [if_neg (by omega)]
      simp only [Option.map_some, addr_add, Nat.add_assoc]
      rw [show lc.cap - s.c - n = lc.cap - (s.c + n) by omega]
      exact .slu e1 (show m - n + (s.c + n) ≤ lc.cap by omega)
    · rw [← g10]
      rw [blt_eq] at g9
      have g9 : ¬ (s.off + n * q.2.size < c.n) := by simpa using g9
      have hmn : m - n = 0 := by
        rcases Nat.lt_or_ge n m with q' | q'
        · have : (n + 1) * q.2.size ≤ m * q.2.size := Nat.mul_le_mul_right _ q'
          rw [Nat.add_mul] at this; omega
        · omega
      rw [hmn]
      split
      · exact .sle
      · exact .sle
end
end Ev
end Go.Proofs.Ytdofhlmffponoaa
