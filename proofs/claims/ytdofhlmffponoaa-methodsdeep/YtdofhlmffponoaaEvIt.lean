/- Going through texts and maps; conversions; what is called. -/
import Derived.Test.YtdofhlmffponoaaEvMp
import Derived.Laws.RangeString
import Derived.Laws.BytesString
set_option linter.unusedVariables false
set_option linter.unusedSimpArgs false
namespace Go.Proofs.Ytdofhlmffponoaa
namespace Ev
section
variable {T0 : Tab} {w0 : Fx} {μ : Mu} {σ : AS} {a : Act} {w : World} {o : Oper}
/-- A block that is no row is made. -/
theorem ok_newO {r : Result Next} {obj : Obj} {ao : AO} (hr : r = .ok (.value (.pointer (some ⟨w.heap.size, 0, none⟩))) { w with heap := w.heap.push obj })
    (h : ∀ (ν : Mu) (W : World), Mu.le μ ν → W.heap[w.heap.size]? = some obj → RO ν ⟨w.heap.size, 0, 0⟩ W ao) : OutOk T0 w0 μ w r (.nw (fun b => .ptr b 0) ao) :=
  ⟨_, obj, 0, hr, fun b hb => ⟨.ptr (l := ⟨w.heap.size, 0, 0⟩) (Mu.put_same _ _ _), h _ _ (Mu.le_put hb) (by simp)⟩⟩
theorem s_rangeS (hT : TabOk T0) (hA : RT μ σ.tm a.tmps) {t : TypeId} {i : TyI} {x : Operand} (hi : T0.t t = some i) (hd : dStr i.d = true) (ho : o.op = .range t x) {out : Out} (h : opRangeS σ x = some out) :
    OutOk T0 w0 μ w ((execOp a.eval o).run T0.P w) out := by
  obtain ⟨v, h1, h⟩ := ob_some h
  obtain ⟨s, h2, h⟩ := ob_some h
  cases h
  have hv := opnd_sound hA h1
  rw [asS_some h2] at hv
  obtain ⟨s', e1, e2⟩ := hv.str_inv
  have hu := (hT.ty t i hi).und
  rw [dStr_true hd] at hu
  refine ok_newO (obj := .stringIter s' 0) ?_ (fun ν W _ hW => ⟨rfl, s', e1, hW⟩)
  simp only [execOp, ho, Instr.range, Sem.run_bind, run_underlying hu, Result.andThen_ok, e2, Sem.run_pure]
  simp [newObj, Sem.run, Result.andThen]
theorem s_rangeM (hT : TabOk T0) (hR : HR w0 μ σ.hp σ.nx w) (hA : RT μ σ.tm a.tmps) {t e : TypeId} {i : TyI} {x : Operand} (hi : T0.t t = some i) (hd : dMap i.d = some e) (ho : o.op = .range t x) {out : Out} (h : opRangeM σ x = some out) :
    OutOk T0 w0 μ w ((execOp a.eval o).run T0.P w) out := by
  obtain ⟨v, h1, h⟩ := ob_some h
  obtain ⟨m, h2, h⟩ := ob_some h
  have hv := opnd_sound hA h1
  rw [asMap_some h2] at hv
  have hu := (hT.ty t i hi).und
  obtain ⟨k, hk⟩ := dMap_some hd
  rw [hk] at hu
  rcases oc_or (x := m) h with ⟨rfl, g⟩ | ⟨b, rfl, g⟩
  · cases g
    have e2 : a.eval x = .map none := by
      generalize a.eval x = y at hv
      cases hv; rfl
    refine ok_newO (obj := .mapIter none 0 #[] 0) ?_ (fun ν W _ hW => ⟨rfl, none, rfl, hW⟩)
    simp only [execOp, ho, Instr.range, Sem.run_bind, run_underlying hu, Result.andThen_ok, e2, Sem.run_pure]
    simp [newObj, Sem.run, Result.andThen]
  · obtain ⟨q, g1, g2⟩ := ob_some g
    cases g2
    generalize e2 : a.eval x = y at hv
    cases hv with | map e =>
    rename_i l
    obtain ⟨l', m1, E, r1, r2⟩ := hR.live _ _ (mapAt_some g1)
    rw [e] at m1; cases m1
    refine ok_newO (obj := .mapIter (some l.blk) q.clock #[] q.clock) ?_ (fun ν W le hW => ⟨rfl, some l.blk, ⟨l, le _ _ e, rfl⟩, hW⟩)
    simp only [execOp, ho, Instr.range, Sem.run_bind, run_underlying hu, Result.andThen_ok, e2, Sem.run_pure, run_getMap r1]
    simp [newObj, Sem.run, Result.andThen]
/-- What stands where an iterator points. -/
theorem itO_some (hR : HR w0 μ σ.hp σ.nx w) (hA : RT μ σ.tm a.tmps) {it : Operand} {q : Ib} (h : itO σ it = some q) : ∃ l, σ.hp.get q.b = some q.o ∧ μ q.b = some l ∧ RO μ l w q.o ∧ a.eval it = .pointer (some ⟨l.blk, l.base, none⟩) := by
  obtain ⟨p, h1, h⟩ := ob_some h
  obtain ⟨h2, h⟩ := cb_some h
  obtain ⟨o, h3, h⟩ := ob_some h
  cases h
  obtain ⟨l, g1, g2⟩ := ptO_some hA h1
  obtain ⟨l', m, r⟩ := hR.live _ _ h3
  rw [g1] at m; cases m
  have e : p.off = 0 := beq_true h2
  exact ⟨l, h3, g1, r, by rw [g2, e]; rfl⟩
theorem run_getStr {P : Program} {g pos : Nat} {s : ByteArray} (h : w.heap[g]? = some (.stringIter s pos)) : (getObj g).run P w = .ok (.stringIter s pos) w := by
  simp [getObj, Sem.run, h]
theorem run_setStr {P : Program} {g pos : Nat} {s : ByteArray} {x : Obj} (h : w.heap[g]? = some (.stringIter s pos)) : (setObj g x).run P w = .ok () { w with heap := w.heap.setIfInBounds g x } := by
  simp [setObj, Sem.run, h]
theorem run_getIt {P : Program} {g c l : Nat} {m : Option Nat} {s : Array Nat} (h : w.heap[g]? = some (.mapIter m c s l)) : (getObj g).run P w = .ok (.mapIter m c s l) w := by
  simp [getObj, Sem.run, h]
theorem run_setIt {P : Program} {g c l : Nat} {m : Option Nat} {s : Array Nat} {x : Obj} (h : w.heap[g]? = some (.mapIter m c s l)) : (setObj g x).run P w = .ok () { w with heap := w.heap.setIfInBounds g x } := by
  simp [setObj, Sem.run, h]
/-- An iterator goes on. -/
theorem it_write {H : T AO} {nx : Bn} (hR : HR w0 μ H nx w) {b : Bn} {o ao : AO} {l : Loc} (hb : H.get b = some o) (hl : μ b = some l) {obj : Obj}
    (h : ∀ W : World, W.heap[l.blk]? = some obj → RO μ l W ao) : HR w0 μ (H.put b (some ao)) nx { w with heap := w.heap.setIfInBounds l.blk obj } := by
  obtain ⟨l', m', r⟩ := hR.live _ _ hb
  rw [hl] at m'; cases m'
  have hlt := r.lt
  exact hR.write hb hl rfl rfl rfl (by simp) (fun i hi => by simp [Array.getElem?_setIfInBounds, Ne.symm hi]) (h _ (by simp [Array.getElem?_setIfInBounds, hlt]))
theorem s_nextS (hR : HR w0 μ σ.hp σ.nx w) (hA : RT μ σ.tm a.tmps) {it : Operand} (ho : o.op = .next it true) {out : Out} (h : opNextS σ it = some out) : OutOk T0 w0 μ w ((execOp a.eval o).run T0.P w) out := by
  obtain ⟨q, h1, h⟩ := ob_some h
  obtain ⟨s, h2, h⟩ := ob_some h
  obtain ⟨l, g1, g2, g3, g4⟩ := itO_some hR hA h1
  have e := asSi_some h2
  rw [e] at g3 g1
  obtain ⟨hb, s', r1, r2⟩ := g3
  rw [hb] at g4
  have hex : (execOp a.eval o).run T0.P w = ((Instr.next (.pointer (some ⟨l.blk, 0, none⟩)) true o.type).run T0.P w).andThen fun v w' => .ok (.value v) w' := by
    simp only [execOp, ho, Sem.run_bind, g4]; rfl
  have hsz : (bl s').length = s'.size := bl_length s'
  rcases oc_or (x := chrAt s.1 s.2) h with ⟨g, k⟩ | ⟨c, g, k⟩
  · cases k
    rw [← r1, chrAt_eq (bl_lt _)] at g
    have hge : ¬ s.2 < s'.size := fun q => by rw [List.getElem?_eq_getElem (by omega)] at g; cases g
    refine ok_pure hR (x := .tuple #[.bool false]) ?_ (.tup (.cons .bool .nil))
    rw [hex]
    unfold Instr.next
    simp only [Sem.run_bind, run_getStr r2, Result.andThen_ok, if_neg hge, Sem.run_pure]
  · obtain ⟨k1, k2⟩ := cb_some k
    cases k2
    rw [← r1, chrAt_eq (bl_lt _)] at g
    have hlt : s.2 < s'.size := by
      rcases Nat.lt_or_ge s.2 s'.size with z | z
      · exact z
      · rw [List.getElem?_eq_none (by omega)] at g; cases g
    have hc : (s'[s.2]'hlt).toNat = c := by
      have : (bl s')[s.2]? = some (s'[s.2]'hlt).toNat := by
        simp only [bl, List.getElem?_map, Array.getElem?_toList]
        rw [Array.getElem?_eq_getElem hlt]; rfl
      rw [this] at g; cases g; rfl
    have hasc : (s'[s.2]'hlt).toNat < 128 := by rw [hc]; rw [blt_eq] at k1; simpa using k1
    have hdec := decode_ascii s' s.2 hlt hasc
    refine ⟨.tuple #[.bool true, .int .i64 (s.2 : Int), .int .i32 (c : Int)], _, μ, .inl ?_, .refl μ, it_write hR g1 g2 (obj := .stringIter s' (s.2 + 1)) (fun W hW => ⟨hb, s', r1, hW⟩), .tup (.cons .bool (.cons .int (.cons .int .nil)))⟩
    rw [hex]
    unfold Instr.next
    simp only [Sem.run_bind, run_getStr r2, Result.andThen_ok, if_pos hlt, hdec, run_setStr r2, Sem.run_pure, hc]
    rfl
theorem memN_eq (i : Nat) : ∀ l : List Nat, memN i l = l.contains i
  | [] => rfl
  | j :: l => by
    show tb (Nat.beq i j) true (memN i l) = _
    rw [memN_eq i l, List.contains_cons]
    cases h : Nat.beq i j with
    | true => rw [Nat.eq_of_beq_eq_true h]; simp [tb_true]
    | false => have := Nat.ne_of_beq_eq_false h; simp [tb_false, this]
theorem ble_eq (m n : Nat) : Nat.ble m n = decide (m ≤ n) := by
  cases h : Nat.ble m n with
  | true => have := Nat.le_of_ble_eq_true h; simp [this]
  | false => have : ¬ m ≤ n := fun q => by rw [Nat.ble_eq_true_of_le q] at h; cases h
             simp [this]
/-- The entries that are left. -/
theorem leftE_sound {old : Bool} {since : Nat} {seen : List Nat} : ∀ {es : List Me} {E : List MapEntry}, RE μ es E → RE μ (leftE old since seen es) ((E.filter fun e => !seen.contains e.born).filter (fun e => decide (e.born < since) == old))
  | _, _, .nil => .nil
  | q :: es, e :: E, .cons a b c d => by
    have ih := leftE_sound (old := old) (since := since) (seen := seen) d
    show RE μ (tb (memN q.born seen) (leftE old since seen es) (tb (eqB (Nat.blt q.born since) old) (q :: leftE old since seen es) (leftE old since seen es))) _
    rw [memN_eq, c, List.filter_cons]
    cases h1 : seen.contains e.born with
    | true => simpa [tb_true] using ih
    | false =>
      simp only [tb_false, Bool.not_false, if_true, List.filter_cons]
      rw [eqB_eq, blt_eq]
      cases h2 : (decide (e.born < since) == old) with
      | true => simp only [tb_true, if_true]; exact .cons a b c ih
      | false => simp only [tb_false, Bool.false_eq_true, if_false]; exact ih
theorem RE.append : ∀ {es es' : List Me} {E E' : List MapEntry}, RE μ es E → RE μ es' E' → RE μ (es ++ es') (E ++ E')
  | _, _, _, _, .nil, h => h
  | _, _, _, _, .cons a b c d, h => .cons a b c (d.append h)
theorem RE.nil_iff : ∀ {es : List Me} {E : List MapEntry}, RE μ es E → isNilL es = E.isEmpty
  | _, _, .nil => rfl
  | _, _, .cons _ _ _ _ => rfl
theorem lateE_sound {last : Nat} : ∀ {es : List Me} {E : List MapEntry}, RE μ es E → lateE last es = E.all (fun e => decide (e.born ≥ last))
  | _, _, .nil => rfl
  | q :: es, e :: E, .cons a b c d => by
    show tb (Nat.ble last q.born) (lateE last es) false = _
    rw [lateE_sound d, ble_eq, c, List.all_cons]
    cases h : decide (last ≤ e.born) with
    | true => simp [tb_true]
    | false => simp [tb_false]
theorem picksE_at {hp : T AO} {it : Bn} {q : Mi} {clock : Nat} : ∀ {es : List Me} {E : List MapEntry} {j : Nat} {e : MapEntry}, RE μ es E → E[j]? = some e →
    ∃ m ∈ es, RV μ m.k e.key ∧ RV μ m.v e.val ∧ m.born = e.born ∧ (.tup [.bool true, m.k, m.v], hp.put it (some (.miter q.m q.since (m.born :: q.seen) clock))) ∈ picksE hp it q clock es
  | [], _, j, e, .nil, h => by simp at h
  | q' :: es, e' :: E, 0, e, .cons a b c d, h => by
    simp at h; subst h
    exact ⟨q', by simp, a, b, c, List.Mem.head _⟩
  | q' :: es, e' :: E, j + 1, e, .cons a b c d, h => by
    simp at h
    obtain ⟨m, h1, h2, h3, h4, h5⟩ := picksE_at (hp := hp) (it := it) (q := q) (clock := clock) d h
    exact ⟨m, by simp [h1], h2, h3, h4, List.Mem.tail _ h5⟩
theorem s_nextM (hR : HR w0 μ σ.hp σ.nx w) (hA : RT μ σ.tm a.tmps) {it : Operand} (ho : o.op = .next it false) {out : Out} (h : opNextM σ it = some out) : OutOk T0 w0 μ w ((execOp a.eval o).run T0.P w) out := by
  obtain ⟨q, h1, h⟩ := ob_some h
  obtain ⟨s, h2, h⟩ := ob_some h
  obtain ⟨l, g1, g2, g3, g4⟩ := itO_some hR hA h1
  have e := asMi_some h2
  rw [e] at g3 g1
  obtain ⟨hb, x, r1, r2⟩ := g3
  rw [hb] at g4
  have hex : (execOp a.eval o).run T0.P w = ((Instr.next (.pointer (some ⟨l.blk, 0, none⟩)) false o.type).run T0.P w).andThen fun v w' => .ok (.value v) w' := by
    simp only [execOp, ho, Sem.run_bind, g4]; rfl
  rcases oc_or (x := s.m) h with ⟨hm, k⟩ | ⟨m, hm, k⟩
  · cases k
    rw [hm] at r1
    have r1 : x = none := r1
    subst r1
    refine ok_pure hR (x := .tuple #[.bool false]) ?_ (.tup (.cons .bool .nil))
    rw [hex]
    unfold Instr.next
    simp only [Sem.run_bind, run_getIt r2, Result.andThen_ok, Sem.run_pure]
  · obtain ⟨mp, k1, k2⟩ := ob_some k
    obtain ⟨k3, k4⟩ := cb_some k2
    cases k4
    rw [hm] at r1
    obtain ⟨lm, t1, rfl⟩ := r1
    obtain ⟨lm', m1, E, u1, u2⟩ := hR.live _ _ (mapAt_some k1)
    rw [t1] at m1; cases m1
    -- the candidates
    have hold := leftE_sound (old := true) (since := s.since) (seen := s.seen) u2
    have hnew := leftE_sound (old := false) (since := s.since) (seen := s.seen) u2
    generalize hO : (E.filter fun e => !s.seen.contains e.born).filter (fun e => decide (e.born < s.since) == true) = O at hold
    generalize hN : (E.filter fun e => !s.seen.contains e.born).filter (fun e => decide (e.born < s.since) == false) = N at hnew
    have hcond : (!s.seen.reverse.toArray.isEmpty && !E.toArray.isEmpty && E.toArray.all (fun e => decide (e.born ≥ s.last))) = false := by
      rw [lateE_sound u2, u2.nil_iff] at k3
      have e1 : isNilL s.seen = s.seen.isEmpty := by cases s.seen <;> rfl
      rw [e1, notB_eq] at k3
      have e2 : s.seen.reverse.toArray.isEmpty = s.seen.isEmpty := by cases s.seen <;> simp
      have e3 : E.toArray.isEmpty = E.isEmpty := by cases E <;> rfl
      have e4 : E.toArray.all (fun e => decide (e.born ≥ s.last)) = E.all (fun e => decide (e.born ≥ s.last)) := by simp
      rw [e2, e3, e4]
      revert k3
      cases s.seen.isEmpty <;> cases E.isEmpty <;> cases E.all (fun e => decide (e.born ≥ s.last)) <;> first | (intro; rfl) | (intro z; cases z)
    have hcand : ((if (((E.toArray.filter fun e => !s.seen.reverse.toArray.contains e.born).filter (fun e => decide (e.born < s.since))).isEmpty) = true then #[none] else #[]) ++
        ((E.toArray.filter fun e => !s.seen.reverse.toArray.contains e.born).filter (fun e => decide (e.born < s.since)) ++ (E.toArray.filter fun e => !s.seen.reverse.toArray.contains e.born).filter (fun e => decide (e.born ≥ s.since))).map some : Array (Option MapEntry)) =
        ((if O.isEmpty then [none] else []) ++ (O ++ N).map some).toArray := by
      have p1 : (fun e : MapEntry => !s.seen.reverse.toArray.contains e.born) = (fun e => !s.seen.contains e.born) := by funext e; simp
      have p2 : (fun e : MapEntry => decide (e.born < s.since)) = (fun e => decide (e.born < s.since) == true) := by funext e; simp
      have p3 : (fun e : MapEntry => decide (e.born ≥ s.since)) = (fun e => decide (e.born < s.since) == false) := by
        funext e
        by_cases z : e.born < s.since
        · have : ¬ s.since ≤ e.born := by omega
          simp [z, this]
        · have : s.since ≤ e.born := by omega
          simp [z, this]
      rw [p1, p3, p2]
      simp only [List.filter_toArray, hO, hN]
      cases O <;> simp
    generalize hC : ((if O.isEmpty then [none] else []) ++ (O ++ N).map some : List (Option MapEntry)) = C at hcand
    have hpos : 0 < C.length := by
      rw [← hC]
      cases O <;> simp
    have hrun : (Instr.next (.pointer (some ⟨l.blk, 0, none⟩)) false o.type).run T0.P w = ((choose (.mapNext C.length)).run T0.P w).andThen fun j w1 => (match C[j]? with
        | some (some e) => ((do setObj l.blk (.mapIter (some lm.blk) s.since (s.seen.reverse.toArray.push e.born) mp.clock); pure (.tuple #[.bool true, e.key, e.val]) : Sem Value)).run T0.P w1
        | some none => .ok (.tuple #[.bool false]) w1
        | none => (stuck "Next: no such candidate" : Sem Value).run T0.P w1) := by
      unfold Instr.next
      simp only [Sem.run_bind, run_getIt r2, Result.andThen_ok, Sem.run_pure, run_getMap u1, hcond, Bool.false_eq_true, if_false, hcand]
      simp only [List.size_toArray, List.getElem?_toArray]
      congr 1
      funext j w1
      cases C[j]? with
      | none => rfl
      | some y =>
        cases y with
        | none => rfl
        | some e => simp only [Sem.run_bind, Sem.run_pure]
    obtain ⟨j, w1, c1, c2, c3, c4, c5, c6⟩ : ∃ j w1, (choose (.mapNext C.length)).run T0.P w = .ok j w1 ∧ j < C.length ∧ w1.heap = w.heap ∧ w1.os = w.os ∧ w1.tape = w.tape ∧ w1.output = w.output := by
      rw [run_choose]
      by_cases z : (Question.mapNext C.length).forced = true
      · rw [if_pos z]; exact ⟨0, w, rfl, hpos, rfl, rfl, rfl, rfl⟩
      · rw [if_neg z]; exact ⟨_, _, rfl, Nat.mod_lt _ hpos, rfl, rfl, rfl, rfl⟩
    have hR1 : HR w0 μ σ.hp σ.nx w1 := hR.same c3 c4 c5 c6
    have r2' : w1.heap[l.blk]? = some (.mapIter (some lm.blk) s.since s.seen.reverse.toArray s.last) := by rw [c3]; exact r2
    have hmem : ∀ e : MapEntry, C[j]? = some (some e) → ∃ i : Nat, (O ++ N)[i]? = some e := by
      intro e he
      have hin := List.mem_of_getElem? he
      rw [← hC] at hin
      have : some e ∈ (O ++ N).map some := by
        rcases List.mem_append.1 hin with z | z
        · exfalso
          split at z
          · simp at z
          · simp at z
        · exact z
      obtain ⟨e', z1, z2⟩ := List.mem_map.1 this
      cases z2
      obtain ⟨i, z3⟩ := List.getElem?_of_mem z1
      exact ⟨i, z3⟩
    have hon : RE μ (appN (leftE true s.since s.seen mp.es) (leftE false s.since s.seen mp.es)) (O ++ N) := by rw [appN_eq]; exact hold.append hnew
    have hone : isNilL (leftE true s.since s.seen mp.es) = O.isEmpty := hold.nil_iff
    cases hcj : C[j]? with
    | none => rw [List.getElem?_eq_none_iff] at hcj; omega
    | some y =>
      cases y with
      | none =>
        have hO : O.isEmpty = true := by
          cases hz : O.isEmpty with
          | true => rfl
          | false =>
            rw [hz] at hC
            have := List.mem_of_getElem? hcj
            rw [← hC] at this
            simp at this
        refine ⟨overE σ, ?_, .tuple #[.bool false], w1, μ, ?_, .refl μ, hR1, .tup (.cons .bool .nil)⟩
        · rw [hone, hO]; exact List.Mem.head _
        · rw [hex, hrun, c1]
          simp only [Result.andThen_ok, hcj]
      | some e =>
        obtain ⟨i, hi⟩ := hmem e hcj
        have fin : ∀ (ls : List (AV × T AO)) (es : List Me) (E' : List MapEntry) (i' : Nat), RE μ es E' → E'[i']? = some e → (∀ p ∈ picksE σ.hp q.b s mp.clock es, p ∈ ls) → ∃ p ∈ ls, ∃ x w' μ', (execOp a.eval o).run T0.P w = .ok (.value x) w' ∧ Mu.le μ μ' ∧ HR w0 μ' p.2 σ.nx w' ∧ RV μ' p.1 x := by
          intro ls es E' i' hre hi' hsub
          obtain ⟨m0, y1, y2, y3, y4, y5⟩ := picksE_at (hp := σ.hp) (it := q.b) (q := s) (clock := mp.clock) hre hi'
          refine ⟨_, hsub _ y5, .tuple #[.bool true, e.key, e.val], { w1 with heap := w1.heap.setIfInBounds l.blk (.mapIter (some lm.blk) s.since (s.seen.reverse.toArray.push e.born) mp.clock) }, μ, ?_, .refl μ, ?_, .tup (.cons .bool (.cons y2 (.cons y3 .nil)))⟩
          · rw [hex, hrun, c1]
            simp only [Result.andThen_ok, hcj, Sem.run_bind, run_setIt r2', Sem.run_pure]
          · refine it_write hR1 g1 g2 (fun W hW => ⟨hb, some lm.blk, by rw [hm]; exact ⟨lm, t1, rfl⟩, ?_⟩)
            rw [hW, y4]
            simp
        show ∃ p ∈ _, ∃ x w' μ', _
        rw [hone]
        cases hz : O.isEmpty with
        | true =>
          have : O = [] := by simpa using hz
          rw [this] at hi
          exact fin _ _ N i hnew (by simpa using hi) (fun p hp => List.Mem.tail _ hp)
        | false => exact fin _ _ (O ++ N) i hon hi (fun p hp => hp)
end
end Ev
end Go.Proofs.Ytdofhlmffponoaa
