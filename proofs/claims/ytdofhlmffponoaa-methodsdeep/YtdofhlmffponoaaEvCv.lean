/- Entries of maps; conversions; calls of values and methods; assertions. -/
import Derived.Test.YtdofhlmffponoaaEvIt
set_option linter.unusedVariables false
set_option linter.unusedSimpArgs false
namespace Go.Proofs.Ytdofhlmffponoaa
namespace Ev
section
variable {T0 : Tab} {w0 : Fx} {μ : Mu} {σ : AS} {a : Act} {w : World} {o : Oper}
theorem bornE_sound {b : Nat} : ∀ {es : List Me} {E : List MapEntry} {m : Me}, RE μ es E → bornE b es = some m → ∃ e, E.find? (fun e => e.born == b) = some e ∧ RV μ m.k e.key ∧ RV μ m.v e.val
  | [], _, m, _, h => by cases h
  | q :: es, e :: E, m, .cons x y z r, h => by
    rcases tb_or (b := Nat.beq q.born b) (x := some q) (y := bornE b es) (r := some m) h with ⟨h1, h2⟩ | ⟨h1, h2⟩
    · cases h2
      have : e.born = b := by rw [← z]; exact beq_true h1
      exact ⟨e, by simp [List.find?_cons, this], x, y⟩
    · obtain ⟨e', g1, g2⟩ := bornE_sound r h2
      have : (e.born == b) = false := by rw [← z]; have := Nat.ne_of_beq_eq_false h1; simpa using this
      exact ⟨e', by simp only [List.find?_cons, this]; exact g1, g2⟩
theorem s_entry (hR : HR w0 μ σ.hp σ.nx w) (hA : RT μ σ.tm a.tmps) {it : Operand} (ho : o.op = .entry it) {out : Out} (h : opEntry σ it = some out) : OutOk T0 w0 μ w ((execOp a.eval o).run T0.P w) out := by
  obtain ⟨q, h1, h⟩ := ob_some h
  obtain ⟨s, h2, h⟩ := ob_some h
  obtain ⟨m, hm, h⟩ := ob_some (x := s.m) h
  obtain ⟨i, hi, h⟩ := ob_some h
  obtain ⟨mp, k1, h⟩ := ob_some h
  obtain ⟨k2, h⟩ := cb_some h
  obtain ⟨me, k3, h⟩ := ob_some h
  cases h
  obtain ⟨l, g1, g2, g3, g4⟩ := itO_some hR hA h1
  have e := asMi_some h2
  rw [e] at g3 g1
  obtain ⟨hb, x, r1, r2⟩ := g3
  rw [hb] at g4
  rw [hm] at r1
  obtain ⟨lm, t1, rfl⟩ := r1
  obtain ⟨lm', m1, E, u1, u2⟩ := hR.live _ _ (mapAt_some k1)
  rw [t1] at m1; cases m1
  obtain ⟨en, y1, y2, y3⟩ := bornE_sound u2 k3
  have hbk : s.seen.reverse.toArray.back? = some i := by
    cases hs : s.seen with
    | nil => rw [hs] at hi; cases hi
    | cons z zs => rw [hs] at hi; cases hi; simp
  have hcl : mp.clock = s.last := beq_true k2
  refine ok_pure hR (x := .tuple #[en.key, en.val]) ?_ (.tup (.cons y2 (.cons y3 .nil)))
  have hf : E.toArray.find? (fun e => e.born == i) = some en := by simpa using y1
  have hex : (execOp a.eval o).run T0.P w = ((Instr.entry (.pointer (some ⟨l.blk, 0, none⟩))).run T0.P w).andThen fun v w' => .ok (.value v) w' := by
    simp only [execOp, ho, Sem.run_bind, g4]; rfl
  rw [hex]
  unfold Instr.entry
  have hne : (mp.clock != s.last) = false := by rw [hcl]; simp
  simp only [Sem.run_bind, run_getIt r2, Result.andThen_ok, hbk, run_getMap u1, hne, Bool.false_eq_true, if_false, hf, Sem.run_pure]
/-- Bytes as a text. -/
theorem bytesE_sound : ∀ {l : List AV} {s : List Nat} {xs : List Value}, bytesE l = some s → RVs μ l xs → ∃ ns : List Int, xs = ns.map (Value.int .u8) ∧ ns.map (fun n => (UInt8.ofNat n.toNat).toNat) = s
  | [], s, _, h, .nil => by cases h; exact ⟨[], rfl, rfl⟩
  | v :: l, s, _, h, .cons (x := x) (xs := xs) r1 r2 => by
    obtain ⟨p, h1, h2⟩ := ob_some (x := asI v) h
    obtain ⟨h3, h4⟩ := cb_some h2
    obtain ⟨n, h5, h6⟩ := ob_some h4
    obtain ⟨h7, h8⟩ := cb_some h6
    obtain ⟨r, h9, h10⟩ := ob_some (x := bytesE l) h8
    cases h10
    obtain ⟨ns, e1, e2⟩ := bytesE_sound h9 r2
    rw [asI_some h1] at r1
    have hx : x = .int p.1 p.2 := r1.int_inv
    have hn : p.2 = (n : Int) := natI_some h5
    have hk : p.1 = .u8 := kindEq_true h3
    have hlt : n < 256 := by rw [blt_eq] at h7; simpa using h7
    refine ⟨(n : Int) :: ns, by rw [hx, hn, hk, e1]; rfl, ?_⟩
    simp only [List.map_cons, e2, Int.toNat_natCast]
    congr 1
    simp [Nat.mod_eq_of_lt hlt]
theorem foldl_push : ∀ (ns : List Int) (s : ByteArray), bl (ns.foldl (fun r n => r.push (UInt8.ofNat n.toNat)) s) = bl s ++ ns.map (fun n => (UInt8.ofNat n.toNat).toNat)
  | [], s => by simp
  | n :: ns, s => by
    rw [List.foldl_cons, foldl_push ns, List.map_cons]
    simp [bl, ByteArray.push]
theorem dByte_true {d : TypeDesc} (h : dByte d = true) : d = .int .u8 := by
  unfold dByte at h
  split at h
  · rfl
  · cases h
theorem dUns_true {d : TypeDesc} (h : dUns d = true) : d = .unsafePointer := by cases d <;> first | rfl | cases h
theorem shape_of {g : Nat} {cs : Array Value} {el : TypeId} {z : Nat × Nat} (h : w.heap[g]? = some (.cells cs el z)) : w.shape? g = some (el, cs.size) := by simp [World.shape?, h]
/-- A pointer becomes one to anything. -/
theorem uns_to (hR : HR w0 μ σ.hp σ.nx w) {src dst : TypeId} {v r : AV} {y : Value} {R : Result Next} (hv : RV μ v y) (hd : T0.P.underlying dst = some .unsafePointer) (h : toUns T0.P σ.hp src v = some r)
    (hex : ∀ z, (convert src dst y).run T0.P w = .ok z w → R = .ok (.value z) w) : OutOk T0 w0 μ w R (.pv r) := by
  obtain ⟨p, h1, h⟩ := ob_some h
  obtain ⟨c, h2, h⟩ := ob_some h
  obtain ⟨h3, h⟩ := cb_some h
  obtain ⟨h4, h⟩ := cb_some h
  cases h
  have hv' := hv
  rw [asPt_some h1] at hv'
  cases hv' with | ptr e1 =>
  obtain ⟨l', m1, cs, g1, g2, _, _⟩ := hR.live _ _ (cellsAt_some h2)
  rw [e1] at m1; cases m1
  rw [blt_eq] at h3
  have h3 : p.off < c.n := by simpa using h3
  unfold sizedT at h4
  split at h4
  · rename_i te hu
    split at h4
    · rename_i i hi
      have hz : i.size ≠ 0 := fun e => by rw [e] at h4; cases h4
      refine ok_pure hR (hex _ ?_) hv
      exact Lib.run_to_unsafe w _ hu hd hi hz (shape_of g1) (by show _ + p.off < cs.size; omega)
    · cases h4
  · cases h4
/-- .. and one of a type again, where such a variable lies. -/
theorem uns_from (hR : HR w0 μ σ.hp σ.nx w) {src dst : TypeId} {v r : AV} {y : Value} {R : Result Next} (hv : RV μ v y) (hs : T0.P.underlying src = some .unsafePointer) (h : fromUns T0.P σ.hp dst v = some r)
    (hex : ∀ z, (convert src dst y).run T0.P w = .ok z w → R = .ok (.value z) w) : OutOk T0 w0 μ w R (.pv r) := by
  obtain ⟨p, h1, h⟩ := ob_some h
  obtain ⟨c, h2, h⟩ := ob_some h
  obtain ⟨h3, h⟩ := cb_some h
  obtain ⟨h4, h⟩ := cb_some h
  obtain ⟨h5, h⟩ := cb_some h
  cases h
  have hv' := hv
  rw [asPt_some h1] at hv'
  cases hv' with | ptr e1 =>
  obtain ⟨l', m1, cs, g1, g2, g3, _⟩ := hR.live _ _ (cellsAt_some h2)
  rw [e1] at m1; cases m1
  rw [blt_eq] at h4
  have h4 : 0 < c.n := by simpa using h4
  have h3 := beq_true h3
  rw [h3, Nat.mul_zero] at g3
  obtain ⟨_, hb, hn⟩ : _ ∧ _ ∧ _ := g3.2.resolve_right (by omega)
  unfold liesT0 at h5
  split at h5
  · rename_i u hu
    split at h5
    · rename_i i hi
      refine ok_pure hR (hex _ ?_) hv
      exact Lib.run_from_unsafe w _ hs hu hi (shape_of g1) (by rw [hb, hn, Nat.zero_add]; exact h5)
    · cases h5
  · cases h5
theorem s_conv (hT : TabOk T0) (hR : HR w0 μ σ.hp σ.nx w) (hA : RT μ σ.tm a.tmps) {src dst : TypeId} {k : Nat} {x : Operand} (hk : convK T0 src dst = some k) (ho : o.op = .convert src dst x) {out : Out}
    (h : (ob (opnd σ.tm x) fun v => valE σ (convE T0.P σ.hp k src dst v)) = some out) : OutOk T0 w0 μ w ((execOp a.eval o).run T0.P w) out := by
  obtain ⟨v, h1, h2⟩ := ob_some h
  obtain ⟨r, h3, rfl⟩ := valE_some h2
  have hv := opnd_sound hA h1
  have hex : ∀ y, (convert src dst (a.eval x)).run T0.P w = .ok y w → (execOp a.eval o).run T0.P w = .ok (.value y) w := fun y hy => by
    simp only [execOp, ho, Sem.run_bind, hy]; rfl
  obtain ⟨si, s1, hk⟩ := ob_some hk
  obtain ⟨di, d1, hk⟩ := ob_some hk
  have hs := (hT.ty src si s1).und
  have hd := (hT.ty dst di d1).und
  have int : (ob (asI v) fun a => ob (pureRun T0.P (convert src dst (.int a.1 a.2))) fun v => ob (cv1 v) fun r => ob (asI r) fun _ => some r) = some r → OutOk T0 w0 μ w ((execOp a.eval o).run T0.P w) (.pv r) := fun h => by
    obtain ⟨p, g1, g2⟩ := ob_some h
    obtain ⟨y, g3, g4⟩ := ob_some g2
    obtain ⟨q, g5, g6⟩ := ob_some g4
    obtain ⟨_, _, g8⟩ := ob_some g6
    cases g8
    rw [asI_some g1] at hv
    have hx : a.eval x = .int p.1 p.2 := hv.int_inv
    exact ok_pure hR (hex y (by rw [hx]; exact pureRun_run g3 w)) (cv1_sound μ g5)
  rcases tb_or (b := dStr di.d) hk with ⟨k1, k2⟩ | ⟨_, k2⟩
  · have hd' : di.d = .string := dStr_true k1
    rw [hd'] at hd
    rcases tb_or (b := dStr si.d) k2 with ⟨k3, k4⟩ | ⟨_, k4⟩
    · cases k4
      have hs' : si.d = .string := dStr_true k3
      rw [hs'] at hs
      obtain ⟨l, g1, g2⟩ := ob_some (show (ob (asS v) fun l => some (.str l)) = some r from h3)
      cases g2
      rw [asS_some g1] at hv
      obtain ⟨s, e1, e2⟩ := hv.str_inv
      refine ok_pure hR (hex (.string s) ?_) (.str e1)
      rw [e2]
      simp [convert, run_underlying hs, run_underlying hd]
    · obtain ⟨e, k5, k6⟩ := ob_some k4
      obtain ⟨ei, k7, k8⟩ := ob_some k6
      obtain ⟨k9, k10⟩ := cb_some k8
      cases k10
      rw [dSlice_some k5] at hs
      have he := (hT.ty e ei k7).und
      rw [dByte_true k9] at he
      rcases oc_or (show oc (asS v) (ob (sliceCells σ.hp 1 v) fun l => ob (bytesE l) fun s => some (.str s)) (fun _ => none) = some r from h3) with ⟨q0, h3⟩ | ⟨_, _, h3⟩
      rotate_left
      · cases h3
      obtain ⟨l, g1, g2⟩ := ob_some h3
      obtain ⟨s, g3, g4⟩ := ob_some g2
      cases g4
      rcases oc_or g1 with ⟨q, g⟩ | ⟨sl, q1, q2⟩
      · rw [q0] at g
        obtain ⟨y1, y2⟩ := cb_some (show cb (noEl v) (some []) = some l from g)
        cases y2
        cases g3
        clear q q0 g g1 h3 g2 h2 int h
        generalize hx : a.eval x = y at hv
        cases hv <;> first | (cases y1; done) | skip
        · refine ok_pure hR (hex (.string .empty) ?_) (.str rfl)
          rw [hx, run_convert_bytes_string w src dst e none 0 0 hs he hd]
          rfl
        · refine ok_pure hR (hex (.string .empty) ?_) (.str rfl)
          rw [hx, run_convert_bytes_string w src dst e _ _ _ hs he hd]
          rw [run_bytesToString w _ 0 _ [] (run_loadCells_list (P := T0.P) w _ [] (fun j v h => by simp at h))]
          rfl
      · obtain ⟨lc, c, e1, e2⟩ := hv.sl_inv q1
        obtain ⟨xs, y1, y2, y3⟩ := readSl_sound (T0 := T0) hR q2 e1
        obtain ⟨ns, z1, z2⟩ := bytesE_sound g3 y2
        have hld := y1 w rfl
        rw [Nat.mul_one] at hld
        rw [z1] at hld
        refine ok_pure hR (hex (.string (ns.foldl (fun r n => r.push (UInt8.ofNat n.toNat)) ByteArray.empty)) ?_) (.str (l := s) ?_)
        · rw [e2, run_convert_bytes_string w src dst e _ _ _ hs he hd]
          exact run_bytesToString w _ _ _ ns hld
        · rw [foldl_push, z2]; rfl
  · rcases tb_or (b := dUns di.d) k2 with ⟨k3, k4⟩ | ⟨_, k4⟩
    · obtain ⟨e, k5, k6⟩ := ob_some k4
      cases k6
      rw [dUns_true k3] at hd
      exact uns_to hR hv hd (show toUns T0.P σ.hp src v = some r from h3) hex
    · rcases tb_or (b := dUns si.d) k4 with ⟨k3, k4⟩ | ⟨_, k4⟩
      · obtain ⟨e, k5, k6⟩ := ob_some k4
        cases k6
        rw [dUns_true k3] at hs
        exact uns_from hR hv hs (show fromUns T0.P σ.hp dst v = some r from h3) hex
      · cases k4
        exact int h3
theorem foldlM_two {f : Value → Value → Sem Value} {x y : Value} : ((⟨[x, y]⟩ : Array Value).toList.tail.foldlM f x).run T0.P w = (f x y).run T0.P w := by
  simp
theorem s_min (hR : HR w0 μ σ.hp σ.nx w) (hA : RT μ σ.tm a.tmps) {c : Call} {mx : Bool} {l : List AV} {x y : AV} (hc : c.callee = .builtin (if mx then .max else .min)) (ho : o.op = .call c)
    (hl : opnds σ.tm c.args.toList = some l) (hn : Nat.beq (lenN l) 2 = true) (h0 : nthO l 0 = some x) (h1 : nthO l 1 = some y) {out : Out} (h : valE σ (minE mx x y) = some out) :
    OutOk T0 w0 μ w ((execOp a.eval o).run T0.P w) out := by
  obtain ⟨r, h2, rfl⟩ := valE_some h
  obtain ⟨p, g1, h2⟩ := ob_some h2
  obtain ⟨q, g2, h2⟩ := ob_some h2
  obtain ⟨g3, h2⟩ := cb_some h2
  cases h2
  obtain ⟨xv, a1, a2⟩ := args_at hA hl h0
  obtain ⟨yv, a3, a4⟩ := args_at hA hl h1
  rw [asI_some g1] at a2; rw [asI_some g2] at a4
  have a2 := a2.int_inv
  have a4 := a4.int_inv
  subst a2; subst a4
  have hlen : (c.args.map a.eval).toList = [.int p.1 p.2, .int q.1 q.2] := by
    have e1 := (opnds_sound hA hl).length
    have e2 : l.length = 2 := by rw [← lenN_eq]; exact beq_true hn
    apply List.ext_getElem?
    intro i
    match i with
    | 0 => simpa using a1
    | 1 => simpa using a3
    | i + 2 =>
      rw [List.getElem?_eq_none (by simp at e1 ⊢; omega)]
      simp
  obtain ⟨cs, hrun⟩ := run_builtin (T0 := T0) (a := a) (w := w) hc ho
  have hk := kindEq_true g3
  cases mx with
  | false =>
    refine ok_pure hR (x := .int p.1 (if q.2 < p.2 then q.2 else p.2)) ?_ ?_
    · rw [hrun]
      simp only [builtin, Bool.false_eq_true, if_false, Builtin.min_, hlen, Sem.run_bind]
      simp [Builtin.min2]
    · show RV μ (.int p.1 (tb (tb false (ltInt p.2 q.2) (ltInt q.2 p.2)) q.2 p.2)) _
      rw [tb_false, ltInt_eq]
      by_cases z : q.2 < p.2
      · simp only [z, decide_true, tb_true, if_true]; exact .int
      · simp only [z, decide_false, tb_false, if_false]; exact .int
  | true =>
    refine ok_pure hR (x := .int p.1 (if p.2 < q.2 then q.2 else p.2)) ?_ ?_
    · rw [hrun]
      simp only [builtin, if_true, Builtin.max_, hlen, Sem.run_bind]
      simp [Builtin.max2]
    · show RV μ (.int p.1 (tb (tb true (ltInt p.2 q.2) (ltInt q.2 p.2)) q.2 p.2)) _
      rw [tb_true, ltInt_eq]
      by_cases z : p.2 < q.2
      · simp only [z, decide_true, tb_true, if_true]; exact .int
      · simp only [z, decide_false, tb_false, if_false]; exact .int
theorem s_lenM (hT : TabOk T0) (hR : HR w0 μ σ.hp σ.nx w) (hA : RT μ σ.tm a.tmps) {c : Call} {t e : TypeId} {i : TyI} {l : List AV} {v : AV} (hc : c.callee = .builtin .len) (ho : o.op = .call c) (ht : headL c.argTypes.toList = some t)
    (hi : T0.t t = some i) (hd : dMap i.d = some e) (hl : opnds σ.tm c.args.toList = some l) (h0 : nthO l 0 = some v) {out : Out} (h : lenM σ v = some out) : OutOk T0 w0 μ w ((execOp a.eval o).run T0.P w) out := by
  obtain ⟨m, h1, h⟩ := ob_some h
  obtain ⟨xv, a1, a2⟩ := args_at hA hl h0
  rw [asMap_some h1] at a2
  obtain ⟨cs, hrun⟩ := run_builtin (T0 := T0) (a := a) (w := w) hc ho
  have hu := (hT.ty t i hi).und
  obtain ⟨k, hk⟩ := dMap_some hd
  rw [hk] at hu
  rcases oc_or (x := m) h with ⟨rfl, g⟩ | ⟨b, rfl, g⟩
  · cases g
    cases a2
    refine ok_pure hR (x := .int .i64 0) ?_ .int
    rw [hrun]
    simp only [builtin, Builtin.len_, a1, arg_type ht, Sem.run_bind, run_underlying hu, Result.andThen_ok]
    rfl
  · obtain ⟨q, g1, g2⟩ := ob_some g
    cases g2
    cases a2 with | map e =>
    obtain ⟨l', m1, E, r1, r2⟩ := hR.live _ _ (mapAt_some g1)
    rw [e] at m1; cases m1
    refine ok_pure hR (x := .int .i64 (lenN q.es)) ?_ .int
    rw [hrun, lenN_eq, ← r2.len]
    simp only [builtin, Builtin.len_, a1, arg_type ht, Sem.run_bind, run_underlying hu, Result.andThen_ok, run_getMap r1]
    rfl
/-- A call of a function value. -/
theorem s_callV (hR : HR w0 μ σ.hp σ.nx w) (hA : RT μ σ.tm a.tmps) {c : Call} {g : Operand} (hc : c.callee = .value g) (ho : o.op = .call c) {out : Out} (h : opCallV σ g c.args.toList = some out) :
    OutOk T0 w0 μ w ((execOp a.eval o).run T0.P w) out := by
  obtain ⟨v, h1, h⟩ := ob_some h
  obtain ⟨l, h2, h⟩ := ob_some h
  have hv := opnd_sound hA h1
  have hl := opnds_sound hA h2
  have hargs : c.args.map a.eval = ⟨c.args.toList.map a.eval⟩ := Array.ext' (by simp)
  rcases oc_or h with ⟨_, h3⟩ | ⟨f, h3, h4⟩
  · obtain ⟨b, h4, h5⟩ := ob_some h3
    cases h5
    rw [asYield_some h4] at hv
    generalize hg : a.eval g = y at hv
    cases hv with | yield e =>
    rename_i lc
    refine ⟨lc, _, e, ?_, hl⟩
    simp only [execOp, ho, resolve, hc, hg, Deferred.ofValue, Sem.run_bind, Sem.run_pure, Result.andThen_ok, hargs]
    simp [invoke]
  · obtain ⟨n, h5, h6⟩ := ob_some h4
    cases h6
    rw [asFv_some h3] at hv
    have hn := fnF_some h5
    generalize hg : a.eval g = y at hv
    cases hv with | func e1 e2 e3 =>
    rename_i xs ys
    refine ⟨xs ++ (c.args.toList.map a.eval ++ ys), ?_, by rw [appN_eq, appN_eq]; exact e2.append (hl.append e3)⟩
    simp only [execOp, ho, resolve, hc, hg, Deferred.ofValue, Sem.run_bind, Sem.run_pure, Result.andThen_ok, hargs, hn]
    show (callFunc n (((⟨xs⟩ : Array Value) ++ (⟨c.args.toList.map a.eval⟩ : Array Value)) ++ (⟨ys⟩ : Array Value))).run T0.P w = _
    rw [show ((⟨xs⟩ : Array Value) ++ (⟨c.args.toList.map a.eval⟩ : Array Value)) ++ (⟨ys⟩ : Array Value) = ⟨xs ++ (c.args.toList.map a.eval ++ ys)⟩ from Array.ext' (by simp)]
theorem ifTV_some {v : AV} {q : TypeId × AV} (h : ifTV v = some q) : v = .iface q.1 q.2 := by cases v <;> cases h <;> rfl
theorem s_rcv {c : Call} (hc : c.callee = .builtin .recover) (ho : o.op = .call c) : OutOk T0 w0 μ w ((execOp a.eval o).run T0.P w) .rcv := by
  obtain ⟨cs, hrun⟩ := run_builtin (T0 := T0) (a := a) (w := w) hc ho
  show _ = _
  rw [hrun]; rfl
theorem s_defer (hA : RT μ σ.tm a.tmps) {c : Call} {g : Operand} (hc : c.callee = .value g) (ho : o.op = .defer c) {out : Out}
    (h : (ob (opnd σ.tm g) fun v => ob (asFv v) fun q => ob (opnds σ.tm c.args.toList) fun l => some (.dfd (.call q.fn q.cap (appN q.first l)))) = some out) : OutOk T0 w0 μ w ((execOp a.eval o).run T0.P w) out := by
  obtain ⟨v, h1, h⟩ := ob_some h
  obtain ⟨q, h2, h⟩ := ob_some h
  obtain ⟨l, h3, h⟩ := ob_some h
  cases h
  have hv := opnd_sound hA h1
  have hl := opnds_sound hA h3
  have hargs : c.args.map a.eval = ⟨c.args.toList.map a.eval⟩ := Array.ext' (by simp)
  rw [asFv_some h2] at hv
  generalize hg : a.eval g = y at hv
  cases hv with | func e1 e2 e3 =>
  rename_i xs ys
  refine ⟨{ target := .fn q.fn ⟨ys⟩, args := ⟨xs ++ c.args.toList.map a.eval⟩ }, ?_, xs ++ c.args.toList.map a.eval, ys, by rw [appN_eq]; exact e2.append hl, e3, e1, rfl⟩
  simp only [execOp, ho, resolve, hc, hg, Deferred.ofValue, Sem.run_bind, Sem.run_pure, Result.andThen_ok, hargs]
  rw [show (⟨xs⟩ : Array Value) ++ (⟨c.args.toList.map a.eval⟩ : Array Value) = ⟨xs ++ c.args.toList.map a.eval⟩ from Array.ext' (by simp)]
theorem find_toList {ms : Array Method} {name : String} {m : Method} (h : ms.toList.find? (fun m => m.name == name) = some m) : ms.find? (fun m => m.name == name) = some m := by
  rw [← h]; simp
theorem recv_run {P : Program} {t : TypeId} {v : Value} {pr : Bool} {d : TypeDesc} (hd : P.underlying t = some d) (h : isPtrD d = pr) (wr : Option String) :
    (receiverAt t (.val v) pr wr).run P w = .ok v w := by
  unfold receiverAt
  simp only [Sem.run_bind, run_underlying hd, Result.andThen_ok]
  cases d <;> (simp only [isPtrD] at h; subst h; rfl)
theorem methE_sound {t : TypeId} {name : String} {f n : Nat} {v : Value} (h : methE T0 t name = some f) : (method (n + 1) t v name).run T0.P w = .ok (f, v) w := by
  obtain ⟨i, h1, h⟩ := ob_some h
  obtain ⟨m, h2, h⟩ := ob_some h
  obtain ⟨h3, h⟩ := cb_some h
  obtain ⟨q, h4, h⟩ := ob_some h
  obtain ⟨d, h6, h⟩ := ob_some h
  obtain ⟨h5, h⟩ := cb_some h
  cases h
  have hp : m.path.toList = [] := by simpa using h3
  have hti : (typeInfo t).run T0.P w = .ok i w := by simp [typeInfo, program, Sem.run, bind, Sem.bind, h1, pure]
  rw [eqB_eq] at h5
  obtain ⟨q1, q2⟩ := q
  have hrec := recv_run (w := w) (P := T0.P) (t := t) (v := v) (pr := q2) h6 (by simpa using h5)
  unfold method
  simp only [Sem.run_bind, hti, Result.andThen_ok, find_toList h2, hp, follow, Sem.run_pure, h4]
  rw [hrec]
  rfl
theorem s_invoke (hR : HR w0 μ σ.hp σ.nx w) (hA : RT μ σ.tm a.tmps) {c : Call} {r : Operand} {name : String} (hc : c.callee = .invoke r name) (ho : o.op = .call c) {out : Out} (h : opInvoke T0 σ r name c.args.toList = some out) :
    OutOk T0 w0 μ w ((execOp a.eval o).run T0.P w) out := by
  obtain ⟨v, h1, h⟩ := ob_some h
  obtain ⟨q, h2, h⟩ := ob_some h
  obtain ⟨f, h3, h⟩ := ob_some h
  obtain ⟨l, h4, h⟩ := ob_some h
  cases h
  have hv := opnd_sound hA h1
  have hl := opnds_sound hA h4
  rw [ifTV_some h2] at hv
  generalize hx : a.eval r = y at hv
  cases hv with | iface e =>
  rename_i x
  have hargs : c.args.map a.eval = ⟨c.args.toList.map a.eval⟩ := Array.ext' (by simp)
  refine ⟨x :: c.args.toList.map a.eval, ?_, .cons e hl⟩
  simp only [execOp, ho, resolve, hc, Sem.run_bind, Sem.run_pure, Result.andThen_ok, hx, hargs]
  have e1 : ((#[.iface q.1 x] : Array Value) ++ (⟨c.args.toList.map a.eval⟩ : Array Value))[0]? = some (.iface q.1 x) := by simp
  have e2 : ((#[.iface q.1 x] : Array Value) ++ (⟨c.args.toList.map a.eval⟩ : Array Value)).extract 1 ((#[.iface q.1 x] : Array Value) ++ (⟨c.args.toList.map a.eval⟩ : Array Value)).size = ⟨c.args.toList.map a.eval⟩ := Array.ext' (by simp [List.take_of_length_le])
  have hpr : (program : Sem Program).run T0.P w = .ok T0.P w := rfl
  simp only [invoke, e1, e2, callMethod, Sem.run_bind, hpr, Result.andThen_ok]
  have hm := methE_sound (w := w) (n := T0.P.types.size + 99) (v := x) h3
  rw [show T0.P.types.size + Made.depth = (T0.P.types.size + 99) + 1 from rfl, hm]
  simp only [Result.andThen_ok]
  rw [show (#[x] : Array Value) ++ (⟨c.args.toList.map a.eval⟩ : Array Value) = ⟨x :: c.args.toList.map a.eval⟩ from Array.ext' (by simp)]
theorem least_none {l : List String} : Instr.least l = none ↔ l = [] := by cases l <;> simp [Instr.least]
theorem filters_nil {α : Type} {p : α → Bool} {l : List α} (h1 : l.filter p = []) (h2 : l.filter (not ∘ p) = []) : l = [] := by
  cases l with
  | nil => rfl
  | cons x l =>
    rw [List.filter_cons] at h1 h2
    cases hp : p x with
    | true => rw [hp] at h1; cases h1
    | false => simp [hp] at h2
theorem missing_none {want : Array (String × TypeId)} {got : Array Method} : Instr.missingMethod want got = none ↔ (want.toList.all fun m => got.toList.any fun q => q.name == m.1 && Nat.beq q.sig m.2) = true := by
  have e : ∀ m : String × TypeId, (got.any fun q => q.name == m.1 && q.sig == m.2) = (got.toList.any fun q => q.name == m.1 && Nat.beq q.sig m.2) := by
    intro m
    rw [Array.any_toList]
    congr 1
    funext q
    congr 1
    cases h : Nat.beq q.sig m.2 with
    | true => simp [Nat.eq_of_beq_eq_true h]
    | false => simp [Nat.ne_of_beq_eq_false h]
  unfold Instr.missingMethod
  constructor
  · intro h
    simp only [List.partition_eq_filter_filter] at h
    have or_none : ∀ {x y : Option String}, (x <|> y) = none → x = none ∧ y = none := by
      intro x y hh
      cases x with
      | none => exact ⟨rfl, hh⟩
      | some a => cases hh
    obtain ⟨h1, h2⟩ := or_none h
    rw [least_none] at h1 h2
    rw [List.map_eq_nil_iff] at h2
    rw [List.all_eq_true]
    intro m hm
    rw [← e m]
    cases hq : (got.any fun q => q.name == m.1 && q.sig == m.2) with
    | true => rfl
    | false =>
      exfalso
      have hin : m.1 ∈ (want.toList.filter fun x => !got.any fun q => q.name == x.1 && q.sig == x.2).map (·.1) := List.mem_map.2 ⟨m, List.mem_filter.2 ⟨hm, by rw [hq]; rfl⟩, rfl⟩
      rw [filters_nil h2 h1] at hin
      cases hin
  · intro h
    have hnil : (want.toList.filter fun x => !got.any fun q => q.name == x.1 && q.sig == x.2) = [] := by
      rw [List.filter_eq_nil_iff]
      intro m hm
      rw [List.all_eq_true] at h
      have := h m hm
      rw [← e m] at this
      simp [this]
    simp only [hnil]
    rfl
theorem isNilI_true {v : AV} (h : isNilI v = true) : v = .nilI := by cases v <;> cases h; rfl
theorem dIface_some {d : TypeDesc} {l : List (String × TypeId)} (h : dIface d = some l) : ∃ ms, d = .interface ms ∧ ms.toList = l := by cases d <;> cases h; exact ⟨_, rfl, rfl⟩
theorem assert_nil {P : Program} {t xt : TypeId} {d : TypeDesc} {z : Value} (hu : P.underlying t = some d) (hz : (zeroValue t).run P w = .ok z w) : (Instr.typeAssert .nilIface xt t true).run P w = .ok (.tuple #[z, .bool false]) w := by
  unfold Instr.typeAssert
  simp only [Sem.run_bind, run_underlying hu, Result.andThen_ok]
  cases d <;> simp only [if_true, Sem.run_bind, hz, Result.andThen_ok, Sem.run_pure]
theorem assert_val {P : Program} {t xt u : TypeId} {d : TypeDesc} {y : Value} {ok : Bool} (hu : P.underlying t = some d) (hd : dIface d = none) :
    (u = t → (Instr.typeAssert (.iface u y) xt t ok).run P w = .ok (if ok then .tuple #[y, .bool true] else y) w) ∧
    (u ≠ t → ok = true → ∀ z, (zeroValue t).run P w = .ok z w → (Instr.typeAssert (.iface u y) xt t ok).run P w = .ok (.tuple #[z, .bool false]) w) := by
  constructor
  · intro e
    unfold Instr.typeAssert
    simp only [Sem.run_bind, run_underlying hu, Result.andThen_ok]
    cases d <;> first | (cases hd; done) | (simp only [e, if_true, Sem.run_pure])
  · intro e hok z hz
    subst hok
    unfold Instr.typeAssert
    simp only [Sem.run_bind, run_underlying hu, Result.andThen_ok]
    cases d <;> first | (cases hd; done) | (simp only [e, if_false, if_true, Sem.run_bind, hz, Result.andThen_ok, Sem.run_pure])
theorem assert_if {P : Program} {t xt u : TypeId} {ms : Array (String × TypeId)} {y : Value} {ok : Bool} {i : TypeInfo} (hu : P.underlying t = some (.interface ms)) (hi : P.info? u = some i) :
    (Instr.missingMethod ms i.methods = none → (Instr.typeAssert (.iface u y) xt t ok).run P w = .ok (if ok then .tuple #[.iface u y, .bool true] else .iface u y) w) ∧
    (Instr.missingMethod ms i.methods ≠ none → ok = true → ∀ z, (zeroValue t).run P w = .ok z w → (Instr.typeAssert (.iface u y) xt t ok).run P w = .ok (.tuple #[z, .bool false]) w) := by
  have hti : (typeInfo u).run P w = .ok i w := by simp [typeInfo, program, Sem.run, bind, Sem.bind, hi, pure]
  constructor
  · intro e
    unfold Instr.typeAssert
    simp only [Sem.run_bind, run_underlying hu, Result.andThen_ok, hti, e, Sem.run_pure]
  · intro e hok z hz
    subst hok
    unfold Instr.typeAssert
    cases hm : Instr.missingMethod ms i.methods with
    | none => exact absurd hm e
    | some m => simp only [Sem.run_bind, run_underlying hu, Result.andThen_ok, hti, hm, if_true, hz, Sem.run_pure]
theorem s_assert (hT : TabOk T0) (hR : HR w0 μ σ.hp σ.nx w) (hA : RT μ σ.tm a.tmps) {x : Operand} {xt t : TypeId} {i : TyI} {ok : Bool} (hi : T0.t t = some i) (ho : o.op = .typeAssert x xt t ok) {out : Out}
    (h : (ob (opnd σ.tm x) fun v => valE σ (asrt T0 t i ok v)) = some out) : OutOk T0 w0 μ w ((execOp a.eval o).run T0.P w) out := by
  obtain ⟨v, h1, h2⟩ := ob_some h
  obtain ⟨r, h3, rfl⟩ := valE_some h2
  have hv := opnd_sound hA h1
  have hti := hT.ty t i hi
  have hu := run_und (w := w) hti
  have hex : (execOp a.eval o).run T0.P w = ((Instr.typeAssert (a.eval x) xt t ok).run T0.P w).andThen fun v w' => .ok (.value v) w' := by
    simp only [execOp, ho, Sem.run_bind]; rfl
  -- what it answers
  have yes : ∀ {u : AV} {y : Value}, RV μ u y → okA ok (zeroOf i) true u = some r → (Instr.typeAssert (a.eval x) xt t ok).run T0.P w = .ok (if ok then .tuple #[y, .bool true] else y) w → OutOk T0 w0 μ w ((execOp a.eval o).run T0.P w) (.pv r) := by
    intro u y hy hr hrun
    cases hr
    refine ok_pure hR (by rw [hex, hrun]; rfl) ?_
    cases ok with
    | true => exact .tup (.cons hy (.cons .bool .nil))
    | false => exact hy
  have no : ∀ {u : AV}, okA ok (zeroOf i) false u = some r → (ok = true → ∀ z, (zeroValue t).run T0.P w = .ok z w → (Instr.typeAssert (a.eval x) xt t ok).run T0.P w = .ok (.tuple #[z, .bool false]) w) → OutOk T0 w0 μ w ((execOp a.eval o).run T0.P w) (.pv r) := by
    intro u hr hrun
    obtain ⟨h4, h5⟩ := cb_some (show cb ok (ob (zeroOf i) fun z => some (.tup [z, .bool false])) = some r from hr)
    obtain ⟨z, h6, h7⟩ := ob_some h5
    cases h7
    obtain ⟨xz, z1, z2⟩ := zeroOf_sound (μ := μ) (w := w) hti h6
    exact ok_pure hR (by rw [hex, hrun h4 xz z1]; rfl) (.tup (.cons z2 (.cons .bool .nil)))
  rcases oc_or h3 with ⟨g1, g2⟩ | ⟨q, g1, g2⟩
  · obtain ⟨g3, g4⟩ := cb_some g2
    rw [isNilI_true g3] at hv
    have hx : a.eval x = .nilIface := by generalize a.eval x = y at hv; cases hv; rfl
    refine no g4 (fun hok z hz => ?_)
    subst hok
    rw [hx]
    exact assert_nil hti.und hz
  · have hq := ifTV_some g1
    rw [hq] at hv
    generalize hx : a.eval x = y at hv
    cases hv with | iface e =>
    rename_i y
    rcases oc_or g2 with ⟨k1, k2⟩ | ⟨ms, k1, k2⟩
    · obtain ⟨h5, h6⟩ := assert_val (w := w) (xt := xt) (u := q.1) (y := y) (ok := ok) hti.und k1
      cases hb : Nat.beq q.1 t with
      | true => rw [hb] at k2; exact yes e k2 (by rw [hx]; exact h5 (beq_true hb))
      | false => rw [hb] at k2; exact no k2 (by rw [hx]; exact h6 (Nat.ne_of_beq_eq_false hb))
    · obtain ⟨b, k3, k4⟩ := ob_some k2
      obtain ⟨info, k5, k6⟩ := ob_some (x := T0.P.info? q.1) k3
      obtain ⟨ms', e1, e2⟩ := dIface_some k1
      have hund := hti.und
      rw [e1] at hund
      obtain ⟨h5, h6⟩ := assert_if (w := w) (xt := xt) (u := q.1) (y := y) (ok := ok) hund k5
      rw [hq] at k4
      have hiff := missing_none (want := ms') (got := info.methods)
      rw [e2] at hiff
      cases b with
      | true =>
        have hall : (ms.all fun m => info.methods.toList.any fun q => q.name == m.1 && Nat.beq q.sig m.2) = true := by simpa using k6
        exact yes (.iface e) k4 (by rw [hx]; exact h5 (hiff.2 hall))
      | false =>
        have hall : (ms.all fun m => info.methods.toList.any fun q => q.name == m.1 && Nat.beq q.sig m.2) = false := by simpa using k6
        exact no k4 (by rw [hx]; exact h6 (fun z => by rw [hiff.1 z] at hall; cases hall))
end
end Ev
end Go.Proofs.Ytdofhlmffponoaa
