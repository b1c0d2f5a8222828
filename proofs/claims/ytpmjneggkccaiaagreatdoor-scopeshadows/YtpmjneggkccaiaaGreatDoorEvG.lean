/- Places within rows and structs; lengths; slices. -/
import Derived.Test.YtpmjneggkccaiaaGreatDoorEvD
set_option linter.unusedVariables false
set_option linter.unusedSimpArgs false
namespace Go.Proofs.YtpmjneggkccaiaaGreatDoor
namespace Ev
theorem dSlice_some {d : TypeDesc} {e : TypeId} (h : dSlice d = some e) : d = .slice e := by cases d <;> cases h <;> rfl
theorem dArr_some {d : TypeDesc} {p : Nat × TypeId} (h : dArr d = some p) : d = .array p.1 p.2 := by cases d <;> cases h <;> rfl
theorem dStr_true {d : TypeDesc} (h : dStr d = true) : d = .string := by cases d <;> cases h <;> rfl
theorem dMap_some {d : TypeDesc} {e : TypeId} (h : dMap d = some e) : ∃ k, d = .map k e := by cases d <;> cases h <;> exact ⟨_, rfl⟩
theorem dFields_some {d : TypeDesc} {l : List TypeId} (h : dFields d = some l) : ∃ fs, d = .struct fs ∧ l = fs.toList.map (fun f => f.type) := by cases d <;> cases h <;> exact ⟨_, rfl, rfl⟩
theorem mapM_get {α β : Type} {g : α → Option β} : ∀ {l : List α} {r : List β}, l.mapM g = some r → ∀ {k : Nat} {q : β}, r[k]? = some q → ∃ f, l[k]? = some f ∧ g f = some q
  | [], r, h, k, q, e => by simp at h; subst h; simp at e
  | x :: l, r, h, k, q, e => by
    simp only [List.mapM_cons, Option.bind_eq_bind, Option.pure_def] at h
    cases hx : g x with
    | none => simp [hx] at h
    | some y =>
      cases hl : l.mapM g with
      | none => simp [hx, hl] at h
      | some r' =>
        simp [hx, hl] at h
        subst h
        cases k with
        | zero => simp at e; subst e; exact ⟨x, by simp, hx⟩
        | succ k =>
          simp at e
          obtain ⟨f, h1, h2⟩ := mapM_get hl e
          exact ⟨f, by simpa using h1, h2⟩
/-- A field's place. -/
theorem off_some {P : Program} {t : TypeId} {i : TyI} (ht : TyOk P t i) {f : Nat} {q : Nat × Nat} (h : nthO i.offs f = some q) :
    ∃ fs fd, i.d = .struct fs ∧ fs[f]? = some fd ∧ q.1 = fd.offset ∧ ∃ x, P.info? fd.type = some x ∧ q.2 = x.size := by
  rw [nthO_eq] at h
  have ho := ht.off
  cases hd : i.d with
  | struct fs =>
    rw [hd] at ho
    obtain ⟨fd, h1, h2⟩ := mapM_get ho h
    simp only [Option.map_eq_some_iff] at h2
    obtain ⟨x, h3, rfl⟩ := h2
    exact ⟨fs, fd, rfl, by simpa using h1, rfl, x, h3, rfl⟩
  | _ => rw [hd] at ho; simp only [offsD, Option.some.injEq] at ho; rw [← ho] at h; simp at h
section
variable {T0 : Tab} {w0 : Fx} {μ : Mu} {σ : AS} {a : Act} {w : World} {o : Oper}
theorem s_fieldAddr (hT : TabOk T0) (hR : HR w0 μ σ.hp σ.nx w) (hA : RT μ σ.tm a.tmps) {t : TypeId} {i : TyI} {x : Operand} {f : Nat} {q : Nat × Nat} (hi : T0.t t = some i) (hq : nthO i.offs f = some q)
    (ho : o.op = .fieldAddr t x f) {out : Out} (h : opFieldAddr σ q x = some out) : OutOk T0 w0 μ w ((execOp a.eval o).run T0.P w) out := by
  obtain ⟨p, h1, h2⟩ := ob_some h
  rcases tb_or h2 with ⟨_, h3⟩ | ⟨h3, h4⟩
  · cases h3
  cases h4
  obtain ⟨l, g1, g2⟩ := ptO_some hA h1
  have ht := hT.ty t i hi
  obtain ⟨fs, fd, e1, e2, e3, x', hf', e4⟩ := off_some ht hq
  have hz : q.2 ≠ 0 := fun e => by rw [e] at h3; cases h3
  have hs : (sizeOf fd.type).run T0.P w = .ok q.2 w := by simp [sizeOf, typeInfo, program, Sem.run, bind, Sem.bind, hf', pure, e4]
  have hu := run_und (w := w) ht
  rw [e1] at hu
  refine ok_pure hR (x := .pointer (some ⟨l.blk, l.base + (p.off + q.1), none⟩)) ?_ (.ptr g1)
  simp [execOp, ho, Instr.fieldAt, g2, hu, e2, Instr.sureAddr, fieldPlace, hs, hz, addr_add, e3, Nat.add_assoc]
theorem s_field (hT : TabOk T0) (hR : HR w0 μ σ.hp σ.nx w) (hA : RT μ σ.tm a.tmps) {t ft : TypeId} {i fi : TyI} {x : Operand} {f : Nat} {q : Nat × Nat} {l : List TypeId} (hi : T0.t t = some i) (hd : dFields i.d = some l)
    (hf : nthO l f = some ft) (hfi : T0.t ft = some fi) (hq : nthO i.offs f = some q)
    (ho : o.op = .field t x f) {out : Out} (h : opField σ fi q.1 x = some out) : OutOk T0 w0 μ w ((execOp a.eval o).run T0.P w) out := by
  obtain ⟨v, h1, h2⟩ := ob_some h
  obtain ⟨cs, h3, h4⟩ := ob_some h2
  obtain ⟨u, h5, rfl⟩ := valE_some h4
  have ht := hT.ty t i hi
  have hft := hT.ty ft fi hfi
  obtain ⟨fs, fd, e1, e2, e3, _⟩ := off_some ht hq
  obtain ⟨fs', e5, e6⟩ := dFields_some hd
  rw [e1] at e5; cases e5
  have e7 : fd.type = ft := by
    rw [nthO_eq, e6] at hf
    simp only [List.getElem?_map, Option.map_eq_some_iff] at hf
    obtain ⟨fd', g1, g2⟩ := hf
    have g1 : fs[f]? = some fd' := by simpa using g1
    rw [e2] at g1; cases g1; exact g2
  have hu := run_und (w := w) ht
  rw [e1] at hu
  have hv := opnd_sound hA h1
  rw [asAgg_some h3] at hv
  generalize hx : a.eval x = y at hv
  cases hv with | agg r =>
  rename_i xs
  rcases tb_or h5 with ⟨g1, g2⟩ | ⟨g1, g2⟩
  · cases g2
    refine ok_pure hR (x := .agg ⟨(xs.drop q.1).take fi.size⟩) ?_ (.agg (by rw [takeN_eq, dropN_eq]; exact (r.drop _).take _))
    have ea : (⟨xs⟩ : Array Value).extract fd.offset (fd.offset + fi.size) = ⟨(xs.drop fd.offset).take fi.size⟩ := Array.ext' (by simp)
    simp [execOp, ho, hx, Instr.field, hu, e2, Go.asAgg, part, e7, run_agg hft, g1, run_size hft, ← e3] at ea ⊢
  · rw [nthO_eq] at g2
    obtain ⟨z, hz, hr⟩ := r.get g2
    refine ok_pure hR ?_ hr
    simp [execOp, ho, hx, Instr.field, hu, e2, Go.asAgg, part, e7, run_agg hft, g1, ← e3, hz]
theorem natO_some (hA : RT μ σ.tm a.tmps) {x : Operand} {n : Nat} (h : natO σ x = some n) : ∃ k, a.eval x = .int k (.ofNat n) := by
  obtain ⟨v, h1, h2⟩ := ob_some h
  obtain ⟨k, rfl⟩ := intOf_some h2
  exact ⟨k, (opnd_sound hA h1).int_inv⟩
theorem RV.sl_inv {v : AV} {s : Sl} (h : asSl v = some s) {x : Value} (hv : RV μ v x) : ∃ l c, μ s.b = some l ∧ x = .slice (some ⟨l.blk, l.base + s.off, none⟩) s.len c := by
  rcases asSl_some h with ⟨c, rfl⟩ | ⟨c, rfl⟩
  · cases hv with | slk e _ => exact ⟨_, _, e, rfl⟩
  · cases hv with | slu e _ => exact ⟨_, _, e, rfl⟩
theorem s_indexS (hT : TabOk T0) (hR : HR w0 μ σ.hp σ.nx w) (hA : RT μ σ.tm a.tmps) {t e : TypeId} {i ei : TyI} {x y : Operand} (hi : T0.t t = some i) (hd : dSlice i.d = some e) (he : T0.t e = some ei)
    (ho : o.op = .indexAddr t x y) {out : Out} (h : opIndexS σ ei.size x y = some out) : OutOk T0 w0 μ w ((execOp a.eval o).run T0.P w) out := by
  obtain ⟨v, h1, h2⟩ := ob_some h
  obtain ⟨n, h3, h4⟩ := ob_some h2
  obtain ⟨s, h5, h6⟩ := ob_some h4
  obtain ⟨h7, h8⟩ := cb_some h6
  cases h8
  rw [blt_eq] at h7
  have h7 : n < s.len := by simpa using h7
  obtain ⟨l, c, g1, g2⟩ := (opnd_sound hA h1).sl_inv h5
  obtain ⟨k, g3⟩ := natO_some hA h3
  have hu := run_und (w := w) (hT.ty t i hi)
  rw [dSlice_some hd] at hu
  refine ok_pure hR (x := .pointer (some ⟨l.blk, l.base + (s.off + n * ei.size), none⟩)) ?_ (.ptr g1)
  simp [execOp, ho, Instr.indexAt, g2, g3, asIntOf, hu, h7, run_size (hT.ty e ei he), addr_add, Nat.add_assoc]
theorem s_indexA (hT : TabOk T0) (hR : HR w0 μ σ.hp σ.nx w) (hA : RT μ σ.tm a.tmps) {t : TypeId} {i ei : TyI} {p : Nat × TypeId} {x y : Operand} (hi : T0.t t = some i) (hd : dArr i.d = some p) (he : T0.t p.2 = some ei)
    (ho : o.op = .indexAddr t x y) {out : Out} (h : opIndexA σ p.1 ei.size x y = some out) : OutOk T0 w0 μ w ((execOp a.eval o).run T0.P w) out := by
  obtain ⟨q, h1, h2⟩ := ob_some h
  obtain ⟨n, h3, h4⟩ := ob_some h2
  obtain ⟨h7, h8⟩ := cb_some h4
  cases h8
  rw [blt_eq] at h7
  have h7 : n < p.1 := by simpa using h7
  obtain ⟨l, g1, g2⟩ := ptO_some hA h1
  obtain ⟨k, g3⟩ := natO_some hA h3
  have hu := run_und (w := w) (hT.ty t i hi)
  rw [dArr_some hd] at hu
  refine ok_pure hR (x := .pointer (some ⟨l.blk, l.base + (q.off + n * ei.size), none⟩)) ?_ (.ptr g1)
  simp [execOp, ho, Instr.indexAt, Instr.sureAddr, g2, g3, asIntOf, hu, h7, run_size (hT.ty p.2 ei he), addr_add, Nat.add_assoc]
theorem bl_get {s : ByteArray} {n c : Nat} (h : (bl s)[n]? = some c) : ∃ b : UInt8, s[n]? = some b ∧ b.toNat = c := by
  simp only [bl, List.getElem?_map, Option.map_eq_some_iff] at h
  obtain ⟨b, h1, h2⟩ := h
  refine ⟨b, ?_, h2⟩
  have hn : n < s.data.toList.length := by
    rcases Nat.lt_or_ge n s.data.toList.length with q | q
    · exact q
    · simp [List.getElem?_eq_none q] at h1
  have hn' : n < s.size := by
    show n < s.data.size
    rw [← Array.length_toList]; exact hn
  rw [getElem?_pos s n hn']
  rw [List.getElem?_eq_getElem hn] at h1
  rw [← h1]; rfl
theorem s_index (hT : TabOk T0) (hR : HR w0 μ σ.hp σ.nx w) (hA : RT μ σ.tm a.tmps) {t : TypeId} {i : TyI} {x y : Operand} (hi : T0.t t = some i) (hd : dStr i.d = true)
    (ho : o.op = .index t x y) {out : Out} (h : opIndex σ x y = some out) : OutOk T0 w0 μ w ((execOp a.eval o).run T0.P w) out := by
  obtain ⟨v, h1, h2⟩ := ob_some h
  obtain ⟨s, h3, h4⟩ := ob_some h2
  obtain ⟨n, h5, h6⟩ := ob_some h4
  obtain ⟨c, h7, h8⟩ := ob_some h6
  cases h8
  have hv := opnd_sound hA h1
  rw [asS_some h3] at hv
  obtain ⟨s', e1, e2⟩ := hv.str_inv
  obtain ⟨k, g3⟩ := natO_some hA h5
  rw [← e1, chrAt_eq (bl_lt _)] at h7
  obtain ⟨b, e3, e4⟩ := bl_get h7
  have hu := run_und (w := w) (hT.ty t i hi)
  rw [dStr_true hd] at hu
  refine ok_pure hR (x := .int .u8 (.ofNat c)) ?_ .int
  simp [execOp, ho, Instr.index, e2, g3, asIntOf, hu, e3, e4]
/-- A call of a function that the language has. -/
theorem run_builtin {c : Call} {b : Builtin} (hc : c.callee = .builtin b) (ho : o.op = .call c) :
    ∃ cs, (execOp a.eval o).run T0.P w = (builtin b c.argTypes o.type cs (c.args.map a.eval)).run T0.P w := by
  simp only [execOp, ho, resolve, hc, invoke, Sem.run_bind, Sem.run_pure, Result.andThen_ok]
  exact ⟨_, rfl⟩
theorem args_at (hA : RT μ σ.tm a.tmps) {c : Call} {l : List AV} (h : opnds σ.tm c.args.toList = some l) {n : Nat} {v : AV} (hv : nthO l n = some v) :
    ∃ x, (c.args.map a.eval)[n]? = some x ∧ RV μ v x := by
  rw [nthO_eq] at hv
  obtain ⟨x, h1, h2⟩ := (opnds_sound hA h).get hv
  exact ⟨x, by simpa using h1, h2⟩
theorem arg_type {c : Call} {t : TypeId} (h : headL c.argTypes.toList = some t) : c.argTypes[0]? = some t := by
  rw [headL_eq] at h
  cases hl : c.argTypes.toList with
  | nil => rw [hl] at h; cases h
  | cons x r =>
    rw [hl] at h; cases h
    rw [← Array.getElem?_toList, hl]; rfl
theorem s_lenS (hT : TabOk T0) (hR : HR w0 μ σ.hp σ.nx w) (hA : RT μ σ.tm a.tmps) {c : Call} {t : TypeId} {i : TyI} {l : List AV} {v : AV} (hc : c.callee = .builtin .len) (ho : o.op = .call c) (ht : headL c.argTypes.toList = some t)
    (hi : T0.t t = some i) (hd : dStr i.d = true) (hl : opnds σ.tm c.args.toList = some l) (hv : nthO l 0 = some v) {out : Out} (h : lenS σ v = some out) : OutOk T0 w0 μ w ((execOp a.eval o).run T0.P w) out := by
  obtain ⟨s, h1, h2⟩ := ob_some h
  cases h2
  obtain ⟨x, g1, g2⟩ := args_at hA hl hv
  rw [asS_some h1] at g2
  obtain ⟨s', e1, e2⟩ := g2.str_inv
  have hu := run_und (w := w) (hT.ty t i hi)
  rw [dStr_true hd] at hu
  obtain ⟨cs, hb⟩ := run_builtin (T0 := T0) (a := a) (w := w) hc ho
  rw [hb]
  refine ok_pure hR (x := .int .i64 (.ofNat s'.size)) ?_ (by rw [lenN_eq, ← e1, bl_length]; exact .int)
  rw [e2] at g1
  simp only [builtin, Builtin.len_, arg_type ht, g1, Sem.run_bind, hu, Result.andThen_ok]; rfl
theorem s_lenL (hT : TabOk T0) (hR : HR w0 μ σ.hp σ.nx w) (hA : RT μ σ.tm a.tmps) {c : Call} {t e : TypeId} {i : TyI} {l : List AV} {v : AV} (hc : c.callee = .builtin .len) (ho : o.op = .call c) (ht : headL c.argTypes.toList = some t)
    (hi : T0.t t = some i) (hd : dSlice i.d = some e) (hl : opnds σ.tm c.args.toList = some l) (hv : nthO l 0 = some v) {out : Out} (h : lenL σ v = some out) : OutOk T0 w0 μ w ((execOp a.eval o).run T0.P w) out := by
  obtain ⟨n, h1, h2⟩ := ob_some h
  cases h2
  obtain ⟨x, g1, g2⟩ := args_at hA hl hv
  have hx : ∃ b k, x = .slice b n k := by
    rcases oc_or h1 with ⟨_, h3⟩ | ⟨s, h3, h4⟩
    · obtain ⟨h4, h5⟩ := cb_some h3
      cases h5
      cases g2 <;> first | exact ⟨_, _, rfl⟩ | cases h4
    · cases h4
      obtain ⟨q, k, _, e⟩ := g2.sl_inv h3
      exact ⟨_, k, e⟩
  obtain ⟨b, k, rfl⟩ := hx
  have hu := run_und (w := w) (hT.ty t i hi)
  rw [dSlice_some hd] at hu
  obtain ⟨cs, hb⟩ := run_builtin (T0 := T0) (a := a) (w := w) hc ho
  rw [hb]
  refine ok_pure hR (x := .int .i64 (.ofNat n)) ?_ .int
  simp only [builtin, Builtin.len_, arg_type ht, g1, Sem.run_bind, hu, Result.andThen_ok]; rfl
end
end Ev
end Go.Proofs.YtpmjneggkccaiaaGreatDoor
