/- Where a slice's elements lie, and a string of them; copy, cap. -/
import Derived.Test.YtdofhlmffponoaaEvCx
import Derived.Lib.UnsafeStr
set_option linter.unusedVariables false
set_option linter.unusedSimpArgs false
namespace Go.Proofs.Ytdofhlmffponoaa
namespace Ev
theorem bytesL_sound {μ : Mu} : ∀ {l : List AV} {s : List Nat} {xs : List Value}, bytesL l = some s → RVs μ l xs → ∃ bs : List UInt8, xs = bs.map (fun b => Value.int .u8 b.toNat) ∧ bs.map (·.toNat) = s
  | [], s, xs, h, r => by cases h; cases r; exact ⟨[], rfl, rfl⟩
  | v :: l, s, xs, h, r => by
    obtain ⟨p, h1, h⟩ := ob_some (x := asI v) h
    obtain ⟨h2, h⟩ := cb_some h
    obtain ⟨n, h3, h⟩ := ob_some h
    obtain ⟨h4, h⟩ := cb_some h
    obtain ⟨q, h5, h⟩ := ob_some (x := bytesL l) h
    cases h
    cases r with | cons r1 r2 =>
    obtain ⟨bs, e1, e2⟩ := bytesL_sound h5 r2
    rw [asI_some h1] at r1
    cases r1
    rw [blt_eq] at h4
    have h4 : n < 256 := by simpa using h4
    have e3 : (UInt8.ofNat n).toNat = n := by simp; omega
    refine ⟨UInt8.ofNat n :: bs, ?_, by simp [e3, e2]⟩
    rw [e1, List.map_cons, e3, natI_some h3, kindEq_true h2]
    rfl
/-- A block that may hold anything from now on. -/
theorem HR.wipe0 {w0 : Fx} {μ : Mu} {H : T AO} {nx : Bn} {w w' : World} (h : HR w0 μ H nx w) {b : Bn} {o : AO} {l : Loc} (hb : H.get b = some o) (hl : μ b = some l)
    (e1 : w'.os = w.os) (e2 : w'.tape = w.tape) (e3 : w'.output = w.output) (hk : ∀ i, i ≠ l.blk → w'.heap[i]? = w.heap[i]?) : HR w0 μ (H.put b none) nx w' := by
  have old : ∀ {c : Bn} {y : AO}, (H.put b none).get c = some y → H.get c = some y ∧ c ≠ b := by
    intro c y g
    rw [T.put_get] at g
    split at g
    · cases g
    · rename_i q; exact ⟨g, q⟩
  refine ⟨h.ext.to e1 e2 e3 (fun i _ hs => hk i (fun e => by rw [e, h.base b o l hb hl] at hs; cases hs)), fun c x k g m => h.base c x k (old g).1 m, fun c x g => ?_, fun c c' x x' k k' g g' hne m m' => h.sep c c' x x' k k' (old g).1 (old g').1 hne m m', h.new, h.res⟩
  obtain ⟨k, m, q⟩ := h.live c x (old g).1
  exact ⟨k, m, q.keep (.refl μ) (hk _ (fun e' => h.sep c b x o k l (old g).1 hb (old g).2 m hl e'))⟩
theorem freeze_world (w : World) (a : Addr) (n : Nat) : (w.freeze a n).os = w.os ∧ (w.freeze a n).tape = w.tape ∧ (w.freeze a n).output = w.output ∧ ∀ i, i ≠ a.block → (w.freeze a n).heap[i]? = w.heap[i]? := by
  unfold World.freeze
  split
  · exact ⟨rfl, rfl, rfl, fun _ _ => rfl⟩
  · exact ⟨rfl, rfl, rfl, fun i hi => by simp [Array.getElem?_modify, Ne.symm hi]⟩
theorem lies_bytes {P : Program} {e : TypeId} (hc : P.cellsOf e = 1) (count off n : Nat) (hn : off + n ≤ count) : liesAt P P.depth e count off e n = true := by
  have hd : P.depth = (2 * (P.types.size + Made.depth) + 1) + 1 := rfl
  rw [hd]
  simp only [liesAt, Bool.or_eq_true]
  left
  rw [hd]
  simp [rowAt, hc, hn, sameLayout, Nat.mod_one]
section
variable {T0 : Tab} {w0 : Fx} {μ : Mu} {σ : AS} {a : Act} {w : World} {o : Oper}
theorem args1 (hA : RT μ σ.tm a.tmps) {c : Call} {l : List AV} {x : AV} (hl : opnds σ.tm c.args.toList = some l) (hn : Nat.beq (lenN l) 1 = true) (h0 : nthO l 0 = some x) : ∃ y, c.args.map a.eval = #[y] ∧ RV μ x y := by
  obtain ⟨y, a1, a2⟩ := args_at hA hl h0
  refine ⟨y, ?_, a2⟩
  have e1 := (opnds_sound hA hl).length
  have e2 : l.length = 1 := by rw [← lenN_eq]; exact beq_true hn
  apply Array.ext'
  apply List.ext_getElem?
  intro i
  match i with
  | 0 => simpa using a1
  | i + 1 =>
    rw [List.getElem?_eq_none (by simp at e1 ⊢; omega)]
    simp
theorem args2 (hA : RT μ σ.tm a.tmps) {c : Call} {l : List AV} {x x' : AV} (hl : opnds σ.tm c.args.toList = some l) (hn : Nat.beq (lenN l) 2 = true) (h0 : nthO l 0 = some x) (h1 : nthO l 1 = some x') : ∃ y y', c.args.map a.eval = #[y, y'] ∧ RV μ x y ∧ RV μ x' y' := by
  obtain ⟨y, a1, a2⟩ := args_at hA hl h0
  obtain ⟨y', a3, a4⟩ := args_at hA hl h1
  refine ⟨y, y', ?_, a2, a4⟩
  have e1 := (opnds_sound hA hl).length
  have e2 : l.length = 2 := by rw [← lenN_eq]; exact beq_true hn
  apply Array.ext'
  apply List.ext_getElem?
  intro i
  match i with
  | 0 => simpa using a1
  | 1 => simpa using a3
  | i + 2 =>
    rw [List.getElem?_eq_none (by simp at e1 ⊢; omega)]
    simp
theorem s_data (hR : HR w0 μ σ.hp σ.nx w) (hA : RT μ σ.tm a.tmps) {c : Call} {l : List AV} {x : AV} (hc : c.callee = .builtin .unsafeSliceData) (ho : o.op = .call c)
    (hl : opnds σ.tm c.args.toList = some l) (hn : Nat.beq (lenN l) 1 = true) (h0 : nthO l 0 = some x) {out : Out} (h : valE σ (dataE x) = some out) : OutOk T0 w0 μ w ((execOp a.eval o).run T0.P w) out := by
  obtain ⟨r, h2, rfl⟩ := valE_some h
  obtain ⟨y, hargs, hv⟩ := args1 hA hl hn h0
  obtain ⟨cs, hrun⟩ := run_builtin (T0 := T0) (a := a) (w := w) hc ho
  have fin : ∀ z, (Builtin.unsafeSliceData_ c.argTypes o.type #[y]).run T0.P w = .ok z w → RV μ r z → OutOk T0 w0 μ w ((execOp a.eval o).run T0.P w) (.pv r) := fun z hz hr => by
    refine ok_pure hR (x := z) ?_ hr
    rw [hrun, hargs]
    simp only [builtin, Sem.run_bind, hz, Result.andThen_ok, Sem.run_pure]
  rcases oc_or h2 with ⟨_, h3⟩ | ⟨s, h3, h4⟩
  · rcases oc_or h3 with ⟨_, h4⟩ | ⟨s, h4, h5⟩
    · obtain ⟨h5, h6⟩ := cb_some h4
      cases h6
      rw [isSl0_true h5] at hv
      cases hv
      exact fin _ (Lib.run_unsafeSliceData_nil w _ _ _ _) .ptr0
    · obtain ⟨h6, h7⟩ := cb_some h5
      cases h7
      rw [asSu_some h4] at hv
      rw [blt_eq] at h6
      have h6 : 0 < s.len := by simpa using h6
      cases hv with | slu e1 e2 =>
      exact fin _ (Lib.run_unsafeSliceData_row w _ _ _ _ _ (by omega)) (.ptr e1)
  · obtain ⟨h6, h7⟩ := cb_some h4
    cases h7
    rw [asSk_some h3] at hv
    rw [blt_eq] at h6
    have h6 : 0 < s.c := by simpa using h6
    cases hv with | slk e1 e2 =>
    exact fin _ (Lib.run_unsafeSliceData_row w _ _ _ _ _ (by omega)) (.ptr e1)
theorem ustr_none {P : Program} {ats : Array TypeId} {pt ty : TypeId} (h0 : ats[0]? = some pt) (p : Option Addr) : (Builtin.unsafeString_ ats ty #[.pointer p, .int .i64 0]).run P w = .ok (.string .empty) w := by
  have hmax : IntKind.i64.max = 9223372036854775807 := rfl
  cases p with
  | none =>
    refine (congrArg (fun s => Sem.run P s w) (show Builtin.unsafeString_ ats ty #[.pointer none, .int .i64 0] = (asInt (.int .i64 0) >>= _) from rfl)).trans ?_
    simp [asInt, asIntOf, hmax, h0]
  | some a =>
    refine (congrArg (fun s => Sem.run P s w) (show Builtin.unsafeString_ ats ty #[.pointer (some a), .int .i64 0] = (asInt (.int .i64 0) >>= _) from rfl)).trans ?_
    simp [asInt, asIntOf, hmax, h0]
theorem ustr_row {P : Program} {ats : Array TypeId} {pt ty e : TypeId} (h0 : ats[0]? = some pt) (hp : P.underlying pt = some (.pointer e)) (hc : P.cellsOf e = 1) (g off : Nat) (cells : Nat) (hsh : w.shape? g = some (e, cells)) (l : List UInt8) (hl : l.length ≠ 0)
    (hn : off + l.length ≤ cells) (h63 : l.length ≤ 9223372036854775807) (hcell : ∀ j x, l[j]? = some x → w.cell? ((⟨g, off, none⟩ : Addr).add j) = some (.int .u8 x.toNat)) :
    (Builtin.unsafeString_ ats ty #[.pointer (some ⟨g, off, none⟩), .int .i64 l.length]).run P w = .ok (.string ⟨l.toArray⟩) (w.freeze ⟨g, off, none⟩ l.length) := by
  have hlb := Lib.run_loadBytes (P := P) w l ⟨g, off, none⟩ .empty hcell
  have hlies := lies_bytes (P := P) hc (cells / P.cellsOf e) off l.length (by rw [hc]; simpa using hn)
  have h63' : ¬ (9223372036854775807 : Int) < (l.length : Int) := by omega
  have hmax : IntKind.i64.max = 9223372036854775807 := rfl
  have hneg : ¬ (l.length : Int) < 0 := by omega
  refine (congrArg (fun s => Sem.run P s w) (show Builtin.unsafeString_ ats ty #[.pointer (some ⟨g, off, none⟩), .int .i64 l.length] = (asInt (.int .i64 l.length) >>= _) from rfl)).trans ?_
  simp [asInt, asIntOf, hmax, h63', hneg, hl, variablesAt, hsh, elemOf, run_underlying hp, hlies, hlb, h0]
theorem isK0_true {x : AV} (h : isK0 x = true) : x = .ptr0 := by
  cases x <;> first | rfl | (cases h; done)
theorem s_str (hT : TabOk T0) (hR : HR w0 μ σ.hp σ.nx w) (hA : RT μ σ.tm a.tmps) {c : Call} {l : List AV} {x y : AV} {pt : TypeId} (hc : c.callee = .builtin .unsafeString) (ho : o.op = .call c) (ht : nthO c.argTypes.toList 0 = some pt)
    (hl : opnds σ.tm c.args.toList = some l) (hn : Nat.beq (lenN l) 2 = true) (h0 : nthO l 0 = some x) (h1 : nthO l 1 = some y) {out : Out} (h : strE T0 pt σ x y = some out) : OutOk T0 w0 μ w ((execOp a.eval o).run T0.P w) out := by
  obtain ⟨X, Y, hargs, hx, hy⟩ := args2 hA hl hn h0 h1
  obtain ⟨cs, hrun⟩ := run_builtin (T0 := T0) (a := a) (w := w) hc ho
  have hats : c.argTypes[0]? = some pt := by rw [nthO_eq] at ht; simpa using ht
  obtain ⟨p, h2, h⟩ := ob_some h
  obtain ⟨h3, h⟩ := cb_some h
  obtain ⟨n, h4, h⟩ := ob_some h
  rw [asI_some h2] at hy
  have hk := isI64_true h3
  have hn2 := natI_some h4
  cases hy
  have none : ∀ q, X = .pointer q → out = .pv (.str []) → n = 0 → OutOk T0 w0 μ w ((execOp a.eval o).run T0.P w) out := fun q e1 e2 e3 => by
    subst e2
    refine ok_pure hR (x := .string .empty) ?_ (.str rfl)
    rw [hrun, hargs, e1, hk, hn2, e3]
    simp only [builtin, Sem.run_bind]
    rw [show (Int.ofNat 0) = 0 from rfl, ustr_none (w := w) (P := T0.P) hats]
    simp only [Result.andThen_ok, Sem.run_pure]
  rcases tb_or (b := Nat.beq n 0) h with ⟨h5, h6⟩ | ⟨h5, h6⟩
  · have e0 := beq_true h5
    rcases tb_or (b := isK0 x) h6 with ⟨h7, h8⟩ | ⟨_, h8⟩
    · rw [isK0_true h7] at hx
      cases hx
      exact none _ rfl (by cases h8; rfl) e0
    · obtain ⟨q, h9, h10⟩ := ob_some h8
      rw [asPt_some h9] at hx
      cases hx
      exact none _ rfl (by cases h10; rfl) e0
  · obtain ⟨q, h7, h⟩ := ob_some h6
    obtain ⟨e, h8, h⟩ := ob_some h
    obtain ⟨ie, h9, h⟩ := ob_some h
    obtain ⟨_, h⟩ := cb_some h
    obtain ⟨h10, h⟩ := cb_some h
    obtain ⟨c1, h11, h⟩ := ob_some h
    obtain ⟨h12, h⟩ := cb_some h
    obtain ⟨c2, h13, h⟩ := ob_some h
    rw [h11] at h13; cases h13
    obtain ⟨h14, h⟩ := cb_some h
    obtain ⟨_, _, h⟩ := ob_some h
    obtain ⟨_, h⟩ := cb_some h
    obtain ⟨_, h⟩ := cb_some h
    obtain ⟨h15, h⟩ := cb_some h
    obtain ⟨bl', h16, h⟩ := ob_some h
    obtain ⟨s, h17, h⟩ := ob_some h
    cases h
    rw [asPt_some h7] at hx
    cases hx with | ptr e1 =>
    rename_i lc
    obtain ⟨ip, h18, h19⟩ := ob_some (x := T0.t pt) h8
    have hup := (hT.ty pt ip h18).und
    have hdp : ip.d = .pointer e := by revert h19; cases ip.d <;> intro h19 <;> cases h19; rfl
    rw [hdp] at hup
    have hlive := hR.live _ _ (cellsAt_some h11)
    obtain ⟨l', m1, arr, g1, g2, g3, g4⟩ := hlive
    rw [e1] at m1; cases m1
    obtain ⟨xs, r1, r2⟩ := readN_sound g4 n q.off bl' h16 (ble_true h14)
    obtain ⟨bs, r3, r4⟩ := bytesL_sound h17 r1
    have hlen : bs.length = n := by
      have := r1.length
      rw [r3, List.length_map, readN_len n q.off bl' h16] at this
      exact this
    have hne : bs.length ≠ 0 := by rw [hlen]; exact Nat.ne_of_beq_eq_false h5
    have hn14 := ble_true h14
    have hn15 := ble_true h15
    have hn14 : q.off + n ≤ c1.n := hn14
    have hrow := ustr_row (w := w) (P := T0.P) (ty := o.type) hats hup (beq_true h10) lc.blk (lc.base + q.off) arr.size (by rw [shape_of g1, beq_true h12]) bs hne (by omega) (by omega) (fun j b hj => by
      have := r2 j (.int .u8 b.toNat) (by rw [r3, List.getElem?_map, hj]; rfl)
      unfold Addr.add
      by_cases hz : j = 0
      · subst hz; simp [World.cell?, g1]; simpa using this
      · simp [hz, World.cell?, g1]; simpa [Nat.add_assoc] using this)
    obtain ⟨f1, f2, f3, f4⟩ := freeze_world w ⟨lc.blk, lc.base + q.off, Option.none⟩ bs.length
    refine ⟨.string ⟨bs.toArray⟩, w.freeze ⟨lc.blk, lc.base + q.off, Option.none⟩ bs.length, μ, .inl ?_, .refl μ, hR.wipe0 (cellsAt_some h11) e1 f1 f2 f3 f4, .str ?_⟩
    · rw [hrun, hargs, hk, hn2]
      simp only [builtin, Sem.run_bind]
      rw [show (Int.ofNat n) = ((bs.length : Nat) : Int) by rw [hlen]; rfl, hrow]
      simp only [Result.andThen_ok, Sem.run_pure]
    · rw [← r4]; simp [bl]
theorem s_cap (hT : TabOk T0) (hR : HR w0 μ σ.hp σ.nx w) (hA : RT μ σ.tm a.tmps) {c : Call} {t e : TypeId} {i : TyI} {l : List AV} {v : AV} (hc : c.callee = .builtin .cap) (ho : o.op = .call c) (ht : headL c.argTypes.toList = some t)
    (hi : T0.t t = some i) (hd : dSlice i.d = some e) (hl : opnds σ.tm c.args.toList = some l) (hv : nthO l 0 = some v) {out : Out} (h : capE σ v = some out) : OutOk T0 w0 μ w ((execOp a.eval o).run T0.P w) out := by
  obtain ⟨x, g1, g2⟩ := args_at hA hl hv
  have hu := run_und (w := w) (hT.ty t i hi)
  rw [dSlice_some hd] at hu
  obtain ⟨cs, hb⟩ := run_builtin (T0 := T0) (a := a) (w := w) hc ho
  rw [hb]
  rcases tb_or (b := isSl0 v) h with ⟨h1, h2⟩ | ⟨_, h2⟩
  · cases h2
    rw [isSl0_true h1] at g2
    cases g2
    refine ok_pure hR (x := .int .i64 0) ?_ .int
    simp only [builtin, Builtin.cap_, arg_type ht, g1, Sem.run_bind, hu, Result.andThen_ok]; rfl
  · obtain ⟨s, h3, h4⟩ := ob_some h2
    cases h4
    rw [asSk_some h3] at g2
    cases g2
    refine ok_pure hR (x := .int .i64 (.ofNat s.c)) ?_ .int
    simp only [builtin, Builtin.cap_, arg_type ht, g1, Sem.run_bind, hu, Result.andThen_ok]; rfl
theorem firstK_sound {H : T AO} {nx : Bn} (hR : HR w0 μ H nx w) {size k : Nat} {v : AV} {x : Value} {new : List AV} (hv : RV μ v x) (h : firstK H size v k = some new) :
    ∃ xs, (∀ w' : World, w'.heap = w.heap → (Builtin.firstCells size k x).run T0.P w' = .ok xs.toArray w') ∧ RVs μ new xs ∧ xs.length = k * size := by
  rcases oc_or h with ⟨_, g⟩ | ⟨s, g1, g2⟩
  · rcases oc_or g with ⟨_, g⟩ | ⟨l, g1, g2⟩
    · obtain ⟨g1, g⟩ := cb_some g
      obtain ⟨g2, g⟩ := cb_some g
      cases g
      have g2 := beq_true g2
      subst g2
      cases hv <;> first
        | (cases g1; done)
        | exact ⟨[], fun _ _ => rfl, .nil, by simp⟩
        | (refine ⟨[], fun _ _ => ?_, .nil, by simp⟩; simp only [Builtin.firstCells, Nat.zero_mul]; rfl)
    · obtain ⟨g3, g⟩ := cb_some g2
      obtain ⟨g4, g⟩ := cb_some g
      cases g
      rw [asS_some g1] at hv
      obtain ⟨s, e1, rfl⟩ := hv.str_inv
      have g3 := beq_true g3
      have g4 : k ≤ lenN l := ble_true g4
      rw [lenN_eq, ← e1, bl_length] at g4
      subst g3
      refine ⟨(s.data.toList.take k).map fun b => .int .u8 b.toNat, fun _ _ => ?_, ?_, ?_⟩
      · have e : (s.extract 0 k).data.toList = s.data.toList.take k := by
          rw [ByteArray.data_extract]
          simp
        simp only [Builtin.firstCells, Sem.run_pure]
        congr 1
        apply Array.ext'
        simp [e]
      · rw [takeN_eq, ← e1]
        have : (bl s).take k = (s.data.toList.take k).map (·.toNat) := by simp [bl]
        rw [this]
        exact mapBytes_sound
      · have : s.data.toList.length = s.size := Array.length_toList
        simp
        omega
  · obtain ⟨lc, c, e1, rfl⟩ := hv.sl_inv g1
    obtain ⟨xs, k1, k2, k3⟩ := readSl_sound (T0 := T0) (s := ⟨s.b, s.off, k⟩) hR g2 e1
    exact ⟨xs, k1, k2, k3⟩
theorem lenOf_sound {v : AV} {x : Value} {n : Nat} (hv : RV μ v x) (h : lenE v = some n) (w' : World) : (Builtin.lenOf x).run T0.P w' = .ok n w' := by
  rcases oc_or h with ⟨_, g⟩ | ⟨s, g1, g2⟩
  · rcases oc_or g with ⟨_, g⟩ | ⟨l, g1, g2⟩
    · obtain ⟨g1, g⟩ := cb_some g
      cases g
      cases hv <;> first | (cases g1; done) | rfl
    · cases g2
      rw [asS_some g1] at hv
      obtain ⟨s, e1, rfl⟩ := hv.str_inv
      rw [lenN_eq, ← e1, bl_length]; rfl
  · cases g2
    obtain ⟨lc, c, e1, rfl⟩ := hv.sl_inv g1
    rfl
theorem s_copy (hT : TabOk T0) (hR : HR w0 μ σ.hp σ.nx w) (hA : RT μ σ.tm a.tmps) {c : Call} {t : TypeId} {l : List AV} {x y : AV} (hc : c.callee = .builtin .copy) (ho : o.op = .call c) (ht : headL c.argTypes.toList = some t)
    (hl : opnds σ.tm c.args.toList = some l) (h0 : nthO l 0 = some x) (h1 : nthO l 1 = some y) {out : Out} (h : copyE T0 σ t x y = some out) : OutOk T0 w0 μ w ((execOp a.eval o).run T0.P w) out := by
  obtain ⟨q, hq, h⟩ := ob_some h
  obtain ⟨n, hn, h⟩ := ob_some h
  obtain ⟨⟨i, hti, hd⟩, hte⟩ := elemI_some hT hq
  have hu := run_und (w := w) hti
  rw [hd] at hu
  obtain ⟨xv, a1, a2⟩ := args_at hA hl h0
  obtain ⟨yv, a3, a4⟩ := args_at hA hl h1
  obtain ⟨cs, hrun⟩ := run_builtin (T0 := T0) (a := a) (w := w) hc ho
  have hlen := lenOf_sound (T0 := T0) a4 hn w
  rcases tb_or (b := isSl0 x) h with ⟨h2, h3⟩ | ⟨_, h3⟩
  · obtain ⟨src, h4, h5⟩ := ob_some h3
    cases h5
    rw [isSl0_true h2] at a2
    cases a2
    obtain ⟨xs, k1, k2, k3⟩ := firstK_sound (T0 := T0) hR a4 h4
    refine ok_pure hR (x := .int .i64 (.ofNat 0)) ?_ .int
    rw [hrun]
    have hm : Nat.min n 0 = 0 := Nat.min_zero n
    simp only [builtin, Builtin.copy_, a1, a3, arg_type ht, Sem.run_bind, hu, Result.andThen_ok, hlen, hm, run_size hte, k1 w rfl, Sem.run_pure]
    rfl
  · obtain ⟨s, h4, h5⟩ := ob_some h3
    obtain ⟨src, h6, h7⟩ := ob_some h5
    obtain ⟨cc, h8, h9⟩ := ob_some h7
    obtain ⟨h10, h11⟩ := cb_some h9
    obtain ⟨t', h12, h13⟩ := ob_some h11
    cases h13
    obtain ⟨lc, c', e1, rfl⟩ := a2.sl_inv h4
    obtain ⟨xs, k1, k2, k3⟩ := firstK_sound (T0 := T0) hR a4 h6
    have hm : tb (Nat.ble n s.len) n s.len = Nat.min n s.len := by
      rcases Nat.lt_or_ge s.len n with z | z
      · have : Nat.ble n s.len = false := by
          cases hb : Nat.ble n s.len with
          | false => rfl
          | true => exact absurd (ble_true hb) (by omega)
        rw [this, tb_false]
        exact (Nat.min_eq_right (Nat.le_of_lt z)).symm
      · rw [Nat.ble_eq_true_of_le z, tb_true]
        exact (Nat.min_eq_left z).symm
    rw [hm] at k1 k3 h10
    have h10 : s.off + Nat.min n s.len * q.2.size ≤ cc.n := ble_true h10
    have hsl : src.length = Nat.min n s.len * q.2.size := by rw [← k2.length, k3]
    obtain ⟨w', p1, p2⟩ := store_sound (P := T0.P) hR h8 e1 h12 (by rw [hsl]; exact h10) k2
    rw [hm]
    refine ⟨.int .i64 (.ofNat (Nat.min n s.len)), w', μ, .inl ?_, .refl μ, p2, .int⟩
    rw [hrun]
    simp only [builtin, Builtin.copy_, a1, a3, arg_type ht, Sem.run_bind, hu, Result.andThen_ok, hlen, run_size hte, k1 w rfl, p1, Sem.run_pure]
    rfl
end
end Ev
end Go.Proofs.Ytdofhlmffponoaa
