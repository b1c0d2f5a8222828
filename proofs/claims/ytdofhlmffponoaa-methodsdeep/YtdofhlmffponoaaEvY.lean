/- 'append': the operation is what the evaluator says. -/
import Derived.Test.YtdofhlmffponoaaEvA6
set_option linter.unusedVariables false
set_option linter.unusedSimpArgs false
namespace Go.Proofs.Ytdofhlmffponoaa
namespace Ev
theorem getN_ofL {α : Type} (l : List α) (k : Nat) : (T.ofL (Nat.succ (lenN l)) l).getN k = l[k]? := by
  rw [lenN_eq]; exact ofL_get _ _ (Nat.lt_succ_self _) k
section
variable {T0 : Tab} {w0 : Fx} {μ : Mu} {σ : AS} {a : Act} {w : World} {o : Oper}
theorem rowT_of (hT : TabOk T0) {c : Call} (h : rowT T0 c.argTypes.toList = true) : ∃ t2 d2, c.argTypes[1]? = some t2 ∧ T0.P.underlying t2 = some d2 ∧ ((∃ e, d2 = .slice e) ∨ d2 = .string) := by
  rcases oc_or h with ⟨_, q⟩ | ⟨i, q1, q2⟩
  · cases q
  obtain ⟨t, h1, h2⟩ := ob_some q1
  refine ⟨t, i.d, by rw [nthO_eq] at h1; simpa using h1, (hT.ty t i h2).und, ?_⟩
  rcases oc_or q2 with ⟨_, q3⟩ | ⟨e, q3, _⟩
  · exact .inr (dStr_true q3)
  · exact .inl ⟨e, dSlice_some q3⟩
/-- What 'append' leaves, whatever is appended. -/
theorem app_core (hR : HR w0 μ σ.hp σ.nx w) {q : TypeId × TyI} {n m : Nat} {new : List AV} {ys : List Value} {s : AV} {sv : Value} (k2 : RVs μ new ys) (hnl : new.length = n * q.2.size) (a2 : RV μ s sv) (hm : lenSl s = some m)
    (app : ∀ {base : Option Addr} {cap : Nat}, sv = .slice base m cap →
      (m + n ≤ cap → (execOp a.eval o).run T0.P w = (match base with
        | none => .ok (.value (.slice none (m + n) cap)) w
        | some ad => ((storeCells (ad.add (m * q.2.size)) ys).run T0.P w).andThen fun _ w' => .ok (.value (.slice (some ad) (m + n) cap)) w')) ∧
      (cap < m + n → ∀ olds : List Value, (∀ w' : World, w'.heap = w.heap → (Builtin.firstCells q.2.size m (.slice base m cap)).run T0.P w' = .ok olds.toArray w') →
        ∃ (nc : Nat) (ext : List Value), m + n ≤ nc ∧ ext.length = (nc - (m + n)) * q.2.size ∧
          (execOp a.eval o).run T0.P w = .ok (.value (.slice (some ⟨w.heap.size, 0, none⟩) (m + n) nc)) { w with drawn := w.drawn + 1, heap := w.heap.push (.cells ((olds ++ ys) ++ ext).toArray q.1 (0, 0)) }))
    {out : Out} (h : appTo σ q.1 q.2.size n new s = some out) : OutOk T0 w0 μ w ((execOp a.eval o).run T0.P w) out := by
  rcases oc_or h with ⟨_, g⟩ | ⟨u, g1, g2⟩
  · rcases oc_or g with ⟨_, g⟩ | ⟨k, g1, g2⟩
    · -- nil
      obtain ⟨g1, g2⟩ := cb_some g
      rw [isSl0_true g1] at a2 hm
      have hm : m = 0 := by cases hm; rfl
      have hsv : sv = .slice none 0 0 := by cases a2; rfl
      subst hm
      rcases tb_or g2 with ⟨g3, g4⟩ | ⟨g3, g4⟩
      · cases g4
        have e := beq_true g3
        subst e
        exact ok_pure hR ((app hsv).1 (Nat.le_refl _)) .sl0
      · cases g4
        have e : n ≠ 0 := Nat.ne_of_beq_eq_false g3
        obtain ⟨nc, ext, e1, e2, e3⟩ := (app hsv).2 (by omega) [] (fun w' _ => by simp [Builtin.firstCells])
        rw [Nat.zero_add] at e1 e2 e3
        exact ok_grow hR (by simpa using e3) k2 hnl (fun k _ => getN_ofL new k) e1 e2
    · -- the room is known
      have hs := asSk_some g1
      rw [hs] at a2 hm
      have hm : k.len = m := by cases hm; rfl
      subst hm
      cases a2 with | slk e1 e2 =>
      rename_i lc
      rcases tb_or g2 with ⟨g3, g4⟩ | ⟨g3, g4⟩
      · obtain ⟨cc, g5, g6⟩ := ob_some g4
        obtain ⟨g7, g8⟩ := cb_some g6
        obtain ⟨t', g9, g10⟩ := ob_some g8
        cases g10
        have g7 : k.off + (k.len + n) * q.2.size ≤ cc.n := ble_true g7
        rw [Nat.add_mul] at g7
        obtain ⟨w', p1, p2⟩ := store_sound (P := T0.P) hR g5 e1 g9 (show k.off + k.len * q.2.size + new.length ≤ cc.n by rw [hnl]; omega) k2
        refine ⟨_, w', μ, .inl ?_, .refl μ, p2, .slk e1 (ble_true g3)⟩
        rw [(app rfl).1 (ble_true g3)]
        have p1 : (storeCells ⟨lc.blk, lc.base + (k.off + k.len * q.2.size), none⟩ ys).run T0.P w = .ok () w' := p1
        simp only [addr_add, Nat.add_assoc, p1, Result.andThen_ok]; rfl
      · obtain ⟨old, g5, g6⟩ := ob_some g4
        cases g6
        obtain ⟨olds, p1, p2, p3⟩ := readSl_sound (T0 := T0) (s := ⟨k.b, k.off, k.len⟩) hR g5 e1
        have hlt : k.c < k.len + n := by
          rcases Nat.lt_or_ge k.c (k.len + n) with q' | q'
          · exact q'
          · have : Nat.ble (Nat.add k.len n) k.c = true := Nat.ble_eq_true_of_le q'
            rw [this] at g3; cases g3
        obtain ⟨nc, ext, f1, f2, f3⟩ := (app rfl).2 hlt olds p1
        have hol : old.length = k.len * q.2.size := by rw [← p2.length, p3]
        exact ok_grow hR f3 (by rw [appN_eq]; exact p2.append k2) (by rw [appN_eq, List.length_append, hol, hnl, ← Nat.add_mul]; rfl) (fun j _ => getN_ofL _ j) f1 f2
  · -- the room is not known
    have hs := asSu_some g1
    rw [hs] at a2 hm
    have hm : u.len = m := by cases hm; rfl
    subst hm
    cases a2 with | slu e1 e0 =>
    rename_i lc
    obtain ⟨cc, g3, g4⟩ := ob_some g2
    obtain ⟨f1, g4⟩ := cb_some g4
    obtain ⟨f0, g4⟩ := cb_some g4
    obtain ⟨f2, g4⟩ := cb_some g4
    obtain ⟨f3, g4⟩ := cb_some g4
    obtain ⟨f4, g4⟩ := cb_some g4
    have f0 : cc.el = q.1 := beq_true f0
    have f1 : 0 < q.2.size := by rw [blt_eq] at f1; simpa using f1
    have f2 : cc.es = q.2.size := beq_true f2
    have f3 : u.off = u.c * q.2.size := beq_true f3
    have f4 : u.off + u.len * q.2.size ≤ cc.n := ble_true f4
    obtain ⟨lc', m', r⟩ := hR.live _ _ (cellsAt_some g3)
    rw [e1] at m'; cases m'
    have r0 := r
    obtain ⟨cs, r1, r2, ⟨r3, r4⟩, r5⟩ := r
    rw [f2] at r3 r4
    have r4 : cc.n ≤ lc.cap * q.2.size := by
      rcases r4 with z | z
      · omega
      · exact z
    have eadd : (u.len + n) * q.2.size = u.len * q.2.size + new.length := by rw [hnl, Nat.add_mul]
    have hys : ys.length = new.length := k2.length
    rcases tb_or g4 with ⟨g5, g6⟩ | ⟨g5, g6⟩
    · obtain ⟨t', g7, g8⟩ := ob_some g6
      cases g8
      have g5 : u.off + (u.len + n) * q.2.size ≤ cc.n := ble_true g5
      have hroom : u.len + n ≤ lc.cap - u.c := by
        have : (u.c + (u.len + n)) * q.2.size ≤ lc.cap * q.2.size := by rw [Nat.add_mul, ← f3]; omega
        have := Nat.le_of_mul_le_mul_right this f1
        omega
      obtain ⟨w', p1, p2⟩ := store_sound (P := T0.P) hR g3 e1 g7 (show u.off + u.len * q.2.size + new.length ≤ cc.n by omega) k2
      refine ⟨_, w', μ, .inl ?_, .refl μ, p2, .slu e1 (show u.len + n + u.c ≤ lc.cap by omega)⟩
      rw [(app rfl).1 hroom]
      have p1 : (storeCells ⟨lc.blk, lc.base + (u.off + u.len * q.2.size), none⟩ ys).run T0.P w = .ok () w' := p1
      simp only [addr_add, Nat.add_assoc, p1, Result.andThen_ok]; rfl
    · obtain ⟨t', g7, g8⟩ := ob_some g6
      cases g8
      -- what the new row holds
      have hboth : (∀ v ∈ new, lone1 v = true) ∧ (∀ k, u.len * q.2.size ≤ k → k < (u.len + n) * q.2.size → t'.getN k = new[k - u.len * q.2.size]?) ∧
          ∀ k v, k < u.len * q.2.size → t'.getN k = some v → ∃ x, cs[lc.base + u.off + k]? = some x ∧ RV μ v x := by
        rcases tb_or g7 with ⟨z1, z2⟩ | ⟨z1, z2⟩
        · have z1 : u.off = 0 := beq_true z1
          obtain ⟨z5, z3⟩ := writeN_get _ _ z2
          have z3 : ∀ k, t'.getN k = if u.len * q.2.size ≤ k ∧ k < u.len * q.2.size + new.length then new[k - u.len * q.2.size]? else cc.t.getN k := z3
          refine ⟨z5, fun k hk1 hk2 => ?_, fun k v hk hv => ?_⟩
          · rw [z3 k, if_pos ⟨hk1, by omega⟩]
          · rw [z3 k, if_neg (by omega)] at hv
            obtain ⟨x, hx, hr⟩ := r5 k v (by omega) hv
            exact ⟨x, by rw [z1]; exact hx, hr⟩
        · obtain ⟨z5, z6⟩ := cb_some z2
          obtain ⟨old, z3, z4⟩ := ob_some z6
          cases z4
          have ylen : old.length = u.len * q.2.size := readN_len _ _ _ z3
          refine ⟨allL_true z5, fun k hk1 hk2 => ?_, fun k v hk hv => ?_⟩
          · rw [getN_ofL, appN_eq, List.getElem?_append_right (by omega), ylen]
          · rw [getN_ofL, appN_eq] at hv
            obtain ⟨xs, y1, y2⟩ := readN_sound r5 _ _ _ z3 f4
            rw [List.getElem?_append_left (by omega)] at hv
            obtain ⟨x, hx, hr⟩ := y1.get hv
            exact ⟨x, y2 k x hx, hr⟩
      obtain ⟨hone, hnew, hold⟩ := hboth
      have hys1 := ones hone k2
      have hmul : (u.c + u.len) * q.2.size = u.off + u.len * q.2.size := by rw [Nat.add_mul, f3]
      rcases Nat.lt_or_ge (lc.cap - u.c) (u.len + n) with hcap | hcap
      · -- there is none
        obtain ⟨olds, p1, p2, p3⟩ := row_read (P := T0.P) (o := lc.base + u.off) (n := u.len * q.2.size) r1 (by omega)
        obtain ⟨nc, ext, y1, y2, y3⟩ := (app rfl).2 hcap olds p1
        rw [← f0] at y3
        refine ok_growP (xs := olds ++ ys) (hR.drop u.b) y3 (by rw [List.length_append, p2]; show _ = (u.len + n) * q.2.size; omega) (fun k v hk hv => ?_) y1 y2
        rcases Nat.lt_or_ge k (u.len * q.2.size) with z | z
        · obtain ⟨x, hx, hr⟩ := hold k v z hv
          exact ⟨x, by rw [List.getElem?_append_left (by omega), p3 k z]; exact hx, hr⟩
        · rw [hnew k z hk] at hv
          obtain ⟨x, hx, hr⟩ := k2.get hv
          exact ⟨x, by rw [List.getElem?_append_right (by omega), p2]; exact hx, hr⟩
      · -- there is
        have hin : (u.c + (u.len + n)) * q.2.size ≤ lc.cap * q.2.size := Nat.mul_le_mul_right _ (by omega)
        rw [Nat.add_mul, ← f3] at hin
        obtain ⟨w', cs', p1, p2, p3, p4, p5, p6, p7, p8, p9, p10⟩ := row_write (P := T0.P) (o := lc.base + u.off + u.len * q.2.size) r1 (by omega) hys1
        have hn0 := hR.new σ.nx (Nat.le_refl _)
        have hcm : (lc.cap - u.c) * q.2.size = lc.cap * q.2.size - u.off := by rw [Nat.sub_mul, f3]
        refine ⟨.slice (some ⟨lc.blk, lc.base + u.off, none⟩) (u.len + n) (lc.cap - u.c), w', μ.put σ.nx ⟨lc.blk, lc.base + u.off, lc.cap - u.c⟩, .inl ?_, Mu.le_put hn0,
          hR.move (l' := ⟨lc.blk, lc.base + u.off, lc.cap - u.c⟩) (cellsAt_some g3) e1 rfl p4 p5 p6 p7 p8 ⟨cs', p2, ?_, ⟨?_, .inr ?_⟩, fun k v hk hv => ?_⟩, ?_⟩
        · rw [(app rfl).1 hcap]
          have p1 : (storeCells ⟨lc.blk, lc.base + (u.off + u.len * q.2.size), none⟩ ys).run T0.P w = .ok () w' := by rw [← Nat.add_assoc]; exact p1
          simp only [addr_add, Nat.add_assoc, p1, Result.andThen_ok]
        · show lc.base + u.off + (u.len + n) * q.2.size ≤ cs'.size
          omega
        · show lc.base + u.off + (lc.cap - u.c) * q.2.size ≤ cs'.size
          omega
        · show (u.len + n) * q.2.size ≤ (lc.cap - u.c) * q.2.size
          omega
        · have hk : k < (u.len + n) * q.2.size := hk
          rcases Nat.lt_or_ge k (u.len * q.2.size) with z | z
          · obtain ⟨x, hx, hr⟩ := hold k v z hv
            exact ⟨x, (p9 (lc.base + u.off + k) (by omega)).trans hx, hr.mono (Mu.le_put hn0)⟩
          · rw [hnew k z hk] at hv
            obtain ⟨x, hx, hr⟩ := k2.get hv
            refine ⟨x, ?_, hr.mono (Mu.le_put hn0)⟩
            have := p10 (k - u.len * q.2.size) (by omega)
            rw [show lc.base + u.off + u.len * q.2.size + (k - u.len * q.2.size) = lc.base + u.off + k by omega] at this
            rw [this]; exact hx
        · have := RV.slu (μ := μ.put σ.nx ⟨lc.blk, lc.base + u.off, lc.cap - u.c⟩) (b := σ.nx) (off := 0) (len := u.len + n) (less := 0) (l := ⟨lc.blk, lc.base + u.off, lc.cap - u.c⟩) (Mu.put_same _ _ _) (by simpa using hcap)
          simpa using this
theorem s_append (hT : TabOk T0) (hR : HR w0 μ σ.hp σ.nx w) (hA : RT μ σ.tm a.tmps) {c : Call} {t : TypeId} {l : List AV} {s x : AV} (hc : c.callee = .builtin .append) (ho : o.op = .call c) (ht : headL c.argTypes.toList = some t)
    (hrow : rowT T0 c.argTypes.toList = true) (hl : opnds σ.tm c.args.toList = some l) (h0 : nthO l 0 = some s) (h1 : nthO l 1 = some x) {out : Out} (h : appendE T0 σ t s x = some out) :
    OutOk T0 w0 μ w ((execOp a.eval o).run T0.P w) out := by
  obtain ⟨q, hq, h⟩ := ob_some h
  obtain ⟨new, hnew, h⟩ := ob_some h
  obtain ⟨n, hn, h⟩ := ob_some h
  obtain ⟨m, hm, h⟩ := ob_some h
  obtain ⟨hb1, h⟩ := cb_some h
  obtain ⟨hb2, h⟩ := cb_some h
  have hb2 : (m + n) * (q.2.bytes + 1) ≤ 1000000000 := ble_true hb2
  obtain ⟨⟨i, hti, hd⟩, hte⟩ := elemI_some hT hq
  obtain ⟨sv, a1, a2⟩ := args_at hA hl h0
  obtain ⟨xv, a3, a4⟩ := args_at hA hl h1
  obtain ⟨t2, d2, b1, b2, b3⟩ := rowT_of hT hrow
  obtain ⟨ys, k1, k2, k3, k4⟩ := first_sound (T0 := T0) hR a4 hnew hn (fun ⟨u, e⟩ => by subst e; exact beq_true hb1)
  obtain ⟨cs, hrun⟩ := run_builtin (T0 := T0) (a := a) (w := w) hc ho
  have hnl : new.length = n * q.2.size := by rw [← k2.length, k3]
  -- the call, in a slice's words
  have app : ∀ {base : Option Addr} {cap : Nat}, sv = .slice base m cap →
      (m + n ≤ cap → (execOp a.eval o).run T0.P w = (match base with
        | none => .ok (.value (.slice none (m + n) cap)) w
        | some ad => ((storeCells (ad.add (m * q.2.size)) ys).run T0.P w).andThen fun _ w' => .ok (.value (.slice (some ad) (m + n) cap)) w')) ∧
      (cap < m + n → ∀ olds : List Value, (∀ w' : World, w'.heap = w.heap → (Builtin.firstCells q.2.size m (.slice base m cap)).run T0.P w' = .ok olds.toArray w') →
        ∃ (nc : Nat) (ext : List Value), m + n ≤ nc ∧ ext.length = (nc - (m + n)) * q.2.size ∧
          (execOp a.eval o).run T0.P w = .ok (.value (.slice (some ⟨w.heap.size, 0, none⟩) (m + n) nc)) { w with drawn := w.drawn + 1, heap := w.heap.push (.cells ((olds ++ ys) ++ ext).toArray q.1 (0, 0)) }) := by
    intro base cap e
    rw [e] at a1
    obtain ⟨r1, r2⟩ := app_run (T0 := T0) (w := w) (ty := o.type) (arg_type ht) a1 a3 hti hd hte b1 b2 b3 (fun w' _ => k4 w') k1
    constructor
    · intro hcap
      rw [hrun]
      simp only [builtin, Sem.run_bind, r1 hcap]
      cases base with
      | none => rfl
      | some ad =>
        dsimp only
        cases (storeCells (ad.add (m * q.2.size)) ys).run T0.P w <;> rfl
    · intro hcap olds hold
      obtain ⟨nc, z, e1, e2, e3⟩ := r2 hcap hb2 olds hold
      refine ⟨nc, repN z.cells.toList (nc - (m + n)), e1, by rw [repN_len, e2.length, hte.zlen], ?_⟩
      rw [hrun]
      simp only [builtin, Sem.run_bind, e3, Result.andThen_ok, Sem.run_pure]
  exact app_core hR k2 hnl a2 hm app h
theorem sl_or {v : AV} {x : Value} {m : Nat} (h : RV μ v x) (hm : lenSl v = some m) : ∃ base cap, x = .slice base m cap := by
  rcases oc_or hm with ⟨_, g⟩ | ⟨s, g1, g2⟩
  · obtain ⟨g1, g2⟩ := cb_some g
    cases g2
    cases h <;> first | (cases g1; done) | exact ⟨_, _, rfl⟩
  · cases g2
    obtain ⟨lc, c', e1, rfl⟩ := h.sl_inv g1
    exact ⟨_, _, rfl⟩
theorem intT_of (hT : TabOk T0) {c : Call} (h : intT T0 c.argTypes.toList = true) : ∃ t2 kk, c.argTypes[1]? = some t2 ∧ T0.P.underlying t2 = some (.int kk) := by
  rcases oc_or h with ⟨_, q⟩ | ⟨i, q1, q2⟩
  · cases q
  obtain ⟨t, h1, h2⟩ := ob_some q1
  have hu := (hT.ty t i h2).und
  cases hd : i.d with
  | int kk => rw [hd] at hu; exact ⟨t, kk, by rw [nthO_eq] at h1; simpa using h1, hu⟩
  | _ => rw [hd] at q2; cases q2
theorem s_appendZ (hT : TabOk T0) (hR : HR w0 μ σ.hp σ.nx w) (hA : RT μ σ.tm a.tmps) {c : Call} {t : TypeId} {l : List AV} {s x : AV} (hc : c.callee = .builtin .append) (ho : o.op = .call c) (ht : headL c.argTypes.toList = some t)
    (hrow : intT T0 c.argTypes.toList = true) (hl : opnds σ.tm c.args.toList = some l) (h0 : nthO l 0 = some s) (h1 : nthO l 1 = some x) {out : Out} (h : appendZ T0 σ t s x = some out) :
    OutOk T0 w0 μ w ((execOp a.eval o).run T0.P w) out := by
  obtain ⟨q, hq, h⟩ := ob_some h
  obtain ⟨p, hp, h⟩ := ob_some h
  obtain ⟨hb1, h⟩ := cb_some h
  obtain ⟨n, hn, h⟩ := ob_some h
  obtain ⟨m, hm, h⟩ := ob_some h
  obtain ⟨hb2, h⟩ := cb_some h
  have hb2 : (m + n) * (q.2.bytes + 1) ≤ 1000000000 := ble_true hb2
  obtain ⟨⟨i, hti, hd⟩, hte⟩ := elemI_some hT hq
  obtain ⟨sv, a1, a2⟩ := args_at hA hl h0
  obtain ⟨xv, a3, a4⟩ := args_at hA hl h1
  rw [asI_some hp] at a4
  have hx := a4.int_inv
  rw [isI64_true hb1, natI_some hn] at hx
  subst hx
  obtain ⟨t2, kk, b1, b2⟩ := intT_of hT hrow
  obtain ⟨cs, hrun⟩ := run_builtin (T0 := T0) (a := a) (w := w) hc ho
  rcases sl_or a2 hm with ⟨base, cap, e⟩
  obtain ⟨z, z1, r1, r2⟩ := app_runZ (T0 := T0) (w := w) (ty := o.type) (cap := cap) (base := base) (arg_type ht) (by rw [← e]; exact a1) a3 hti hd hte b1 b2 hb2
  refine app_core (ys := repN z.cells.toList n) hR ((z1.any (μ := μ)).rep n) (by rw [repN_len, hte.zlen]) a2 hm (fun {base' cap'} e' => ?_) h
  rw [e] at e'
  cases e'
  constructor
  · intro hcap
    rw [hrun]
    simp only [builtin, Sem.run_bind, r1 hcap]
    cases base with
    | none => rfl
    | some ad =>
      dsimp only
      cases (storeCells (ad.add (m * q.2.size)) (repN z.cells.toList n)).run T0.P w <;> rfl
  · intro hcap olds hold
    obtain ⟨nc, e1, e3⟩ := r2 hcap olds hold
    refine ⟨nc, repN z.cells.toList (nc - (m + n)), e1, by rw [repN_len, z1.length, hte.zlen], ?_⟩
    rw [hrun]
    simp only [builtin, Sem.run_bind, e3, Result.andThen_ok, Sem.run_pure]
end
end Ev
end Go.Proofs.Ytdofhlmffponoaa
