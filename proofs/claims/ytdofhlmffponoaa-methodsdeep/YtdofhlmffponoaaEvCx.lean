/- Slices with three bounds; 'clear'. -/
import Derived.Test.YtdofhlmffponoaaEvCv
set_option linter.unusedVariables false
set_option linter.unusedSimpArgs false
namespace Go.Proofs.Ytdofhlmffponoaa
namespace Ev
section
variable {T0 : Tab} {w0 : Fx} {μ : Mu} {σ : AS} {a : Act} {w : World} {o : Oper}
theorem bounds3_run {lo : Option AV} {hi mx : AV} {xl : Option Value} {xh xm : Value} {len cap l h m : Nat} (hl : OV μ lo xl) (hh : RV μ hi xh) (hm : RV μ mx xm) (el : bnd lo 0 = some l) (eh : intOf hi = some h) (em : intOf mx = some m) (h1 : l ≤ h) (h2 : h ≤ m) (h3 : m ≤ cap) :
    (Instr.sliceBounds true len cap xl (some xh) (some xm)).run T0.P w = .ok (l, h, m) w := by
  have q1 : ∀ c, (Instr.sliceBound xm cap c).run T0.P w = .ok m w := fun c => bound_run hm em h3
  have q2 : ∀ c, (Instr.sliceBound xh m c).run T0.P w = .ok h w := fun c => bound_run hh eh h2
  unfold Instr.sliceBounds
  cases lo with
  | none => cases xl with
    | some x => exact hl.elim
    | none => cases el; simp [q1, q2]
  | some v => cases xl with
    | none => exact hl.elim
    | some x => simp [q1, q2, bound_run (T0 := T0) (w := w) (c := .slice3C) hl el h1]
theorem s_slice3 (hT : TabOk T0) (hR : HR w0 μ σ.hp σ.nx w) (hA : RT μ σ.tm a.tmps) {t : TypeId} {q : TypeId × TyI} {x : Operand} {lo : Option Operand} {hi mx : Operand} (hq : elemI T0 t = some q)
    (ho : o.op = .slice t x lo (some hi) (some mx)) {out : Out} (h : opSlice3 σ q.2.size x lo hi mx = some out) : OutOk T0 w0 μ w ((execOp a.eval o).run T0.P w) out := by
  obtain ⟨v, h1, h2⟩ := ob_some h
  obtain ⟨l, h3, h4⟩ := ob_some h2
  obtain ⟨hv', h5, h6⟩ := ob_some h4
  obtain ⟨mv', h5', h6'⟩ := ob_some h6
  obtain ⟨u, h7, rfl⟩ := valE_some h6'
  obtain ⟨n, h8, h9⟩ := ob_some h7
  obtain ⟨k, h10, h11⟩ := ob_some h9
  obtain ⟨m, h12, h13⟩ := ob_some h11
  obtain ⟨⟨i, ht, hd⟩, hte⟩ := elemI_some hT hq
  have hu := run_und (w := w) ht
  rw [hd] at hu
  have hv := opnd_sound hA h1
  have hsz := run_size (w := w) hte
  have key : ∀ {b : Option Addr} {len cap : Nat}, a.eval x = .slice b len cap → n ≤ k → k ≤ m → m ≤ cap →
      (execOp a.eval o).run T0.P w = .ok (.value (.slice (if m = n then b else b.map (·.add (n * q.2.size))) (k - n) (m - n))) w := by
    intro b len cap hx hnk hkm hmc
    have hb := bounds3_run (T0 := T0) (w := w) (len := len) (okO_some hA h3) (opnd_sound hA h5) (opnd_sound hA h5') h8 h10 h12 hnk hkm hmc
    simp only [execOp, ho, Sem.run_bind, Option.map_some, sliceAt_sl hu, Instr.slice, hu, Result.andThen_ok, hx]
    simp [hb, hsz]
  have row : ∀ {s : Sk} {lc : Loc} {cap rl : Nat}, a.eval x = .slice (some ⟨lc.blk, lc.base + s.off, none⟩) s.len rl → μ s.b = some lc → cap ≤ rl → cut3 q.2.size s.b s.off cap n k m = some u → OutOk T0 w0 μ w ((execOp a.eval o).run T0.P w) (.pv u) := by
    intro s lc cap rl hx hb hle g
    obtain ⟨g1, g⟩ := cb_some g
    obtain ⟨g2, g⟩ := cb_some g
    obtain ⟨g3, g⟩ := cb_some g
    cases g
    have g1 := ble_true g1
    have g2 := ble_true g2
    have g3 := ble_true g3
    refine ok_pure hR (key hx g1 g2 (by omega)) ?_
    have hle : k - n ≤ m - n := Nat.sub_le_sub_right g2 n
    rcases tb_or (b := Nat.beq n m) (x := s.off) (y := Nat.add s.off (Nat.mul n q.2.size)) rfl with ⟨g9, g10⟩ | ⟨g9, g10⟩
    · rw [← g10, if_pos (beq_true g9).symm]
      exact .slk hb hle
    · rw [← g10, if_neg (fun e => Nat.ne_of_beq_eq_false g9 e.symm)]
      simp only [Option.map_some, addr_add, Nat.add_assoc]
      exact .slk hb hle
  rcases oc_or h13 with ⟨_, g⟩ | ⟨s, g1, g2⟩
  · rcases oc_or g with ⟨_, g⟩ | ⟨s, g1, g2⟩
    · obtain ⟨g1, g⟩ := cb_some g
      obtain ⟨g2, g⟩ := cb_some g
      obtain ⟨g3, g⟩ := cb_some g
      obtain ⟨g4, g⟩ := cb_some g
      cases g
      rw [isSl0_true g1] at hv
      have hx : a.eval x = .slice none 0 0 := by generalize a.eval x = y at hv; cases hv; rfl
      have e1 := beq_true g2
      have e2 := beq_true g3
      have e3 := beq_true g4
      subst e1; subst e2; subst e3
      exact ok_pure hR (key hx (Nat.le_refl _) (Nat.le_refl _) (Nat.le_refl _)) (by simp; exact .sl0)
    · rw [asSk_some g1] at hv
      generalize hx : a.eval x = y at hv row
      cases hv with | slk e1 e2 =>
      exact row rfl e1 (Nat.le_refl _) g2
  · rw [asSu_some g1] at hv
    generalize hx : a.eval x = y at hv row
    cases hv with | slu e1 e2 =>
    exact row rfl e1 (by omega) g2
theorem s_clear (hT : TabOk T0) (hR : HR w0 μ σ.hp σ.nx w) (hA : RT μ σ.tm a.tmps) {c : Call} {t : TypeId} {l : List AV} {x : AV} (hc : c.callee = .builtin .clear) (ho : o.op = .call c) (ht : headL c.argTypes.toList = some t)
    (hl : opnds σ.tm c.args.toList = some l) (h0 : nthO l 0 = some x) {out : Out} (h : clearE T0 σ t x = some out) : OutOk T0 w0 μ w ((execOp a.eval o).run T0.P w) out := by
  obtain ⟨q, hq, h⟩ := ob_some h
  obtain ⟨⟨i, hti, hd⟩, hte⟩ := elemI_some hT hq
  have hu := run_und (w := w) hti
  rw [hd] at hu
  obtain ⟨xv, a1, a2⟩ := args_at hA hl h0
  obtain ⟨cs, hrun⟩ := run_builtin (T0 := T0) (a := a) (w := w) hc ho
  have none : (∃ a' c', xv = .slice a' 0 c') → out = .pv (.tup []) → OutOk T0 w0 μ w ((execOp a.eval o).run T0.P w) out := by
    rintro ⟨a', c', rfl⟩ rfl
    refine ok_pure hR (x := .tuple #[]) ?_ (.tup .nil)
    rw [hrun]
    simp only [builtin, Builtin.clear_, a1, arg_type ht, Sem.run_bind, hu, Result.andThen_ok]
    cases a' <;> simp
  rcases oc_or h with ⟨g0, g⟩ | ⟨s, g0, g⟩
  · obtain ⟨g1, g2⟩ := cb_some g
    cases g2
    refine none ?_ rfl
    cases a2 <;> first | (cases g1; done) | exact ⟨_, _, rfl⟩
  · obtain ⟨lc, c', e1, rfl⟩ := a2.sl_inv g0
    rcases tb_or (b := Nat.beq s.len 0) g with ⟨g1, g2⟩ | ⟨g1, g2⟩
    · cases g2
      exact none ⟨_, _, by rw [beq_true g1]⟩ rfl
    · obtain ⟨cc, g3, g4⟩ := ob_some g2
      obtain ⟨g5, g6⟩ := cb_some g4
      obtain ⟨t', g7, g8⟩ := ob_some g6
      cases g8
      obtain ⟨z, z1, z2⟩ := run_zero (w := w) hte
      have hz : Builtin.zeroCells z.cells s.len = ⟨repN z.cells.toList s.len⟩ := zeros_eq z.cells _
      have hlen : (repN q.2.zero s.len).length = s.len * q.2.size := by rw [repN_len, hte.zlen]
      obtain ⟨w', p1, p2⟩ := store_sound (P := T0.P) hR g3 e1 g7 (by rw [hlen]; exact ble_true g5) ((z2.any (μ := μ)).rep s.len)
      refine ⟨.tuple #[], w', μ, .inl ?_, .refl μ, p2, .tup .nil⟩
      rw [hrun]
      have hne : s.len ≠ 0 := Nat.ne_of_beq_eq_false g1
      simp only [builtin, Builtin.clear_, a1, arg_type ht, Sem.run_bind, hu, Result.andThen_ok]
      obtain ⟨j, hj⟩ : ∃ j, s.len = j + 1 := ⟨s.len - 1, by omega⟩
      rw [hj] at hz p1 ⊢
      simp only [Sem.run_bind, z1, Result.andThen_ok, hz, p1, Sem.run_pure]
end
end Ev
end Go.Proofs.Ytdofhlmffponoaa
