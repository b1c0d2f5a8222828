/- Parts of texts and of slices: the operations. -/
import Derived.Test.YtpmjneggkccaiaaGreatDoorEvK
set_option linter.unusedVariables false
set_option linter.unusedSimpArgs false
namespace Go.Proofs.YtpmjneggkccaiaaGreatDoor
namespace Ev
theorem bl_extract (s : ByteArray) (l h : Nat) : bl (s.extract l h) = ((bl s).drop l).take (h - l) := by
  simp only [bl, ByteArray.data_extract, Array.toList_extract, List.extract_eq_take_drop, List.map_take, List.map_drop]
section
variable {T0 : Tab} {w0 : Fx} {μ : Mu} {σ : AS} {a : Act} {w : World} {o : Oper}
theorem sliceAt_str {t : TypeId} {x : Value} {lo hi mx : Option Value} (hu : (underlying t).run T0.P w = .ok .string w) : (Instr.sliceAt t x lo hi mx).run T0.P w = (Instr.slice t x lo hi mx).run T0.P w := by
  simp only [Instr.sliceAt, Sem.run_bind, hu, Result.andThen_ok]
theorem sliceAt_sl {t e : TypeId} {x : Value} {lo hi mx : Option Value} (hu : (underlying t).run T0.P w = .ok (.slice e) w) : (Instr.sliceAt t x lo hi mx).run T0.P w = (Instr.slice t x lo hi mx).run T0.P w := by
  simp only [Instr.sliceAt, Sem.run_bind, hu, Result.andThen_ok]
theorem s_sliceS (hT : TabOk T0) (hR : HR w0 μ σ.hp σ.nx w) (hA : RT μ σ.tm a.tmps) {t : TypeId} {i : TyI} {x : Operand} {lo hi : Option Operand} (hi' : T0.t t = some i) (hd : dStr i.d = true)
    (ho : o.op = .slice t x lo hi none) {out : Out} (h : opSliceS σ x lo hi = some out) : OutOk T0 w0 μ w ((execOp a.eval o).run T0.P w) out := by
  obtain ⟨v, h1, h2⟩ := ob_some h
  obtain ⟨l, h3, h4⟩ := ob_some h2
  obtain ⟨k, h5, h6⟩ := ob_some h4
  obtain ⟨u, h7, rfl⟩ := valE_some h6
  obtain ⟨n, h8, h9⟩ := ob_some h7
  obtain ⟨s, h10, h11⟩ := ob_some h9
  obtain ⟨m, h12, h13⟩ := ob_some h11
  obtain ⟨h14, h15⟩ := cb_some h13
  obtain ⟨h16, h17⟩ := cb_some h15
  cases h17
  have hv := opnd_sound hA h1
  rw [asS_some h10] at hv
  obtain ⟨s', e1, e2⟩ := hv.str_inv
  have hsz : lenN s = s'.size := by rw [lenN_eq, ← e1, bl_length]
  rw [hsz] at h12 h16
  have hu := run_und (w := w) (hT.ty t i hi')
  rw [dStr_true hd] at hu
  have hb := bounds_run (T0 := T0) (w := w) (b := false) (okO_some hA h3) (okO_some hA h5) h8 h12 (ble_true h14) (ble_true h16)
  refine ok_pure hR (x := .string (s'.extract n m)) ?_ (.str (by rw [← e1, cutN_eq (bl_lt _) (by rw [bl_length]; have q1 := ble_true h14; have q2 := ble_true h16; show n + (m - n) ≤ _; omega), bl_extract]; rfl))
  simp only [execOp, ho, Sem.run_bind, Option.map_none, sliceAt_str hu, Instr.slice, hu, Result.andThen_ok, e2]
  simp [hb]
theorem s_slice (hT : TabOk T0) (hR : HR w0 μ σ.hp σ.nx w) (hA : RT μ σ.tm a.tmps) {t : TypeId} {q : TypeId × TyI} {x : Operand} {lo hi : Option Operand} (hq : elemI T0 t = some q)
    (ho : o.op = .slice t x lo hi none) {out : Out} (h : opSlice σ q.2.size x lo hi = some out) : OutOk T0 w0 μ w ((execOp a.eval o).run T0.P w) out := by
  obtain ⟨v, h1, h2⟩ := ob_some h
  obtain ⟨l, h3, h4⟩ := ob_some h2
  obtain ⟨k, h5, h6⟩ := ob_some h4
  obtain ⟨u, h7, rfl⟩ := valE_some h6
  obtain ⟨n, h8, h9⟩ := ob_some h7
  obtain ⟨⟨i, ht, hd⟩, hte⟩ := elemI_some hT hq
  have hu := run_und (w := w) ht
  rw [hd] at hu
  have hv := opnd_sound hA h1
  have hsz := run_size (w := w) hte
  -- what a slice of these bounds is
  have key : ∀ {b : Option Addr} {len cap m : Nat}, a.eval x = .slice b len cap → bnd k len = some m → n ≤ m → m ≤ cap →
      (execOp a.eval o).run T0.P w = .ok (.value (.slice (if cap = n then b else b.map (·.add (n * q.2.size))) (m - n) (cap - n))) w := by
    intro b len cap m hx hm hnm hmc
    have hb := bounds_run (T0 := T0) (w := w) (b := true) (okO_some hA h3) (okO_some hA h5) h8 hm hnm hmc
    simp only [execOp, ho, Sem.run_bind, Option.map_none, sliceAt_sl hu, Instr.slice, hu, Result.andThen_ok, hx]
    simp [hb, hsz]
  rcases oc_or h9 with ⟨_, g⟩ | ⟨s, g1, g2⟩
  · rcases oc_or g with ⟨_, g⟩ | ⟨s, g1, g2⟩
    · obtain ⟨g1, g2⟩ := cb_some g
      obtain ⟨m, g3, g4⟩ := ob_some g2
      obtain ⟨g5, g6⟩ := cb_some g4
      obtain ⟨g7, g8⟩ := cb_some g6
      cases g8
      rw [isSl0_true g1] at hv
      have hx : a.eval x = .slice none 0 0 := by generalize a.eval x = y at hv; cases hv; rfl
      have e1 := beq_true g5
      have e2 := beq_true g7
      subst e1; subst e2
      exact ok_pure hR (key hx g3 (Nat.le_refl _) (Nat.le_refl _)) (by simp; exact .sl0)
    · obtain ⟨m, g3, g4⟩ := ob_some g2
      obtain ⟨g5, g6⟩ := cb_some g4
      obtain ⟨g7, g8⟩ := cb_some g6
      cases g8
      rw [asSk_some g1] at hv
      generalize hx : a.eval x = y at hv
      cases hv with | slk e1 e2 =>
      rename_i lc
      refine ok_pure hR (key hx g3 (ble_true g5) (ble_true g7)) ?_
      have hle : m - n ≤ s.c - n := Nat.sub_le_sub_right (ble_true g7) n
      rcases tb_or (b := Nat.beq n s.c) (x := s.off) (y := Nat.add s.off (Nat.mul n q.2.size)) rfl with ⟨g9, g10⟩ | ⟨g9, g10⟩
      · rw [← g10, if_pos (beq_true g9).symm]
        exact .slk e1 hle
      · rw [← g10, if_neg (fun e => Nat.ne_of_beq_eq_false g9 e.symm)]
        simp only [Option.map_some, addr_add, Nat.add_assoc]
        exact .slk e1 hle
  · obtain ⟨m, g3, g4⟩ := ob_some g2
    obtain ⟨c, g5, g6⟩ := ob_some g4
    obtain ⟨k0, g6⟩ := cb_some g6
    obtain ⟨k1, g6⟩ := cb_some g6
    obtain ⟨k2, g6⟩ := cb_some g6
    obtain ⟨k3, g6⟩ := cb_some g6
    obtain ⟨k4, g6⟩ := cb_some g6
    cases g6
    rw [blt_eq] at k0
    have k0 : 0 < q.2.size := by simpa using k0
    have k1 := beq_true k1
    have k2 : s.off = s.c * q.2.size := beq_true k2
    have k3 := ble_true k3
    have k4 : s.off + m * q.2.size ≤ c.n := ble_true k4
    rw [asSu_some g1] at hv
    generalize hx : a.eval x = y at hv
    cases hv with | slu e1 e2 =>
    rename_i lc
    obtain ⟨lc', m', r⟩ := hR.live _ _ (cellsAt_some g5)
    rw [e1] at m'; cases m'
    obtain ⟨cs, _, _, ⟨_, r4⟩, _⟩ := r
    have r4 : c.n ≤ lc.cap * q.2.size := by
      rcases r4 with r4 | r4
      · omega
      · rw [k1] at r4; exact r4
    have hm : s.c + m ≤ lc.cap := by
      have : (s.c + m) * q.2.size ≤ lc.cap * q.2.size := by rw [Nat.add_mul]; omega
      exact Nat.le_of_mul_le_mul_right this k0
    refine ok_pure hR (key hx g3 k3 (by omega)) ?_
    rcases tb_or (b := Nat.blt (Nat.add s.off (Nat.mul n q.2.size)) c.n) (x := AV.slu s.b (Nat.add s.off (Nat.mul n q.2.size)) (Nat.sub m n) (Nat.add s.c n)) (y := AV.sle) rfl with ⟨g9, g10⟩ | ⟨g9, g10⟩
    · rw [← g10]
      rw [blt_eq] at g9
      have g9 : s.off + n * q.2.size < c.n := by simpa using g9
      have hn : s.c + n < lc.cap := by
        have : (s.c + n) * q.2.size < lc.cap * q.2.size := by rw [Nat.add_mul]; omega
        exact Nat.lt_of_mul_lt_mul_right this
      rw [if_neg (by omega)]
      simp only [Option.map_some, addr_add, Nat.add_assoc]
      rw [show lc.cap - s.c - n = lc.cap - (s.c + n) by omega]
      exact .slu e1 (show m - n + (s.c + n) ≤ lc.cap by omega)
    · rw [← g10]
      rw [blt_eq] at g9
      have g9 : ¬ (s.off + n * q.2.size < c.n) := by simpa using g9
      have hmn : m - n = 0 := by
        rcases Nat.lt_or_ge n m with q' | q'
        · have : (n + 1) * q.2.size ≤ m * q.2.size := Nat.mul_le_mul_right _ q'
          rw [Nat.add_mul] at this; omega
        · omega
      rw [hmn]
      split
      · exact .sle
      · exact .sle
end
end Ev
end Go.Proofs.YtpmjneggkccaiaaGreatDoor
