/- 'append'. -/
import Derived.Test.YtpmjneggkccaiaaGreatDoorEvL
set_option linter.unusedVariables false
set_option linter.unusedSimpArgs false
namespace Go.Proofs.YtpmjneggkccaiaaGreatDoor
namespace Ev
theorem growBy_le (n : Nat) : ∀ (r c : Nat), c < n → Builtin.growBy n r c ≤ 2 * n + 192
  | 0, c, h => by simp only [Builtin.growBy]; omega
  | r + 1, c, h => by
    simp only [Builtin.growBy]
    rw [if_neg (by omega)]
    rcases Nat.lt_or_ge (c + (c + 768) / 4) n with q | q
    · exact growBy_le n r _ q
    · cases r with
      | zero => simp only [Builtin.growBy]; omega
      | succ r => simp only [Builtin.growBy]; rw [if_pos q]; omega
theorem nextcap_le {n c : Nat} (h : c < n) : Builtin.nextslicecap n c ≤ 2 * n + 192 := by
  unfold Builtin.nextslicecap
  split
  · omega
  · split
    · omega
    · exact growBy_le n 4 c h
section
variable {T0 : Tab} {w0 : Fx} {μ : Mu} {σ : AS} {a : Act} {w : World} {o : Oper}
/-- The cells of a slice. -/
theorem readSl_sound {H : T AO} {nx : Bn} (hR : HR w0 μ H nx w) {size : Nat} {s : Sl} {l : List AV} {lc : Loc} (h : readSl H size s = some l) (hl : μ s.b = some lc) :
    ∃ xs, (∀ w' : World, w'.heap = w.heap → (loadCells ⟨lc.blk, lc.base + s.off, none⟩ (s.len * size)).run T0.P w' = .ok xs.toArray w') ∧ RVs μ l xs ∧ xs.length = s.len * size := by
  obtain ⟨c, h1, h2⟩ := ob_some h
  obtain ⟨h3, h4⟩ := cb_some h2
  obtain ⟨lc', m, r⟩ := hR.live _ _ (cellsAt_some h1)
  rw [hl] at m; cases m
  obtain ⟨cs, g1, g2, _, g4⟩ := r
  obtain ⟨xs, r1, r2⟩ := readN_sound g4 _ _ _ h4 (ble_true h3)
  have hx : xs.length = s.len * size := by rw [r1.length, readN_len _ _ _ h4]; rfl
  refine ⟨xs, fun w' hw' => ?_, r1, hx⟩
  have := run_loadCells_list (P := T0.P) w' ⟨lc.blk, lc.base + s.off, none⟩ xs (fun j y hy => by rw [addr_add]; simp [World.cell?, hw', g1, r2 j y hy])
  rw [hx] at this
  exact this
theorem mapBytes_sound : ∀ {s : List UInt8}, RVs μ (mapBytes (s.map (·.toNat))) (s.map fun b => .int .u8 b.toNat)
  | [] => .nil
  | _ :: s => .cons .int (mapBytes_sound (s := s))
/-- What is appended. -/
theorem first_sound {H : T AO} {nx : Bn} (hR : HR w0 μ H nx w) {size n : Nat} {v : AV} {x : Value} {new : List AV} (hv : RV μ v x) (h1 : sliceCells H size v = some new) (h2 : lenE v = some n) (hb : (∃ l, v = .str l) → size = 1) :
    ∃ xs, (∀ w' : World, w'.heap = w.heap → (Builtin.firstCells size n x).run T0.P w' = .ok xs.toArray w') ∧ RVs μ new xs ∧ xs.length = n * size ∧ ∀ w' : World, (Builtin.lenOf x).run T0.P w' = .ok n w' := by
  rcases oc_or h1 with ⟨q, g⟩ | ⟨s, g1, g2⟩
  · rw [lenE, q] at h2
    rcases oc_or g with ⟨q', g⟩ | ⟨l, g1, g2⟩
    · rw [q'] at h2
      obtain ⟨g1, g2⟩ := cb_some g
      cases g2
      obtain ⟨_, g3⟩ := cb_some (show cb (noEl v) (some 0) = some n from h2)
      cases g3
      cases hv <;> first
        | (cases g1; done)
        | exact ⟨[], fun _ _ => rfl, .nil, by simp, fun _ => rfl⟩
        | (refine ⟨[], fun _ _ => ?_, .nil, by simp, fun _ => rfl⟩; simp only [Builtin.firstCells, Nat.zero_mul]; rfl)
    · rw [g1] at h2
      cases g2
      have h2 : lenN l = n := by cases h2; rfl
      rw [asS_some g1] at hv
      obtain ⟨s, e1, rfl⟩ := hv.str_inv
      have hs := hb ⟨l, asS_some g1⟩
      rw [lenN_eq, ← e1, bl_length] at h2
      subst h2
      refine ⟨s.data.toList.map fun b => .int .u8 b.toNat, fun _ _ => ?_, by rw [← e1]; exact mapBytes_sound, by rw [hs]; simp, fun _ => rfl⟩
      have e : (s.extract 0 s.size).data = s.data := by
        rw [ByteArray.data_extract]
        show s.data.extract 0 s.data.size = s.data
        simp
      simp only [Builtin.firstCells, e, Sem.run_pure]
      congr 1
      exact Array.ext' (by simp)
  · rw [lenE, g1] at h2
    have h2 : s.len = n := by cases h2; rfl
    obtain ⟨lc, c, e1, rfl⟩ := hv.sl_inv g1
    obtain ⟨xs, k1, k2, k3⟩ := readSl_sound (T0 := T0) hR g2 e1
    subst h2
    exact ⟨xs, k1, k2, k3, fun _ => rfl⟩
end
end Ev
end Go.Proofs.YtpmjneggkccaiaaGreatDoor
