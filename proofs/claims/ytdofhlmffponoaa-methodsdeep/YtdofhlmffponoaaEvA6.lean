/- 'append'. -/
import Derived.Test.YtdofhlmffponoaaEvA5
set_option linter.unusedVariables false
set_option linter.unusedSimpArgs false
namespace Go.Proofs.Ytdofhlmffponoaa
namespace Ev
theorem growBy_le (n : Nat) : ∀ (r c : Nat), c < n → Builtin.growBy n r c ≤ 2 * n + 192
  | 0, c, h => by simp only [Builtin.growBy]; omega
  | r + 1, c, h => by
    simp only [Builtin.growBy]
    rw [if_neg (by omega)]
    rcases Nat.lt_or_ge (c + (c + 768) / 4) n with q | q
    · exact growBy_le n r _ q
    · cases r with
      | zero => simp only [Builtin.growBy]; omega
      | succ r => simp only [Builtin.growBy]; rw [if_pos q]; omega
theorem nextcap_le {n c : Nat} (h : c < n) : Builtin.nextslicecap n c ≤ 2 * n + 192 := by
  unfold Builtin.nextslicecap
  split
  · omega
  · split
    · omega
    · exact growBy_le n 4 c h
section
variable {T0 : Tab} {w0 : Fx} {μ : Mu} {σ : AS} {a : Act} {w : World} {o : Oper}
/-- The cells of a slice. -/
theorem readSl_sound {H : T AO} {nx : Bn} (hR : HR w0 μ H nx w) {size : Nat} {s : Sl} {l : List AV} {lc : Loc} (h : readSl H size s = some l) (hl : μ s.b = some lc) :
    ∃ xs, (∀ w' : World, w'.heap = w.heap → (loadCells ⟨lc.blk, lc.base + s.off, none⟩ (s.len * size)).run T0.P w' = .ok xs.toArray w') ∧ RVs μ l xs ∧ xs.length = s.len * size := by
  obtain ⟨c, h1, h2⟩ := ob_some h
  obtain ⟨h3, h4⟩ := cb_some h2
  obtain ⟨lc', m, r⟩ := hR.live _ _ (cellsAt_some h1)
  rw [hl] at m; cases m
  obtain ⟨cs, g1, g2, _, g4⟩ := r
  obtain ⟨xs, r1, r2⟩ := readN_sound g4 _ _ _ h4 (ble_true h3)
  have hx : xs.length = s.len * size := by rw [r1.length, readN_len _ _ _ h4]; rfl
  refine ⟨xs, fun w' hw' => ?_, r1, hx⟩
  have := run_loadCells_list (P := T0.P) w' ⟨lc.blk, lc.base + s.off, none⟩ xs (fun j y hy => by rw [addr_add]; simp [World.cell?, hw', g1, r2 j y hy])
  rw [hx] at this
  exact this
theorem mapBytes_sound : ∀ {s : List UInt8}, RVs μ (mapBytes (s.map (·.toNat))) (s.map fun b => .int .u8 b.toNat)
  | [] => .nil
  | _ :: s => .cons .int (mapBytes_sound (s := s))
/-- What is appended. -/
theorem first_sound {H : T AO} {nx : Bn} (hR : HR w0 μ H nx w) {size n : Nat} {v : AV} {x : Value} {new : List AV} (hv : RV μ v x) (h1 : sliceCells H size v = some new) (h2 : lenE v = some n) (hb : (∃ l, v = .str l) → size = 1) :
    ∃ xs, (∀ w' : World, w'.heap = w.heap → (Builtin.firstCells size n x).run T0.P w' = .ok xs.toArray w') ∧ RVs μ new xs ∧ xs.length = n * size ∧ ∀ w' : World, (Builtin.lenOf x).run T0.P w' = .ok n w' := by
  rcases oc_or h1 with ⟨q, g⟩ | ⟨s, g1, g2⟩
  · rw [lenE, q] at h2
    rcases oc_or g with ⟨q', g⟩ | ⟨l, g1, g2⟩
    · rw [q'] at h2
      obtain ⟨g1, g2⟩ := cb_some g
      cases g2
      obtain ⟨_, g3⟩ := cb_some (show cb (noEl v) (some 0) = some n from h2)
      cases g3
      cases hv <;> first
        | (cases g1; done)
        | exact ⟨[], fun _ _ => rfl, .nil, by simp, fun _ => rfl⟩
        | (refine ⟨[], fun _ _ => ?_, .nil, by simp, fun _ => rfl⟩; simp only [Builtin.firstCells, Nat.zero_mul]; rfl)
    · rw [g1] at h2
      cases g2
      have h2 : lenN l = n := by cases h2; rfl
      rw [asS_some g1] at hv
      obtain ⟨s, e1, rfl⟩ := hv.str_inv
      have hs := hb ⟨l, asS_some g1⟩
      rw [lenN_eq, ← e1, bl_length] at h2
      subst h2
      refine ⟨s.data.toList.map fun b => .int .u8 b.toNat, fun _ _ => ?_, by rw [← e1]; exact mapBytes_sound, by rw [hs]; simp, fun _ => rfl⟩
      have e : (s.extract 0 s.size).data = s.data := by
        rw [ByteArray.data_extract]
        show s.data.extract 0 s.data.size = s.data
        simp
      simp only [Builtin.firstCells, e, Sem.run_pure]
      congr 1
      exact Array.ext' (by simp)
  · rw [lenE, g1] at h2
    have h2 : s.len = n := by cases h2; rfl
    obtain ⟨lc, c, e1, rfl⟩ := hv.sl_inv g1
    obtain ⟨xs, k1, k2, k3⟩ := readSl_sound (T0 := T0) hR g2 e1
    subst h2
    exact ⟨xs, k1, k2, k3, fun _ => rfl⟩
end
end Ev
end Go.Proofs.Ytdofhlmffponoaa
/- 'append': the operation. -/
set_option linter.unusedVariables false
set_option linter.unusedSimpArgs false
namespace Go.Proofs.Ytdofhlmffponoaa
namespace Ev
section
variable {T0 : Tab} {w0 : Fx} {μ : Mu} {σ : AS} {a : Act} {w : World} {o : Oper}
/-- 'append' where there is room, and where there is none: as the model runs it. -/
theorem app_run {ats : Array TypeId} {ty st : TypeId} {el : TypeId} {i ei : TyI} {args : Array Value} {base : Option Addr} {m n cap : Nat} {xv : Value} {ys : List Value} {t2 : TypeId} {d2 : TypeDesc}
    (h0 : ats[0]? = some st) (h1 : args[0]? = some (.slice base m cap)) (h2 : args[1]? = some xv) (ht : TyOk T0.P st i) (hd : i.d = .slice el) (hte : TyOk T0.P el ei)
    (h3 : ats[1]? = some t2) (h4 : T0.P.underlying t2 = some d2) (h5 : (∃ e, d2 = .slice e) ∨ d2 = .string)
    (h6 : ∀ w' : World, w'.heap = w.heap → (Builtin.lenOf xv).run T0.P w' = .ok n w') (h7 : ∀ w' : World, w'.heap = w.heap → (Builtin.firstCells ei.size n xv).run T0.P w' = .ok ys.toArray w') :
    (m + n ≤ cap → (Builtin.append_ ats ty args).run T0.P w = (match base with
      | none => .ok (.slice none (m + n) cap) w
      | some ad => ((storeCells (ad.add (m * ei.size)) ys).run T0.P w).andThen fun _ w' => .ok (.slice (some ad) (m + n) cap) w')) ∧
    (cap < m + n → (m + n) * (ei.bytes + 1) ≤ 1000000000 → ∀ olds : List Value, (∀ w' : World, w'.heap = w.heap → (Builtin.firstCells ei.size m (.slice base m cap)).run T0.P w' = .ok olds.toArray w') →
      ∃ (nc : Nat) (z : Value), m + n ≤ nc ∧ RVs (fun _ => none) ei.zero z.cells.toList ∧
      (Builtin.append_ ats ty args).run T0.P w = .ok (.slice (some ⟨w.heap.size, 0, none⟩) (m + n) nc)
        { w with drawn := w.drawn + 1, heap := w.heap.push (.cells (olds ++ ys ++ repN z.cells.toList (nc - (m + n))).toArray el (0, 0)) }) := by
  have hu : ∀ w' : World, (underlying st).run T0.P w' = .ok (.slice el) w' := fun w' => by rw [run_und ht, hd]
  obtain ⟨info, z, g1, g2, g3, g4, g5⟩ := hte.inf
  have hinf : ∀ w' : World, (typeInfo el).run T0.P w' = .ok info w' := fun w' => by simp [typeInfo, program, Sem.run, bind, Sem.bind, g1, pure]
  have hzv : ∀ w' : World, (zeroValue el).run T0.P w' = .ok z w' := fun w' => by simp [zeroValue, hinf, g4]
  constructor
  · intro hc
    rcases h5 with ⟨e, rfl⟩ | rfl <;>
      (simp only [Builtin.append_, h0, h1, h2, Sem.run_bind, hu, Result.andThen_ok, run_size hte, h3, run_underlying h4, Sem.run_pure, Bool.false_eq_true, if_false, h6 w rfl, if_pos hc, Bool.not_false, if_true, h7 w rfl]
       cases base <;> simp)
  · intro hc hb olds hold
    have hnb : (m + n) * ei.bytes ≤ 1000000000 := Nat.le_trans (Nat.mul_le_mul_left _ (Nat.le_succ _)) hb
    have hmn : m + n ≤ 1000000000 := by
      have : (m + n) * 1 ≤ (m + n) * (ei.bytes + 1) := Nat.mul_le_mul_left _ (by omega)
      omega
    have hbb : ei.bytes ≤ 1000000000 := by
      have : 1 * (ei.bytes + 1) ≤ (m + n) * (ei.bytes + 1) := Nat.mul_le_mul_right _ (by omega)
      omega
    have hn : ¬ (Builtin.nextslicecap (m + n) cap * info.bytes > 2 ^ 48) := by
      have e1 := nextcap_le hc
      have e2 : Builtin.nextslicecap (m + n) cap * info.bytes ≤ (2 * (m + n) + 192) * ei.bytes := by rw [g3]; exact Nat.mul_le_mul_right _ e1
      have e3 : (2 * (m + n) + 192) * ei.bytes = 2 * ((m + n) * ei.bytes) + 192 * ei.bytes := by rw [Nat.add_mul, Nat.mul_assoc]
      omega
    have hi : ¬ (((m + n : Nat) : Int) > IntKind.i64.max ∧ ((false : Bool) = true ∨ info.bytes = 0)) := by
      intro q
      have : ((m + n : Nat) : Int) > 9223372036854775807 := q.1
      omega
    have hi' : ¬ (((m + n : Nat) : Int) > IntKind.i64.max ∧ info.bytes = 0) := fun q => hi ⟨q.1, .inr q.2⟩
    refine ⟨(Question.appendCap (m + n) cap el).cut (w.tape w.drawn (.appendCap (m + n) cap el)), z, Nat.le_add_right _ _, g5, ?_⟩
    generalize hnc : (Question.appendCap (m + n) cap el).cut (w.tape w.drawn (.appendCap (m + n) cap el)) = nc
    have hch : (choose (.appendCap (m + n) cap el)).run T0.P w = .ok nc { w with drawn := w.drawn + 1 } := by
      simp [choose, Sem.run, Question.forced, hnc]
    have hzc : Builtin.zeroCells z.cells (nc - (m + n)) = ⟨repN z.cells.toList (nc - (m + n))⟩ := zeros_eq z.cells _
    rcases h5 with ⟨e, rfl⟩ | rfl <;>
      (simp only [Builtin.append_, h0, h1, h2, Sem.run_bind, hu, Result.andThen_ok, run_size hte, h3, run_underlying h4, Sem.run_pure, Bool.false_eq_true, if_false, h6 w rfl, if_neg (Nat.not_le.2 hc), false_or, hinf, if_neg hi', if_neg hn, hch, run_askRoom, Bool.not_false, if_true, hold { w with drawn := w.drawn + 1 } rfl, h7 { w with drawn := w.drawn + 1 } rfl, hzv, run_newRow, hzc]
       congr 3
       congr 2
       exact Array.ext' (by simp))
/-- .. where so many zero values are appended. -/
theorem app_runZ {ats : Array TypeId} {ty st : TypeId} {el : TypeId} {i ei : TyI} {args : Array Value} {base : Option Addr} {m n cap : Nat} {t2 : TypeId} {kk : IntKind}
    (h0 : ats[0]? = some st) (h1 : args[0]? = some (.slice base m cap)) (h2 : args[1]? = some (.int .i64 (.ofNat n))) (ht : TyOk T0.P st i) (hd : i.d = .slice el) (hte : TyOk T0.P el ei)
    (h3 : ats[1]? = some t2) (h4 : T0.P.underlying t2 = some (.int kk)) (hb : (m + n) * (ei.bytes + 1) ≤ 1000000000) :
    ∃ z : Value, RVs (fun _ => none) ei.zero z.cells.toList ∧
    (m + n ≤ cap → (Builtin.append_ ats ty args).run T0.P w = (match base with
      | none => .ok (.slice none (m + n) cap) w
      | some ad => ((storeCells (ad.add (m * ei.size)) (repN z.cells.toList n)).run T0.P w).andThen fun _ w' => .ok (.slice (some ad) (m + n) cap) w')) ∧
    (cap < m + n → ∀ olds : List Value, (∀ w' : World, w'.heap = w.heap → (Builtin.firstCells ei.size m (.slice base m cap)).run T0.P w' = .ok olds.toArray w') →
      ∃ nc : Nat, m + n ≤ nc ∧
      (Builtin.append_ ats ty args).run T0.P w = .ok (.slice (some ⟨w.heap.size, 0, none⟩) (m + n) nc)
        { w with drawn := w.drawn + 1, heap := w.heap.push (.cells (olds ++ repN z.cells.toList n ++ repN z.cells.toList (nc - (m + n))).toArray el (0, 0)) }) := by
  have hu : ∀ w' : World, (underlying st).run T0.P w' = .ok (.slice el) w' := fun w' => by rw [run_und ht, hd]
  obtain ⟨info, z, g1, g2, g3, g4, g5⟩ := hte.inf
  have hinf : ∀ w' : World, (typeInfo el).run T0.P w' = .ok info w' := fun w' => by simp [typeInfo, program, Sem.run, bind, Sem.bind, g1, pure]
  have hzv : ∀ w' : World, (zeroValue el).run T0.P w' = .ok z w' := fun w' => by simp [zeroValue, hinf, g4]
  have hnb : (m + n) * ei.bytes ≤ 1000000000 := Nat.le_trans (Nat.mul_le_mul_left _ (Nat.le_succ _)) hb
  have hmn : m + n ≤ 1000000000 := by
    have : (m + n) * 1 ≤ (m + n) * (ei.bytes + 1) := Nat.mul_le_mul_left _ (by omega)
    omega
  have hwr : IntKind.i64.wrap (Int.ofNat n) = (n : Int) := wrap_small _ (by show (0 : Int) ≤ (n : Int); omega) (by show (n : Int) < _; omega)
  have hl0 : ¬ ((n : Int) < 0) := by omega
  have hn1 : n * ei.bytes ≤ 1000000000 := Nat.le_trans (Nat.mul_le_mul_right _ (Nat.le_add_left _ _)) hnb
  have hl1 : ¬ ((n : Int) * (info.bytes : Int) > 2 ^ 48) := by
    rw [g3]
    have : ((n * ei.bytes : Nat) : Int) ≤ 1000000000 := by omega
    rw [Int.natCast_mul] at this
    omega
  have hzs : z.cells.size = ei.size := by rw [← Array.length_toList, g5.length, hte.zlen]
  have hzc : ∀ k, Builtin.zeroCells z.cells k = ⟨repN z.cells.toList k⟩ := fun k => zeros_eq z.cells k
  have hz0 : n * ei.size = 0 → repN z.cells.toList n = [] := fun e => List.eq_nil_of_length_eq_zero (by rw [repN_len, Array.length_toList, hzs]; exact e)
  refine ⟨z, g5, fun hc => ?_, fun hc olds hold => ?_⟩
  · simp only [Builtin.append_, h0, h1, h2, Sem.run_bind, hu, Result.andThen_ok, run_size hte, h3, run_underlying h4, Sem.run_pure, if_true, asInt, asIntOf, hwr, if_neg hl0, hinf, if_neg hl1, Int.toNat_natCast, if_pos hc, Bool.not_true, Bool.false_eq_true, if_false]
    by_cases e : n * ei.size = 0
    · simp only [if_pos e, Sem.run_pure, Result.andThen_ok, hz0 e]
      cases base <;> simp
    · simp only [if_neg e, Sem.run_bind, hzv, Result.andThen_ok, Sem.run_pure, hzc]
      cases base <;> simp
  · have hn : ¬ (Builtin.nextslicecap (m + n) cap * info.bytes > 2 ^ 48) := by
      have e1 := nextcap_le hc
      have e2 : Builtin.nextslicecap (m + n) cap * info.bytes ≤ (2 * (m + n) + 192) * ei.bytes := by rw [g3]; exact Nat.mul_le_mul_right _ e1
      have e3 : (2 * (m + n) + 192) * ei.bytes = 2 * ((m + n) * ei.bytes) + 192 * ei.bytes := by rw [Nat.add_mul, Nat.mul_assoc]
      have hbb : ei.bytes ≤ 1000000000 := by
        have : 1 * (ei.bytes + 1) ≤ (m + n) * (ei.bytes + 1) := Nat.mul_le_mul_right _ (by omega)
        omega
      omega
    have hi : ¬ (((m + n : Nat) : Int) > IntKind.i64.max) := by
      intro q
      have : ((m + n : Nat) : Int) > 9223372036854775807 := q
      omega
    refine ⟨(Question.appendCap (m + n) cap el).cut (w.tape w.drawn (.appendCap (m + n) cap el)), Nat.le_add_right _ _, ?_⟩
    generalize hnc : (Question.appendCap (m + n) cap el).cut (w.tape w.drawn (.appendCap (m + n) cap el)) = nc
    have hch : (choose (.appendCap (m + n) cap el)).run T0.P w = .ok nc { w with drawn := w.drawn + 1 } := by
      simp [choose, Sem.run, Question.forced, hnc]
    simp only [Builtin.append_, h0, h1, h2, Sem.run_bind, hu, Result.andThen_ok, run_size hte, h3, run_underlying h4, Sem.run_pure, if_true, asInt, asIntOf, hwr, if_neg hl0, hinf, if_neg hl1, Int.toNat_natCast, if_neg (Nat.not_le.2 hc), Bool.not_true, Bool.false_eq_true, if_false, hi, false_and, if_neg hn, hch, run_askRoom, hold { w with drawn := w.drawn + 1 } rfl]
    by_cases e : n * ei.size = 0
    · simp only [if_pos e, Sem.run_pure, Result.andThen_ok, hz0 e, hzv, run_newRow, hzc]
      congr 3
      congr 2
      exact Array.ext' (by simp)
    · simp only [if_neg e, Sem.run_bind, hzv, Result.andThen_ok, Sem.run_pure, hzc, run_newRow]
      congr 3
      congr 2
      exact Array.ext' (by simp)
end
end Ev
end Go.Proofs.Ytdofhlmffponoaa
/- 'append': what the evaluator says of it. -/
set_option linter.unusedVariables false
set_option linter.unusedSimpArgs false
namespace Go.Proofs.Ytdofhlmffponoaa
namespace Ev
/-- A block is no longer looked at. -/
theorem HR.drop {w0 : Fx} {μ : Mu} {H : T AO} {nx : Bn} {w : World} (h : HR w0 μ H nx w) (b : Bn) : HR w0 μ (H.put b none) nx w := by
  have old : ∀ {c : Bn} {y : AO}, (H.put b none).get c = some y → H.get c = some y := by
    intro c y g
    rw [T.put_get] at g
    split at g
    · cases g
    · exact g
  exact ⟨h.ext, fun c o l g => h.base c o l (old g), fun c o g => h.live c o (old g), fun c c' o o' l l' g g' => h.sep c c' o o' l l' (old g) (old g'), h.new, h.res⟩
/-- A block goes on under another name. -/
theorem HR.move {w0 : Fx} {μ : Mu} {H : T AO} {nx : Bn} {w w' : World} (h : HR w0 μ H nx w) {b : Bn} {o a : AO} {l l' : Loc} (hb : H.get b = some o) (hl : μ b = some l) (hbk : l'.blk = l.blk)
    (e1 : w'.os = w.os) (e2 : w'.tape = w.tape) (e3 : w'.output = w.output) (hs : w'.heap.size = w.heap.size)
    (hk : ∀ i, i ≠ l.blk → w'.heap[i]? = w.heap[i]?) (r : RO (μ.put nx l') l' w' a) : HR w0 (μ.put nx l') ((H.put b none).put nx (some a)) nx.succ w' := by
  have hn : μ nx = none := h.new nx (Nat.le_refl _)
  have old : ∀ {c : Bn} {y : AO}, c ≠ nx → ((H.put b none).put nx (some a)).get c = some y → H.get c = some y ∧ c ≠ b := by
    intro c y hc g
    rw [T.put_get, if_neg hc, T.put_get] at g
    split at g
    · cases g
    · rename_i q; exact ⟨g, q⟩
  have mold : ∀ {c : Bn} {k : Loc}, c ≠ nx → μ.put nx l' c = some k → μ c = some k := fun hc e => by simpa only [Mu.put, if_neg hc] using e
  refine ⟨h.ext.to e1 e2 e3 (fun i _ hs' => hk i (fun e => by rw [e, h.base b o l hb hl] at hs'; cases hs')), fun c y k g e => ?_, fun c x g => ?_, fun c c' x x' k k' g g' hne m m' => ?_, fun c hc => ?_, fun c hc => ?_⟩
  · by_cases q : c = nx
    · subst q; rw [Mu.put_same] at e; cases e; rw [hbk]; exact h.base b o l hb hl
    · exact h.base c y k (old q g).1 (mold q e)
  · by_cases q : c = nx
    · subst q
      rw [T.put_get, if_pos rfl] at g; cases g
      exact ⟨l', Mu.put_same _ _ _, r⟩
    · obtain ⟨g1, g2⟩ := old q g
      obtain ⟨k, m, z⟩ := h.live c x g1
      exact ⟨k, Mu.le_put hn _ _ m, z.keep (Mu.le_put hn) (hk _ (fun e => h.sep c b x o k l g1 hb g2 m hl e))⟩
  · by_cases q : c = nx
    · subst q
      rw [Mu.put_same] at m; cases m
      obtain ⟨g1, g2⟩ := old (Ne.symm hne) g'
      rw [hbk]
      exact h.sep b c' o x' l k' hb g1 (Ne.symm g2) hl (mold (Ne.symm hne) m')
    · obtain ⟨g1, g2⟩ := old q g
      by_cases q' : c' = nx
      · subst q'
        rw [Mu.put_same] at m'; cases m'
        rw [hbk]
        exact h.sep c b x o k l g1 hb g2 (mold q m) hl
      · obtain ⟨g3, _⟩ := old q' g'
        exact h.sep c c' x x' k k' g1 g3 hne (mold q m) (mold q' m')
  · have : c ≠ nx := fun e => by subst e; rw [Bn.toN_succ] at hc; omega
    simp only [Mu.put, if_neg this]
    exact h.new c (by rw [Bn.toN_succ] at hc; omega)
  · obtain ⟨h1, h2⟩ := h.res c hc
    have : c ≠ nx := fun e => by subst e; omega
    simp only [Mu.put, if_neg this]
    exact ⟨h1, by rw [Bn.toN_succ]; omega⟩
/-- A new row, of which only the beginning is known. -/
theorem RO.newX {μ : Mu} {w : World} {t : T AV} {l : List AV} {xs ext : List Value} {n es cap : Nat} {el : TypeId} (h : RVs μ l xs) (hn : n = l.length) (ht : ∀ k, k < n → t.getN k = l[k]?)
    (hc : cap * es ≤ (xs ++ ext).length ∧ n ≤ cap * es) :
    RO μ ⟨w.heap.size, 0, cap⟩ { w with heap := w.heap.push (.cells (xs ++ ext).toArray el (0, 0)) } (.cells t n es el) := by
  have hl := h.length
  refine ⟨(xs ++ ext).toArray, by simp, ?_, ⟨by simpa using hc.1, .inr hc.2⟩, fun i v hi hv => ?_⟩
  · simp [hn, hl]
  · rw [ht i hi] at hv
    obtain ⟨x, hx, hr⟩ := h.get hv
    have hi' : i < xs.length := by omega
    refine ⟨x, ?_, hr⟩
    simp only [Nat.zero_add, List.getElem?_toArray]
    rw [List.getElem?_append_left hi']; exact hx
section
variable {T0 : Tab} {w0 : Fx} {μ : Mu} {σ : AS} {a : Act} {w : World} {o : Oper}
/-- A row is made anew by 'append'. -/
theorem ok_grow {H : T AO} (hR : HR w0 μ H σ.nx w) {r : Result Next} {t : T AV} {l : List AV} {xs ext : List Value} {n nc size : Nat} {el : TypeId}
    (hr : r = .ok (.value (.slice (some ⟨w.heap.size, 0, none⟩) n nc)) { w with drawn := w.drawn + 1, heap := w.heap.push (.cells (xs ++ ext).toArray el (0, 0)) })
    (hl : RVs μ l xs) (hn : l.length = n * size) (ht : ∀ k, k < n * size → t.getN k = l[k]?) (hnc : n ≤ nc) (he : ext.length = (nc - n) * size) :
    OutOk T0 w0 μ w r (.val (.slu σ.nx 0 n 0) (H.put σ.nx (some (.cells t (n * size) size el))) σ.nx.succ) := by
  have hR1 : HR w0 μ H σ.nx { w with drawn := w.drawn + 1 } := hR.same rfl rfl rfl rfl
  have hn0 := hR.new σ.nx (Nat.le_refl _)
  have hxl := hl.length
  have hlen : (xs ++ ext).length = nc * size := by
    rw [List.length_append, hxl, hn, he, ← Nat.add_mul]; congr 1; omega
  refine ⟨_, _, _, .inl hr, Mu.le_put hn0, hR1.alloc (.cells (xs ++ ext).toArray el (0, 0)) _ nc (RO.newX (hl.mono (Mu.le_put hn0)) hn.symm ht ⟨by rw [hlen]; exact Nat.le_refl _, Nat.mul_le_mul_right _ hnc⟩), ?_⟩
  have := RV.slu (μ := μ.put σ.nx ⟨w.heap.size, 0, nc⟩) (b := σ.nx) (off := 0) (len := n) (less := 0) (l := ⟨w.heap.size, 0, nc⟩) (Mu.put_same _ _ _) (by simpa using hnc)
  simpa using this
end
end Ev
end Go.Proofs.Ytdofhlmffponoaa
/- Writing into a row beyond what is known of it. -/
set_option linter.unusedVariables false
set_option linter.unusedSimpArgs false
namespace Go.Proofs.Ytdofhlmffponoaa
namespace Ev
theorem ones {μ : Mu} {vs : List AV} {xs : List Value} (h1 : ∀ v ∈ vs, lone1 v = true) (hv : RVs μ vs xs) : ∀ x ∈ xs, x.oneCell' = true := by
  intro x hx
  obtain ⟨j, hj⟩ := List.getElem?_of_mem hx
  have hlen := hv.length
  have hj' : j < xs.length := by
    rcases Nat.lt_or_ge j xs.length with q | q
    · exact q
    · simp [List.getElem?_eq_none q] at hj
  have : ∃ v, vs[j]? = some v := ⟨vs[j]'(by omega), by simp⟩
  obtain ⟨v, hv'⟩ := this
  obtain ⟨y, hy, hr⟩ := hv.get hv'
  rw [hj] at hy; cases hy
  exact lone_one (h1 v (List.mem_of_getElem? hv')) hr
theorem allL_true : ∀ {l : List AV}, allL l = true → ∀ v ∈ l, lone1 v = true
  | [], _, v, hv => by cases hv
  | u :: l, h, v, hv => by
    rcases tb_or (b := lone1 u) (x := allL l) (y := false) (r := true) h with ⟨h1, h2⟩ | ⟨_, h2⟩
    · cases hv with
      | head => exact h1
      | tail _ m => exact allL_true h2 v m
    · cases h2
/-- Cells are stored into a block. -/
theorem row_write {P : Program} {w : World} {g o : Nat} {cs : Array Value} {el : TypeId} {xs : List Value} (hg : w.heap[g]? = some (.cells cs el (0, 0))) (ho : o + xs.length ≤ cs.size) (one : ∀ x ∈ xs, x.oneCell' = true) :
    ∃ (w' : World) (cs' : Array Value), (storeCells ⟨g, o, none⟩ xs).run P w = .ok () w' ∧ w'.heap[g]? = some (.cells cs' el (0, 0)) ∧ cs'.size = cs.size ∧ w'.os = w.os ∧ w'.tape = w.tape ∧ w'.output = w.output ∧
      w'.heap.size = w.heap.size ∧ (∀ i, i ≠ g → w'.heap[i]? = w.heap[i]?) ∧ (∀ k, k < o → cs'[k]? = cs[k]?) ∧ ∀ k, k < xs.length → cs'[o + k]? = xs[k]? := by
  have hrun := run_storeCells_at (P := P) g o el xs 0 cs w hg (by omega) one
  simp only [Nat.add_zero] at hrun
  have hh := setRow_heap w g cs (cs.toList.take o ++ xs ++ cs.toList.drop (o + xs.length)).toArray el (0, 0) hg
  refine ⟨_, _, hrun, hh, by simp; omega, rfl, rfl, rfl, by simp [World.setRow], fun i hi => by simp [World.setRow, Array.getElem?_modify, Ne.symm hi], fun k hk => ?_, fun k hk => ?_⟩
  · simp only [List.getElem?_toArray]
    rw [List.append_assoc, List.getElem?_append_left (by simp; omega), List.getElem?_take_of_lt hk]; simp
  · simp only [List.getElem?_toArray]
    rw [List.append_assoc, List.getElem?_append_right (by simp; omega), List.getElem?_append_left (by simp; omega)]
    congr 1; simp; omega
/-- Cells are read out of a block. -/
theorem row_read {P : Program} {w : World} {g o n : Nat} {cs : Array Value} {el : TypeId} (hg : w.heap[g]? = some (.cells cs el (0, 0))) (ho : o + n ≤ cs.size) :
    ∃ xs : List Value, (∀ w' : World, w'.heap = w.heap → (loadCells ⟨g, o, none⟩ n).run P w' = .ok xs.toArray w') ∧ xs.length = n ∧ ∀ k, k < n → xs[k]? = cs[o + k]? := by
  refine ⟨(cs.toList.drop o).take n, fun w' hw' => ?_, by simp; omega, fun k hk => ?_⟩
  · have hx : ((cs.toList.drop o).take n).length = n := by simp; omega
    have := run_loadCells_list (P := P) w' ⟨g, o, none⟩ ((cs.toList.drop o).take n) (fun j y hy => by
      rw [addr_add]
      have hj : j < n := by
        rcases Nat.lt_or_ge j n with q | q
        · exact q
        · rw [List.getElem?_eq_none (by rw [hx]; exact q)] at hy; cases hy
      rw [List.getElem?_take_of_lt hj, List.getElem?_drop] at hy
      simp only [World.cell?, hw', hg]
      simpa using hy)
    rw [hx] at this; exact this
  · rw [List.getElem?_take_of_lt hk, List.getElem?_drop]; simp
section
variable {T0 : Tab} {w0 : Fx} {μ : Mu} {σ : AS} {a : Act} {w : World} {o : Oper}
/-- A row is made anew by 'append', of which some cells are known. -/
theorem ok_growP {H : T AO} (hR : HR w0 μ H σ.nx w) {r : Result Next} {t : T AV} {xs ext : List Value} {n nc size : Nat} {el : TypeId}
    (hr : r = .ok (.value (.slice (some ⟨w.heap.size, 0, none⟩) n nc)) { w with drawn := w.drawn + 1, heap := w.heap.push (.cells (xs ++ ext).toArray el (0, 0)) })
    (hn : xs.length = n * size) (ht : ∀ k v, k < n * size → t.getN k = some v → ∃ x, xs[k]? = some x ∧ RV μ v x) (hnc : n ≤ nc) (he : ext.length = (nc - n) * size) :
    OutOk T0 w0 μ w r (.val (.slu σ.nx 0 n 0) (H.put σ.nx (some (.cells t (n * size) size el))) σ.nx.succ) := by
  have hR1 : HR w0 μ H σ.nx { w with drawn := w.drawn + 1 } := hR.same rfl rfl rfl rfl
  have hn0 := hR.new σ.nx (Nat.le_refl _)
  have hlen : (xs ++ ext).length = nc * size := by
    rw [List.length_append, hn, he, ← Nat.add_mul]; congr 1; omega
  refine ⟨_, _, _, .inl hr, Mu.le_put hn0, hR1.alloc (.cells (xs ++ ext).toArray el (0, 0)) _ nc
    ⟨(xs ++ ext).toArray, by simp, ?_, ⟨?_, .inr (Nat.mul_le_mul_right _ hnc)⟩, fun i v hi hv => ?_⟩, ?_⟩
  · simp [hn]
  · simp only [List.size_toArray, hlen, Nat.zero_add]; exact Nat.le_refl _
  · obtain ⟨x, hx, hrv⟩ := ht i v hi hv
    refine ⟨x, ?_, hrv.mono (Mu.le_put hn0)⟩
    simp only [Nat.zero_add, List.getElem?_toArray]
    rw [List.getElem?_append_left (by omega)]; exact hx
  · have := RV.slu (μ := μ.put σ.nx ⟨w.heap.size, 0, nc⟩) (b := σ.nx) (off := 0) (len := n) (less := 0) (l := ⟨w.heap.size, 0, nc⟩) (Mu.put_same _ _ _) (by simpa using hnc)
    simpa using this
end
end Ev
end Go.Proofs.Ytdofhlmffponoaa
