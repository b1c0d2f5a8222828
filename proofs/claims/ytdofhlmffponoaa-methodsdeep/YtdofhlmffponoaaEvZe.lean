/- The evaluator is sound. -/
import Derived.Test.YtdofhlmffponoaaEvA9
set_option linter.unusedVariables false
set_option linter.unusedSimpArgs false
namespace Go.Proofs.Ytdofhlmffponoaa
namespace Ev
section
variable {T0 : Tab}
/-- A region of a deferred body. -/
theorem regS_sound (hT : TabOk T0) {ops : Array Oper} {w0 : Fx} {rc : Option AV} {k : AEx → AS → R} {Q : Exit → Act → List Frame → World → Prop} {c0 : Frame} {cs0 : List Frame} :
    ∀ (l : List Oper) (i : Nat) (σ : AS) (μ : Mu) (a : Act) (w : World) (u : FrameMode), l = ops.toList.drop i → i + l.length = ops.size →
    regS T0 ops.toList k l σ = .ok → SR w0 μ Fence.wide rc σ.rd σ a w → UP μ σ.rd rc u → KS w0 μ rc c0 cs0 k Q → wpOpsSIn Fence.wide 0 T0.P ops Q (List.range' i l.length) a ({ c0 with mode := u } :: cs0) w
  | [], i, σ, μ, a, w, u, _, _, h, hr, hu, hk => hk .normal σ μ .normal a u w h (.refl μ) hr hu .normal
  | o :: l, i, σ, μ, a, w, u, hl, hn, h, hr, hu, hk => by
    have h : oc (wantedE ops.toList σ.tm o) (.no "guard") (fun b => tb b
      (oc (opE T0 o.op) (.no o.pos) (fun f => oc (f σ) (.no o.pos) (fun r => oc (outVal σ r) (tb (outRcv r) (recoverE o σ (regS T0 ops.toList k l)) (oc (outPan r) (.no o.pos) (fun v => k (.panic v) σ)))
        (fun q => regS T0 ops.toList k l (putE σ o.dst q.v q.hp q.nx))))) (regS T0 ops.toList k l (putE σ o.dst (.tup []) σ.hp σ.nx))) = .ok := h
    have hi : ops[i]? = some o := by
      have : ops.toList[i]? = some o := by
        have := congrArg (fun m => m[0]?) hl
        simpa [List.getElem?_drop] using this.symm
      simpa using this
    have hl' : l = ops.toList.drop (i + 1) := by
      have := congrArg List.tail hl
      simpa [List.tail_drop] using this
    have hrest : ∀ σ' μ' a' w' u', regS T0 ops.toList k l σ' = .ok → Mu.le μ μ' → SR w0 μ' Fence.wide rc σ'.rd σ' a' w' → UP μ' σ'.rd rc u' → wpOpsSIn Fence.wide 0 T0.P ops Q (List.range' (i + 1) l.length) a' ({ c0 with mode := u' } :: cs0) w' :=
      fun σ' μ' a' w' u' g le hs hu' =>
        regS_sound hT l (i + 1) σ' μ' a' w' u' hl' (by simp only [List.length_cons] at hn; omega) g hs hu' (fun e σ ν e' a u w g' le' => hk e σ ν e' a u w g' (le.trans le'))
    obtain ⟨b, h1, h2⟩ := oc_ok h
    have hw := wantedE_sound hr.rt h1
    show wpOpsSIn Fence.wide 0 T0.P ops Q (i :: List.range' (i + 1) l.length) a ({ c0 with mode := u } :: cs0) w
    simp only [wpOpsSIn, hi]
    refine ⟨fun f _ => trivial, ?_⟩
    rcases tb_or (b := b) h2 with ⟨rfl, h3⟩ | ⟨rfl, h3⟩
    · rw [if_pos hw]
      obtain ⟨f, h4, h5⟩ := oc_ok h3
      obtain ⟨out, h6, h7⟩ := oc_ok h5
      have ho := op_sound hT hr.hr hr.rt h4 h6
      rcases oc_or h7 with ⟨_, h8⟩ | ⟨q, h8, h9⟩
      · rcases tb_or (b := outRcv out) h8 with ⟨h9, h10⟩ | ⟨_, h9⟩
        · have he : out = .rcv := by cases out <;> first | rfl | cases h9
          subst he
          have ho : (execOp a.eval o).run T0.P w = .ok .recover w := ho
          rw [ho]
          rcases oc_or (x := σ.rc) h10 with ⟨g1, g2⟩ | ⟨v, g1, g2⟩
          · have hrc : rc = none := by rw [← hr.rc]; exact g1
            subst hrc
            cases hu
            exact hrest _ μ _ w _ g2 (.refl μ) (hr.put (.refl μ) hr.hr .nilI o.dst) rfl
          · have hrc : rc = some v := by rw [← hr.rc]; exact g1
            subst hrc
            obtain ⟨x, u1, rfl⟩ := hu
            rcases tb_or (b := σ.rd) g2 with ⟨g3, g4⟩ | ⟨g3, g4⟩
            · rw [g3]
              refine hrest _ μ _ w _ g4 (.refl μ) (hr.put (.refl μ) hr.hr .nilI o.dst) ⟨x, u1, ?_⟩
              show _ = FrameMode.panicking [{ v := x, recovered := σ.rd }]
              rw [g3]
            · rw [g3]
              have hr' : SR w0 μ Fence.wide (some v) true ⟨σ.tm, σ.nt, σ.df, σ.ro, σ.rc, true, σ.hp, σ.nx⟩ a w := ⟨hr.hr, hr.rt, hr.sz, hr.df, hr.fen, hr.rc, rfl⟩
              exact hrest _ μ _ w _ g4 (.refl μ) (hr'.put (.refl μ) hr.hr u1 o.dst) ⟨x, u1, rfl⟩
        · obtain ⟨v, g1, g2⟩ := oc_ok h9
          cases out <;> cases g1
          obtain ⟨x, r1, r2⟩ := ho
          rw [r1]
          exact hk (.panic v) σ μ _ a u w g2 (.refl μ) hr hu (.panic r2)
      · obtain ⟨x, w', μ', r1, le, r2, r3⟩ := val_sound hr.hr ho h8
        have := hrest _ μ' _ w' u h9 le (hr.put le r2 r3 o.dst) (hu.mono le)
        rcases r1 with r1 | ⟨r1, rfl⟩ <;> (rw [r1]; exact this)
    · rw [if_neg (by rw [hw]; simp)]
      exact hrest _ μ _ w u h3 (.refl μ) (hr.put (.refl μ) hr.hr (undef_rv μ) o.dst) hu
theorem ev2_sound (hT : TabOk T0) : ∀ n : Nat, SelfOk T0 (ev2 T0 n).ev ∧ LoopOk T0 (ev2 T0 n).ev ∧ DeepOk T0 (ev2 T0 n).dp
  | 0 => ⟨fun c σ k w0 μ F rc rd a w Q h => (by cases h), fun c σ k w0 μ F rc rd a w Q h => (by cases h), fun c σ k w0 μ rc a w c0 cs0 u Q h => (by cases h)⟩
  | n + 1 => by
    obtain ⟨hS, hL, hD⟩ := ev2_sound hT n
    refine ⟨fun c σ k w0 μ F rc rd a w Q h hr hk => ?_, fun c σ k w0 μ F rc rd a w Q h hr hk => ?_, fun c σ k w0 μ rc a w c0 cs0 u Q h hr hu hk => ?_⟩
    · cases c with
      | skip => exact wpIn_skip (hk .normal σ μ .normal a w h (.refl μ) hr .normal)
      | label l => exact wpIn_label (hk .normal σ μ .normal a w h (.refl μ) hr .normal)
      | exit id => exact wpIn_exit (hk (.exit id) σ μ _ a w h (.refl μ) hr .exit)
      | goto l => exact wpIn_goto (hk (.goto l) σ μ _ a w h (.refl μ) hr .goto)
      | ret => exact wpIn_ret (hk .ret σ μ _ a w h (.refl μ) hr .ret)
      | region id ops d =>
        rcases tb_or (b := d) h with ⟨rfl, h1⟩ | ⟨rfl, h1⟩
        · exact regD_sound hT hS hD h1 hr hk
        · refine wpIn_region ?_
          have := reg_sound hT hS hD ops.toList 0 σ μ a w (by simp) (by simp) h1 hr hk
          rw [List.range_eq_range']
          simpa using this
      | seq x y => exact wpIn_seq (hS x σ _ w0 μ F rc rd a w _ h hr (seqK_ok (fun σ' ν a' w' g1 g2 g3 => hS y σ' k w0 ν F rc rd a' w' Q g1 g2 g3) hk))
      | cond x c d =>
        obtain ⟨t, h1, h2⟩ := condE_ok h hr
        refine wpIn_cond h1 ?_
        cases t with
        | true => exact hS c σ k w0 μ F rc rd a w Q h2 hr hk
        | false => exact hS d σ k w0 μ F rc rd a w Q h2 hr hk
      | block id x => exact wpIn_block (hS x σ _ w0 μ F rc rd a w _ h hr (blockK_ok hk))
      | loop x => exact wpIn_of_round (hS x σ _ w0 μ F rc rd a w _ h hr (seqK_ok (fun σ' ν a' w' g1 g2 g3 => hL x σ' k w0 ν F rc rd a' w' Q g1 g2 g3) hk))
      | rangeFunc g ps x y => exact range_sound hT hS hD h hr hk
      | scope x => exact wpIn_scope (hS x σ _ w0 μ F rc rd a w _ h hr (scopeK_ok hk))
      | refuse s => cases h
    · exact loopAt_of_round (hS c σ _ w0 μ F rc rd a w _ h hr (seqK_ok (fun σ' ν a' w' g1 g2 g3 => hL c σ' k w0 ν F rc rd a' w' Q g1 g2 g3) hk))
    · have plain : (ev2 T0 n).ev c σ k = .ok → c.wpSIn Fence.wide 0 T0.P Q a ({ c0 with mode := u } :: cs0) w := fun h => by
        refine wpSIn_of_wpIn rfl (hS c σ k w0 μ Fence.wide rc σ.rd a w _ h hr (fun e σ' ν e' a' w' g1 le g2 g3 => ?_))
        have e1 := g2.rd
        have g2' : SR w0 ν Fence.wide rc σ'.rd σ' a' w' := ⟨g2.hr, g2.rt, g2.sz, g2.df, g2.fen, g2.rc, rfl⟩
        exact hk e σ' ν e' a' u w' g1 le g2' (by rw [e1]; exact hu.mono le) g3
      cases c with
      | region id ops d =>
        rcases tb_or (b := hasRec ops.toList) h with ⟨_, h1⟩ | ⟨_, h1⟩
        · rcases tb_or (b := d) h1 with ⟨_, h2⟩ | ⟨rfl, h2⟩
          · cases h2
          · refine wpSIn_region ?_
            have := regS_sound hT ops.toList 0 σ μ a w u (by simp) (by simp) h2 hr hu hk
            rw [List.range_eq_range']
            simpa using this
        · exact plain h1
      | seq x y =>
        refine wpSIn_seq (hD x σ _ w0 μ rc a w c0 cs0 u _ h hr hu (fun e σ' ν e' a' u' w' g1 le g2 g3 g4 => ?_))
        rcases tb_or (b := isNormal e) g1 with ⟨g5, g6⟩ | ⟨g5, g6⟩
        · have he : e' = .normal := by cases g4 <;> first | rfl | cases g5
          subst he
          exact hD y σ' k w0 ν rc a' w' c0 cs0 u' Q g6 g2 g3 (fun e σ ξ e' a u w q1 le2 => hk e σ ξ e' a u w q1 (le.trans le2))
        · have := hk e σ' ν e' a' u' w' g6 le g2 g3 g4
          cases g4 <;> first | exact this | cases g5
      | cond x c d =>
        obtain ⟨t, h1, h2⟩ := condE_ok h hr
        refine wpSIn_cond h1 ?_
        cases t with
        | true => exact hD c σ k w0 μ rc a w c0 cs0 u Q h2 hr hu hk
        | false => exact hD d σ k w0 μ rc a w c0 cs0 u Q h2 hr hu hk
      | _ => exact plain h
end
end Ev
end Go.Proofs.Ytdofhlmffponoaa
