/- All operations: what the evaluator says is what the world does. -/
import Derived.Test.YtdofhlmffponoaaEvUs
set_option linter.unusedVariables false
set_option linter.unusedSimpArgs false
namespace Go.Proofs.Ytdofhlmffponoaa
namespace Ev
section
variable {T0 : Tab} {w0 : Fx} {μ : Mu} {σ : AS} {a : Act} {w : World} {o : Oper}
theorem call_sound (hT : TabOk T0) (hR : HR w0 μ σ.hp σ.nx w) (hA : RT μ σ.tm a.tmps) {c : Call} (ho : o.op = .call c) {f : AS → Option Out} (hf : callC T0 c = some f) {out : Out} (h : f σ = some out) : OutOk T0 w0 μ w ((execOp a.eval o).run T0.P w) out := by
  have blt : ∀ b, c.callee = .builtin b → (ob (headL c.argTypes.toList) fun t => ob (builtinE T0 b t c.argTypes.toList) fun f => some (fun σ => ob (opnds σ.tm c.args.toList) fun l => f σ l)) = some f → OutOk T0 w0 μ w ((execOp a.eval o).run T0.P w) out := by
    intro b hc hf
    obtain ⟨t, h1, h2⟩ := ob_some hf
    obtain ⟨g, h3, h4⟩ := ob_some h2
    cases h4
    obtain ⟨l, h5, h6⟩ := ob_some h
    cases b <;> first | (cases h3; done) | skip
    · -- append
      rcases tb_or (b := rowT T0 c.argTypes.toList) (show tb (rowT T0 c.argTypes.toList) _ _ = some g from h3) with ⟨g1, g2⟩ | ⟨_, g2⟩
      · cases g2
        obtain ⟨x, k1, k2⟩ := ob_some h6
        obtain ⟨y, k3, k4⟩ := ob_some k2
        exact s_append hT hR hA hc ho h1 g1 h5 k1 k3 k4
      · obtain ⟨g1, g2⟩ := cb_some g2
        cases g2
        obtain ⟨x, k1, k2⟩ := ob_some h6
        obtain ⟨y, k3, k4⟩ := ob_some k2
        exact s_appendZ hT hR hA hc ho h1 g1 h5 k1 k3 k4
    · -- cap
      obtain ⟨i, g1, g2⟩ := ob_some (show (ob (T0.t t) _) = some g from h3)
      obtain ⟨e, g3, g4⟩ := ob_some g2
      cases g4
      obtain ⟨x, k1, k2⟩ := ob_some h6
      exact s_cap hT hR hA hc ho h1 g1 g3 h5 k1 k2
    · -- clear
      cases (show some _ = some g from h3)
      obtain ⟨x, k1, k2⟩ := ob_some h6
      exact s_clear hT hR hA hc ho h1 h5 k1 k2
    · -- copy
      cases (show some _ = some g from h3)
      obtain ⟨x, k1, k2⟩ := ob_some h6
      obtain ⟨y, k3, k4⟩ := ob_some k2
      exact s_copy hT hR hA hc ho h1 h5 k1 k3 k4
    · -- len
      obtain ⟨i, g1, g2⟩ := ob_some (show (ob (T0.t t) _) = some g from h3)
      rcases tb_or (b := dStr i.d) g2 with ⟨g3, g4⟩ | ⟨_, g4⟩
      · cases g4
        obtain ⟨x, k1, k2⟩ := ob_some h6
        exact s_lenS hT hR hA hc ho h1 g1 g3 h5 k1 k2
      · rcases oc_or g4 with ⟨_, g5⟩ | ⟨e, g5, g6⟩
        · obtain ⟨e, g6, g7⟩ := ob_some g5
          cases g7
          obtain ⟨x, k1, k2⟩ := ob_some h6
          exact s_lenM hT hR hA hc ho h1 g1 g6 h5 k1 k2
        · cases g6
          obtain ⟨x, k1, k2⟩ := ob_some h6
          exact s_lenL hT hR hA hc ho h1 g1 g5 h5 k1 k2
    · -- max
      cases (show some _ = some g from h3)
      obtain ⟨g1, g2⟩ := cb_some h6
      obtain ⟨x, k1, k2⟩ := ob_some g2
      obtain ⟨y, k3, k4⟩ := ob_some k2
      exact s_min (mx := true) hR hA hc ho h5 g1 k1 k3 k4
    · -- min
      cases (show some _ = some g from h3)
      obtain ⟨g1, g2⟩ := cb_some h6
      obtain ⟨x, k1, k2⟩ := ob_some g2
      obtain ⟨y, k3, k4⟩ := ob_some k2
      exact s_min (mx := false) hR hA hc ho h5 g1 k1 k3 k4
    · -- where a slice lies
      cases (show some _ = some g from h3)
      obtain ⟨g1, g2⟩ := cb_some h6
      obtain ⟨x, k1, k2⟩ := ob_some g2
      exact s_data hR hA hc ho h5 g1 k1 k2
    · -- a string of bytes
      obtain ⟨pt, g1, g2⟩ := ob_some (show (ob (nthO c.argTypes.toList 0) _) = some g from h3)
      cases g2
      obtain ⟨g3, g4⟩ := cb_some h6
      obtain ⟨x, k1, k2⟩ := ob_some g4
      obtain ⟨y, k3, k4⟩ := ob_some k2
      exact s_str hT hR hA hc ho g1 h5 g3 k1 k3 k4
  cases hc : c.callee with
  | value g =>
    rw [callC, hc] at hf
    cases hf
    exact s_callV hR hA hc ho h
  | invoke r name =>
    rw [callC, hc] at hf
    cases hf
    exact s_invoke hR hA hc ho h
  | builtin b =>
    rw [callC, hc] at hf
    cases b <;> first
      | exact blt _ hc hf
      | (cases hf; cases h; exact s_rcv hc ho)
theorem op_sound (hT : TabOk T0) (hR : HR w0 μ σ.hp σ.nx w) (hA : RT μ σ.tm a.tmps) {f : AS → Option Out} (hf : opE T0 o.op = some f) {out : Out} (h : f σ = some out) : OutOk T0 w0 μ w ((execOp a.eval o).run T0.P w) out := by
  cases ho : o.op <;> rw [ho] at hf <;> first | (cases hf; done) | skip
  case move x => cases hf; exact s_move hR hA (.inl ho) h
  case assign x => cases hf; exact s_move hR hA (.inr ho) h
  case pick c x y => cases hf; exact s_pick hR hA ho h
  case alloc el =>
    obtain ⟨i, h1, h2⟩ := ob_some (show (ob (T0.t el) _) = some f from hf)
    cases h2
    exact s_alloc hT hR h1 ho h
  case box el x => cases hf; exact s_box hR hA ho h
  case build t ps =>
    obtain ⟨i, h1, h2⟩ := ob_some (show (ob (T0.t t) _) = some f from hf)
    rcases oc_or h2 with ⟨_, h3⟩ | ⟨p, h3, h4⟩
    · obtain ⟨l, h4, h5⟩ := ob_some h3
      cases h5
      exact s_buildS hT hR hA h1 h4 ho h
    · obtain ⟨ei, h5, h6⟩ := ob_some h4
      cases h6
      exact s_buildA hT hR hA h1 h3 h5 ho h
  case buildSlice t len ps =>
    obtain ⟨q, h1, h2⟩ := ob_some (show (ob (elemI T0 t) _) = some f from hf)
    cases h2
    exact s_buildSlice hT hR hA h1 ho h
  case load t x =>
    obtain ⟨i, h1, h2⟩ := ob_some (show (ob (T0.t t) _) = some f from hf)
    cases h2
    exact s_load hT hR hA h1 ho h
  case store t x y =>
    obtain ⟨i, h1, h2⟩ := ob_some (show (ob (T0.t t) _) = some f from hf)
    cases h2
    exact s_store hT hR hA h1 ho h
  case nilCheck x => cases hf; exact s_nil hR hA ho h
  case binOp op t x y yt => exact s_bin hT hR hA ho (by cases hf; exact h)
  case unOp op t x => cases hf; exact s_un hR hA ho h
  case convert src dst x =>
    obtain ⟨k, h1, h2⟩ := ob_some (show (ob (convK T0 src dst) _) = some f from hf)
    cases h2
    exact s_conv hT hR hA h1 ho h
  case makeInterface t x =>
    obtain ⟨i, h1, h2⟩ := ob_some (show (ob (T0.t t) _) = some f from hf)
    rcases oc_or h2 with ⟨h3, h4⟩ | ⟨_, _, h4⟩
    · cases h4
      exact s_iface hT hR hA h1 h3 ho h
    · cases h4
  case makeFunc fn first cap =>
    obtain ⟨g, h1, h2⟩ := ob_some (show (ob (fnF fn) _) = some f from hf)
    cases h2
    exact s_func hR hA h1 ho h
  case makeMap t r =>
    obtain ⟨c, h1, h2⟩ := ob_some (show (ob (keyT T0 t) _) = some f from hf)
    cases h2
    exact s_makeMap hR hA hT h1 ho h
  case makeSlice t l c =>
    obtain ⟨q, h1, h2⟩ := ob_some (show (ob (elemI T0 t) _) = some f from hf)
    cases h2
    exact s_makeSlice hT hR hA h1 ho h
  case slice t x lo hi mx =>
    obtain ⟨i, h1, h2⟩ := ob_some (show (ob (T0.t t) _) = some f from hf)
    rcases tb_or (b := dStr i.d) h2 with ⟨h3, h4⟩ | ⟨_, h4⟩
    · rcases oc_or (x := mx) h4 with ⟨rfl, h5⟩ | ⟨_, _, h5⟩
      · cases h5
        exact s_sliceS hT hR hA h1 h3 ho h
      · cases h5
    · obtain ⟨q, h5, h6⟩ := ob_some h4
      rcases oc_or (x := mx) h6 with ⟨rfl, h7⟩ | ⟨m, rfl, h7⟩
      · cases h7
        exact s_slice hT hR hA h5 ho h
      · obtain ⟨hh, h8, h9⟩ := ob_some (x := hi) h7
        cases h9
        rw [h8] at ho
        exact s_slice3 hT hR hA h5 ho h
  case fieldAddr t x k =>
    obtain ⟨i, h1, h2⟩ := ob_some (show (ob (T0.t t) _) = some f from hf)
    obtain ⟨q, h3, h4⟩ := ob_some h2
    cases h4
    exact s_fieldAddr hT hR hA h1 h3 ho h
  case field t x k =>
    obtain ⟨i, h1, h2⟩ := ob_some (show (ob (T0.t t) _) = some f from hf)
    obtain ⟨l, h3, h4⟩ := ob_some h2
    obtain ⟨ft, h5, h6⟩ := ob_some h4
    obtain ⟨fi, h7, h8⟩ := ob_some h6
    obtain ⟨q, h9, h10⟩ := ob_some h8
    cases h10
    exact s_field hT hR hA h1 h3 h5 h7 h9 ho h
  case indexAddr t x i =>
    obtain ⟨ti, h1, h2⟩ := ob_some (show (ob (T0.t t) _) = some f from hf)
    rcases oc_or h2 with ⟨_, h3⟩ | ⟨e, h3, h4⟩
    · obtain ⟨p, h4, h5⟩ := ob_some h3
      obtain ⟨ei, h6, h7⟩ := ob_some h5
      cases h7
      exact s_indexA hT hR hA h1 h4 h6 ho h
    · obtain ⟨ei, h6, h7⟩ := ob_some h4
      cases h7
      exact s_indexS hT hR hA h1 h3 h6 ho h
  case index t x i =>
    obtain ⟨ti, h1, h2⟩ := ob_some (show (ob (T0.t t) _) = some f from hf)
    obtain ⟨h3, h4⟩ := cb_some h2
    cases h4
    exact s_index hT hR hA h1 h3 ho h
  case lookup t x i ok =>
    obtain ⟨c, h1, h2⟩ := ob_some (show (ob (keyT T0 t) _) = some f from hf)
    obtain ⟨ti, h3, h4⟩ := ob_some h2
    obtain ⟨e, h5, h6⟩ := ob_some h4
    obtain ⟨ei, h7, h8⟩ := ob_some h6
    cases h8
    exact s_lookup hT hR hA h1 h3 h5 h7 ho h
  case mapUpdate t m k x =>
    obtain ⟨c, h1, h2⟩ := ob_some (show (ob (keyT T0 t) _) = some f from hf)
    cases h2
    exact s_update hT hR hA h1 (.inl ho) h
  case insert t m k x =>
    obtain ⟨c, h1, h2⟩ := ob_some (show (ob (keyT T0 t) _) = some f from hf)
    cases h2
    exact s_update hT hR hA h1 (.inr ho) h
  case range t x =>
    obtain ⟨i, h1, h2⟩ := ob_some (show (ob (T0.t t) _) = some f from hf)
    rcases tb_or (b := dStr i.d) h2 with ⟨h3, h4⟩ | ⟨_, h4⟩
    · cases h4
      exact s_rangeS hT hA h1 h3 ho h
    · obtain ⟨e, h5, h6⟩ := ob_some h4
      cases h6
      exact s_rangeM hT hR hA h1 h5 ho h
  case next it b =>
    rcases tb_or (b := b) (show tb b _ _ = some f from hf) with ⟨rfl, h1⟩ | ⟨rfl, h1⟩
    · cases h1; exact s_nextS hR hA ho h
    · cases h1; exact s_nextM hR hA ho h
  case entry it => cases hf; exact s_entry hR hA ho h
  case extract x i => cases hf; exact s_extract hR hA ho h
  case call c => exact call_sound hT hR hA ho hf h
  case panic x => cases hf; exact s_panic hA ho h
  case typeAssert x xt t ok =>
    obtain ⟨i, h1, h2⟩ := ob_some (show (ob (T0.t t) _) = some f from hf)
    cases h2
    exact s_assert hT hR hA h1 ho h
  case defer c =>
    simp only [opE] at hf
    split at hf
    · rename_i g hc
      cases hf
      exact s_defer hA hc ho h
    · cases hf
end
end Ev
end Go.Proofs.Ytdofhlmffponoaa
