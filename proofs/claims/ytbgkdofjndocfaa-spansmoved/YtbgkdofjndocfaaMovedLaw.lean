/-
  The law SpansMoved, of any edits, path and byte.
-/
import Derived.Test.YtbgkdofjndocfaaMoved
import Derived.Test.YtbgkdofjndocfaaWalkI
namespace Go.Proofs.Ytbgkdofjndocfaa
open Go.RowKit
attribute [local go_sem ↓] Go.wp_at_zero Go.wp_at_succ
set_option maxRecDepth 100000 in
set_option maxHeartbeats 1000000 in
theorem movedLaw_any (v : Value) (l : List Ed) (path : ByteArray) (at_ : Int) (w : World) (hn : l.length ≤ 2932031007402) (hat : wrap64 at_ = at_) (h : EdArg w v l) : Calls Try.prog 5 #[v, .string path, .int .i64 at_] w fun e w' => e = .returned (.bool true) ∧ Below w.heap.size w w' := by
  have h7 := much_any v l w hn h
  have HA : Hid (EdArg w v l) := h
  have HAT : Hid (wrap64 at_ = at_) := hat
  clear h hat
  go_enter Try.func5, Try.ntmps5
  go_wp2_with fail
  refine h7.mono ?_
  rintro e w1 ⟨q, rfl, b, rfl⟩
  clear h7
  have hb0 : Below w.heap.size w (w.drewN q) := below_drewN (Below.refl _ _) q
  have hA1 : EdArg (w.drewN q) v l := HA.out.below hb0
  have hz : (w.drewN q).heap.size = w.heap.size := rfl
  cases b
  · have h17 := moved_any v l path at_ _ hn HAT.out hA1
    generalize hW : w.drewN q = W at *
    clear hW
    go_wp2_with fail
    refine h17.mono ?_
    intro e w2 h2
    clear h17
    have hA2 : EdArg w2 v l := hA1.below h2.1
    have h18 := rmoved_any v l path at_ w2 hn HAT.out hA2
    obtain ⟨_, _, m, b, he, _⟩ := mv_same h2 h2
    subst he
    have H2 : Hid (MvPost l path at_ W (.returned (.tuple #[.int .i64 m, .bool b])) w2) := h2
    have hz2 := h2.1.size
    clear h2
    go_wp2_with fail
    refine h18.mono ?_
    intro f w3 h3
    clear h18
    obtain ⟨hb2, hb3, m', b', he, hf⟩ := mv_same H2.out h3
    subst hf
    have hm : m' = m ∧ b' = b := by
      injection he with he
      injection he with he
      simp at he
      exact ⟨he.1.symm, he.2.symm⟩
    obtain ⟨rfl, rfl⟩ := hm
    have hbw : Below w.heap.size w w3 := (hb0.trans (hb2.mono (by omega))).trans (hb3.mono (by omega))
    clear h3 he hb2 hb3 H2
    cases b'
    all_goals
      go_wp2_with fail
      refine (awake_any _).mono ?_
      rintro e w4 ⟨rfl, hb4⟩
      go_wp2
      go_ret
      exact ⟨rfl, hbw.trans (hb4.mono hbw.size)⟩
  · generalize hW : w.drewN q = W at *
    clear hW
    go_wp2_with fail
    refine (awake_any _).mono ?_
    rintro e w2 ⟨rfl, hb2⟩
    go_wp2
    go_ret
    exact ⟨rfl, hb0.trans (hb2.mono (by omega))⟩
end Go.Proofs.Ytbgkdofjndocfaa
