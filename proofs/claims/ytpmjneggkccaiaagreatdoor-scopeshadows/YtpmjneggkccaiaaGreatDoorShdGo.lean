/-
  No function of the program starts a goroutine; so the row of ScopeShadows does not.
-/
import Derived.Test.YtpmjneggkccaiaaGreatDoorRows
import GoSem.ClaimSeven
import Derived.KernelRfl
namespace Go.Proofs.YtpmjneggkccaiaaGreatDoor.scopeShadows
theorem nogo : Tryz.prog.funcs.any Func.goes = false := by kernel_rfl
theorem goes_none {P : Program} (h : P.funcs.any Func.goes = false) (f : FuncId) : P.goes f = false := by
  unfold Program.goes
  rw [h, Bool.and_false, Bool.or_false, List.any_eq_false]
  intro g _
  cases q : P.funcs[g]? with
  | none => simp
  | some fn =>
    have h1 := Array.any_eq_false.1 h
    obtain ⟨hg, e⟩ := Array.getElem?_eq_some_iff.1 q
    have := h1 g hg
    rw [e] at this
    simpa using this
theorem named : Tryz.prog.funcNamed Rows.scopeShadowsRow.func = some 3 := by kernel_rfl
set_option maxRecDepth 100000 in
theorem card_goes : false = Rows.scopeShadowsRow.goesBy Tryz.pinned.checked.prog := by
  show false = (Tryz.prog.goesFrom Rows.scopeShadowsRow.func || false)
  rw [Bool.or_false]
  unfold Program.goesFrom
  rw [named, Option.any_some, goes_none nogo]
end Go.Proofs.YtpmjneggkccaiaaGreatDoor.scopeShadows
