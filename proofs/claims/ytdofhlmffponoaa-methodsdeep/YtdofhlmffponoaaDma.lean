/- The tables of the runs of MethodsDeep: circular and closed of them are known calls. -/
import Derived.Test.YtdofhlmffponoaaJdI
import Derived.Test.YtdofhlmffponoaaDml
import Derived.WalkKit
import Derived.KernelRfl
import Derived.Deep.DrawnRows
set_option linter.unusedVariables false
set_option linter.unusedSimpArgs false
namespace Go.Proofs.Ytdofhlmffponoaa
namespace Ev
noncomputable def l0a : List Nmd := [⟨bsA [109,97,105,110,46,73], (.mk 15 (bsA []) 0 false [bsA [77]] [] [(.mk 13 (bsA []) 0 false [] [] [])]), []⟩,
  ⟨bsA [109,97,105,110,46,84], (.mk 14 (bsA []) 0 false [bsA [85]] [true] [(.mk 8 (bsA [109,97,105,110,46,85]) 0 false [] [] [])]), []⟩,
  ⟨bsA [109,97,105,110,46,85], (.mk 14 (bsA []) 0 false [bsA [121]] [false] [(.mk 1 (bsA []) 0 false [] [] [])]), [⟨bsA [77], true, (.mk 13 (bsA []) 0 false [] [] [])⟩]⟩]
theorem ok0a : ∀ m, m ∈ [mC0a, mD0a] → MetOk Try.prog m := mets_ok (b := bn 12) (es := es0a) (clock := 3) (f := 5) (l := l0a) (by kernel_rfl) (by kernel_rfl) (by kernel_rfl) (by decide +kernel) (by decide +kernel) rfl rfl rfl rfl rfl rfl rfl rfl rfl rfl rfl
noncomputable def l1f : List Nmd := [⟨bsA [109,97,105,110,46,84,97], (.mk 14 (bsA []) 0 false [bsA [84,98]] [true] [(.mk 8 (bsA [109,97,105,110,46,84,98]) 0 false [] [] [])]), []⟩,
  ⟨bsA [109,97,105,110,46,84,98], (.mk 14 (bsA []) 0 false [bsA [120]] [false] [(.mk 1 (bsA []) 0 false [] [] [])]), []⟩,
  ⟨bsA [109,97,105,110,46,90], (.mk 14 (bsA []) 0 false [bsA [120]] [false] [(.mk 1 (bsA []) 0 false [] [] [])]), []⟩]
theorem ok1f : ∀ m, m ∈ [mC1f, mD1f] → MetOk Try.prog m := mets_ok (b := bn 30) (es := es1f) (clock := 3) (f := 5) (l := l1f) (by kernel_rfl) (by kernel_rfl) (by kernel_rfl) (by decide +kernel) (by decide +kernel) rfl rfl rfl rfl rfl rfl rfl rfl rfl rfl rfl
noncomputable def l2f : List Nmd := [⟨bsA [109,97,105,110,46,84,97], (.mk 14 (bsA []) 0 false [bsA [84,98]] [true] [(.mk 8 (bsA [109,97,105,110,46,84,98]) 0 false [] [] [])]), []⟩,
  ⟨bsA [109,97,105,110,46,84,98], (.mk 14 (bsA []) 0 false [bsA [84,99]] [true] [(.mk 8 (bsA [109,97,105,110,46,84,99]) 0 false [] [] [])]), []⟩,
  ⟨bsA [109,97,105,110,46,84,99], (.mk 14 (bsA []) 0 false [bsA [120]] [false] [(.mk 1 (bsA []) 0 false [] [] [])]), []⟩,
  ⟨bsA [109,97,105,110,46,90], (.mk 14 (bsA []) 0 false [bsA [120]] [false] [(.mk 1 (bsA []) 0 false [] [] [])]), []⟩]
theorem ok2f : ∀ m, m ∈ [mC2f, mD2f] → MetOk Try.prog m := mets_ok (b := bn 40) (es := es2f) (clock := 4) (f := 5) (l := l2f) (by kernel_rfl) (by kernel_rfl) (by kernel_rfl) (by decide +kernel) (by decide +kernel) rfl rfl rfl rfl rfl rfl rfl rfl rfl rfl rfl
noncomputable def l3f : List Nmd := [⟨bsA [109,97,105,110,46,84,97], (.mk 14 (bsA []) 0 false [bsA [84,98]] [true] [(.mk 8 (bsA [109,97,105,110,46,84,98]) 0 false [] [] [])]), []⟩,
  ⟨bsA [109,97,105,110,46,84,98], (.mk 14 (bsA []) 0 false [bsA [84,99]] [true] [(.mk 8 (bsA [109,97,105,110,46,84,99]) 0 false [] [] [])]), []⟩,
  ⟨bsA [109,97,105,110,46,84,99], (.mk 14 (bsA []) 0 false [bsA [84,100]] [true] [(.mk 8 (bsA [109,97,105,110,46,84,100]) 0 false [] [] [])]), []⟩,
  ⟨bsA [109,97,105,110,46,84,100], (.mk 14 (bsA []) 0 false [bsA [120]] [false] [(.mk 1 (bsA []) 0 false [] [] [])]), []⟩,
  ⟨bsA [109,97,105,110,46,90], (.mk 14 (bsA []) 0 false [bsA [120]] [false] [(.mk 1 (bsA []) 0 false [] [] [])]), []⟩]
theorem ok3f : ∀ m, m ∈ [mC3f, mD3f] → MetOk Try.prog m := mets_ok (b := bn 50) (es := es3f) (clock := 5) (f := 5) (l := l3f) (by kernel_rfl) (by kernel_rfl) (by kernel_rfl) (by decide +kernel) (by decide +kernel) rfl rfl rfl rfl rfl rfl rfl rfl rfl rfl rfl
noncomputable def l4f : List Nmd := [⟨bsA [109,97,105,110,46,84,97], (.mk 14 (bsA []) 0 false [bsA [84,98]] [true] [(.mk 8 (bsA [109,97,105,110,46,84,98]) 0 false [] [] [])]), []⟩,
  ⟨bsA [109,97,105,110,46,84,98], (.mk 14 (bsA []) 0 false [bsA [84,99]] [true] [(.mk 8 (bsA [109,97,105,110,46,84,99]) 0 false [] [] [])]), []⟩,
  ⟨bsA [109,97,105,110,46,84,99], (.mk 14 (bsA []) 0 false [bsA [84,100]] [true] [(.mk 8 (bsA [109,97,105,110,46,84,100]) 0 false [] [] [])]), []⟩,
  ⟨bsA [109,97,105,110,46,84,100], (.mk 14 (bsA []) 0 false [bsA [84,101]] [true] [(.mk 8 (bsA [109,97,105,110,46,84,101]) 0 false [] [] [])]), []⟩,
  ⟨bsA [109,97,105,110,46,84,101], (.mk 14 (bsA []) 0 false [bsA [120]] [false] [(.mk 1 (bsA []) 0 false [] [] [])]), []⟩,
  ⟨bsA [109,97,105,110,46,90], (.mk 14 (bsA []) 0 false [bsA [120]] [false] [(.mk 1 (bsA []) 0 false [] [] [])]), []⟩]
theorem ok4f : ∀ m, m ∈ [mC4f, mD4f] → MetOk Try.prog m := mets_ok (b := bn 60) (es := es4f) (clock := 6) (f := 5) (l := l4f) (by kernel_rfl) (by kernel_rfl) (by kernel_rfl) (by decide +kernel) (by decide +kernel) rfl rfl rfl rfl rfl rfl rfl rfl rfl rfl rfl
noncomputable def l5f : List Nmd := [⟨bsA [109,97,105,110,46,84,97], (.mk 14 (bsA []) 0 false [bsA [84,98]] [true] [(.mk 8 (bsA [109,97,105,110,46,84,98]) 0 false [] [] [])]), []⟩,
  ⟨bsA [109,97,105,110,46,84,98], (.mk 14 (bsA []) 0 false [bsA [84,99]] [true] [(.mk 8 (bsA [109,97,105,110,46,84,99]) 0 false [] [] [])]), []⟩,
  ⟨bsA [109,97,105,110,46,84,99], (.mk 14 (bsA []) 0 false [bsA [84,100]] [true] [(.mk 8 (bsA [109,97,105,110,46,84,100]) 0 false [] [] [])]), []⟩,
  ⟨bsA [109,97,105,110,46,84,100], (.mk 14 (bsA []) 0 false [bsA [84,101]] [true] [(.mk 8 (bsA [109,97,105,110,46,84,101]) 0 false [] [] [])]), []⟩,
  ⟨bsA [109,97,105,110,46,84,101], (.mk 14 (bsA []) 0 false [bsA [84,102]] [true] [(.mk 8 (bsA [109,97,105,110,46,84,102]) 0 false [] [] [])]), []⟩,
  ⟨bsA [109,97,105,110,46,84,102], (.mk 14 (bsA []) 0 false [bsA [120]] [false] [(.mk 1 (bsA []) 0 false [] [] [])]), []⟩,
  ⟨bsA [109,97,105,110,46,90], (.mk 14 (bsA []) 0 false [bsA [120]] [false] [(.mk 1 (bsA []) 0 false [] [] [])]), []⟩]
theorem ok5f : ∀ m, m ∈ [mC5f, mD5f] → MetOk Try.prog m := mets_ok (b := bn 70) (es := es5f) (clock := 7) (f := 5) (l := l5f) (by kernel_rfl) (by kernel_rfl) (by kernel_rfl) (by decide +kernel) (by decide +kernel) rfl rfl rfl rfl rfl rfl rfl rfl rfl rfl rfl
noncomputable def l6f : List Nmd := [⟨bsA [109,97,105,110,46,84,97], (.mk 14 (bsA []) 0 false [bsA [84,98]] [true] [(.mk 8 (bsA [109,97,105,110,46,84,98]) 0 false [] [] [])]), []⟩,
  ⟨bsA [109,97,105,110,46,84,98], (.mk 14 (bsA []) 0 false [bsA [84,99]] [true] [(.mk 8 (bsA [109,97,105,110,46,84,99]) 0 false [] [] [])]), []⟩,
  ⟨bsA [109,97,105,110,46,84,99], (.mk 14 (bsA []) 0 false [bsA [84,100]] [true] [(.mk 8 (bsA [109,97,105,110,46,84,100]) 0 false [] [] [])]), []⟩,
  ⟨bsA [109,97,105,110,46,84,100], (.mk 14 (bsA []) 0 false [bsA [84,101]] [true] [(.mk 8 (bsA [109,97,105,110,46,84,101]) 0 false [] [] [])]), []⟩,
  ⟨bsA [109,97,105,110,46,84,101], (.mk 14 (bsA []) 0 false [bsA [84,102]] [true] [(.mk 8 (bsA [109,97,105,110,46,84,102]) 0 false [] [] [])]), []⟩,
  ⟨bsA [109,97,105,110,46,84,102], (.mk 14 (bsA []) 0 false [bsA [84,103]] [true] [(.mk 8 (bsA [109,97,105,110,46,84,103]) 0 false [] [] [])]), []⟩,
  ⟨bsA [109,97,105,110,46,84,103], (.mk 14 (bsA []) 0 false [bsA [120]] [false] [(.mk 1 (bsA []) 0 false [] [] [])]), []⟩,
  ⟨bsA [109,97,105,110,46,90], (.mk 14 (bsA []) 0 false [bsA [120]] [false] [(.mk 1 (bsA []) 0 false [] [] [])]), []⟩]
theorem ok6f : ∀ m, m ∈ [mC6f, mD6f] → MetOk Try.prog m := mets_ok (b := bn 80) (es := es6f) (clock := 8) (f := 5) (l := l6f) (by kernel_rfl) (by kernel_rfl) (by kernel_rfl) (by decide +kernel) (by decide +kernel) rfl rfl rfl rfl rfl rfl rfl rfl rfl rfl rfl
noncomputable def l7f : List Nmd := [⟨bsA [109,97,105,110,46,84,97], (.mk 14 (bsA []) 0 false [bsA [84,98]] [true] [(.mk 8 (bsA [109,97,105,110,46,84,98]) 0 false [] [] [])]), []⟩,
  ⟨bsA [109,97,105,110,46,84,98], (.mk 14 (bsA []) 0 false [bsA [84,99]] [true] [(.mk 8 (bsA [109,97,105,110,46,84,99]) 0 false [] [] [])]), []⟩,
  ⟨bsA [109,97,105,110,46,84,99], (.mk 14 (bsA []) 0 false [bsA [84,100]] [true] [(.mk 8 (bsA [109,97,105,110,46,84,100]) 0 false [] [] [])]), []⟩,
  ⟨bsA [109,97,105,110,46,84,100], (.mk 14 (bsA []) 0 false [bsA [84,101]] [true] [(.mk 8 (bsA [109,97,105,110,46,84,101]) 0 false [] [] [])]), []⟩,
  ⟨bsA [109,97,105,110,46,84,101], (.mk 14 (bsA []) 0 false [bsA [84,102]] [true] [(.mk 8 (bsA [109,97,105,110,46,84,102]) 0 false [] [] [])]), []⟩,
  ⟨bsA [109,97,105,110,46,84,102], (.mk 14 (bsA []) 0 false [bsA [84,103]] [true] [(.mk 8 (bsA [109,97,105,110,46,84,103]) 0 false [] [] [])]), []⟩,
  ⟨bsA [109,97,105,110,46,84,103], (.mk 14 (bsA []) 0 false [bsA [84,104]] [true] [(.mk 8 (bsA [109,97,105,110,46,84,104]) 0 false [] [] [])]), []⟩,
  ⟨bsA [109,97,105,110,46,84,104], (.mk 14 (bsA []) 0 false [bsA [120]] [false] [(.mk 1 (bsA []) 0 false [] [] [])]), []⟩,
  ⟨bsA [109,97,105,110,46,90], (.mk 14 (bsA []) 0 false [bsA [120]] [false] [(.mk 1 (bsA []) 0 false [] [] [])]), []⟩]
theorem ok7f : ∀ m, m ∈ [mC7f, mD7f] → MetOk Try.prog m := mets_ok (b := bn 90) (es := es7f) (clock := 9) (f := 5) (l := l7f) (by kernel_rfl) (by kernel_rfl) (by kernel_rfl) (by decide +kernel) (by decide +kernel) rfl rfl rfl rfl rfl rfl rfl rfl rfl rfl rfl
noncomputable def l8f : List Nmd := [⟨bsA [109,97,105,110,46,84,97], (.mk 14 (bsA []) 0 false [bsA [84,98]] [true] [(.mk 8 (bsA [109,97,105,110,46,84,98]) 0 false [] [] [])]), []⟩,
  ⟨bsA [109,97,105,110,46,84,98], (.mk 14 (bsA []) 0 false [bsA [84,99]] [true] [(.mk 8 (bsA [109,97,105,110,46,84,99]) 0 false [] [] [])]), []⟩,
  ⟨bsA [109,97,105,110,46,84,99], (.mk 14 (bsA []) 0 false [bsA [84,100]] [true] [(.mk 8 (bsA [109,97,105,110,46,84,100]) 0 false [] [] [])]), []⟩,
  ⟨bsA [109,97,105,110,46,84,100], (.mk 14 (bsA []) 0 false [bsA [84,101]] [true] [(.mk 8 (bsA [109,97,105,110,46,84,101]) 0 false [] [] [])]), []⟩,
  ⟨bsA [109,97,105,110,46,84,101], (.mk 14 (bsA []) 0 false [bsA [84,102]] [true] [(.mk 8 (bsA [109,97,105,110,46,84,102]) 0 false [] [] [])]), []⟩,
  ⟨bsA [109,97,105,110,46,84,102], (.mk 14 (bsA []) 0 false [bsA [84,103]] [true] [(.mk 8 (bsA [109,97,105,110,46,84,103]) 0 false [] [] [])]), []⟩,
  ⟨bsA [109,97,105,110,46,84,103], (.mk 14 (bsA []) 0 false [bsA [84,104]] [true] [(.mk 8 (bsA [109,97,105,110,46,84,104]) 0 false [] [] [])]), []⟩,
  ⟨bsA [109,97,105,110,46,84,104], (.mk 14 (bsA []) 0 false [bsA [84,105]] [true] [(.mk 8 (bsA [109,97,105,110,46,84,105]) 0 false [] [] [])]), []⟩,
  ⟨bsA [109,97,105,110,46,84,105], (.mk 14 (bsA []) 0 false [bsA [120]] [false] [(.mk 1 (bsA []) 0 false [] [] [])]), []⟩,
  ⟨bsA [109,97,105,110,46,90], (.mk 14 (bsA []) 0 false [bsA [120]] [false] [(.mk 1 (bsA []) 0 false [] [] [])]), []⟩]
theorem ok8f : ∀ m, m ∈ [mC8f, mD8f] → MetOk Try.prog m := mets_ok (b := bn 100) (es := es8f) (clock := 10) (f := 5) (l := l8f) (by kernel_rfl) (by kernel_rfl) (by kernel_rfl) (by decide +kernel) (by decide +kernel) rfl rfl rfl rfl rfl rfl rfl rfl rfl rfl rfl
noncomputable def l9f : List Nmd := [⟨bsA [109,97,105,110,46,84,97], (.mk 14 (bsA []) 0 false [bsA [84,98]] [true] [(.mk 8 (bsA [109,97,105,110,46,84,98]) 0 false [] [] [])]), []⟩,
  ⟨bsA [109,97,105,110,46,84,98], (.mk 14 (bsA []) 0 false [bsA [84,99]] [true] [(.mk 8 (bsA [109,97,105,110,46,84,99]) 0 false [] [] [])]), []⟩,
  ⟨bsA [109,97,105,110,46,84,99], (.mk 14 (bsA []) 0 false [bsA [84,100]] [true] [(.mk 8 (bsA [109,97,105,110,46,84,100]) 0 false [] [] [])]), []⟩,
  ⟨bsA [109,97,105,110,46,84,100], (.mk 14 (bsA []) 0 false [bsA [84,101]] [true] [(.mk 8 (bsA [109,97,105,110,46,84,101]) 0 false [] [] [])]), []⟩,
  ⟨bsA [109,97,105,110,46,84,101], (.mk 14 (bsA []) 0 false [bsA [84,102]] [true] [(.mk 8 (bsA [109,97,105,110,46,84,102]) 0 false [] [] [])]), []⟩,
  ⟨bsA [109,97,105,110,46,84,102], (.mk 14 (bsA []) 0 false [bsA [84,103]] [true] [(.mk 8 (bsA [109,97,105,110,46,84,103]) 0 false [] [] [])]), []⟩,
  ⟨bsA [109,97,105,110,46,84,103], (.mk 14 (bsA []) 0 false [bsA [84,104]] [true] [(.mk 8 (bsA [109,97,105,110,46,84,104]) 0 false [] [] [])]), []⟩,
  ⟨bsA [109,97,105,110,46,84,104], (.mk 14 (bsA []) 0 false [bsA [84,105]] [true] [(.mk 8 (bsA [109,97,105,110,46,84,105]) 0 false [] [] [])]), []⟩,
  ⟨bsA [109,97,105,110,46,84,105], (.mk 14 (bsA []) 0 false [bsA [84,106]] [true] [(.mk 8 (bsA [109,97,105,110,46,84,106]) 0 false [] [] [])]), []⟩,
  ⟨bsA [109,97,105,110,46,84,106], (.mk 14 (bsA []) 0 false [bsA [120]] [false] [(.mk 1 (bsA []) 0 false [] [] [])]), []⟩,
  ⟨bsA [109,97,105,110,46,90], (.mk 14 (bsA []) 0 false [bsA [120]] [false] [(.mk 1 (bsA []) 0 false [] [] [])]), []⟩]
theorem ok9f : ∀ m, m ∈ [mC9f, mD9f] → MetOk Try.prog m := mets_ok (b := bn 110) (es := es9f) (clock := 11) (f := 5) (l := l9f) (by kernel_rfl) (by kernel_rfl) (by kernel_rfl) (by decide +kernel) (by decide +kernel) rfl rfl rfl rfl rfl rfl rfl rfl rfl rfl rfl
noncomputable def l10f : List Nmd := [⟨bsA [109,97,105,110,46,84,97], (.mk 14 (bsA []) 0 false [bsA [84,98]] [true] [(.mk 8 (bsA [109,97,105,110,46,84,98]) 0 false [] [] [])]), []⟩,
  ⟨bsA [109,97,105,110,46,84,98], (.mk 14 (bsA []) 0 false [bsA [84,99]] [true] [(.mk 8 (bsA [109,97,105,110,46,84,99]) 0 false [] [] [])]), []⟩,
  ⟨bsA [109,97,105,110,46,84,99], (.mk 14 (bsA []) 0 false [bsA [84,100]] [true] [(.mk 8 (bsA [109,97,105,110,46,84,100]) 0 false [] [] [])]), []⟩,
  ⟨bsA [109,97,105,110,46,84,100], (.mk 14 (bsA []) 0 false [bsA [84,101]] [true] [(.mk 8 (bsA [109,97,105,110,46,84,101]) 0 false [] [] [])]), []⟩,
  ⟨bsA [109,97,105,110,46,84,101], (.mk 14 (bsA []) 0 false [bsA [84,102]] [true] [(.mk 8 (bsA [109,97,105,110,46,84,102]) 0 false [] [] [])]), []⟩,
  ⟨bsA [109,97,105,110,46,84,102], (.mk 14 (bsA []) 0 false [bsA [84,103]] [true] [(.mk 8 (bsA [109,97,105,110,46,84,103]) 0 false [] [] [])]), []⟩,
  ⟨bsA [109,97,105,110,46,84,103], (.mk 14 (bsA []) 0 false [bsA [84,104]] [true] [(.mk 8 (bsA [109,97,105,110,46,84,104]) 0 false [] [] [])]), []⟩,
  ⟨bsA [109,97,105,110,46,84,104], (.mk 14 (bsA []) 0 false [bsA [84,105]] [true] [(.mk 8 (bsA [109,97,105,110,46,84,105]) 0 false [] [] [])]), []⟩,
  ⟨bsA [109,97,105,110,46,84,105], (.mk 14 (bsA []) 0 false [bsA [84,106]] [true] [(.mk 8 (bsA [109,97,105,110,46,84,106]) 0 false [] [] [])]), []⟩,
  ⟨bsA [109,97,105,110,46,84,106], (.mk 14 (bsA []) 0 false [bsA [84,107]] [true] [(.mk 8 (bsA [109,97,105,110,46,84,107]) 0 false [] [] [])]), []⟩,
  ⟨bsA [109,97,105,110,46,84,107], (.mk 14 (bsA []) 0 false [bsA [120]] [false] [(.mk 1 (bsA []) 0 false [] [] [])]), []⟩,
  ⟨bsA [109,97,105,110,46,90], (.mk 14 (bsA []) 0 false [bsA [120]] [false] [(.mk 1 (bsA []) 0 false [] [] [])]), []⟩]
theorem ok10f : ∀ m, m ∈ [mC10f, mD10f] → MetOk Try.prog m := mets_ok (b := bn 120) (es := es10f) (clock := 12) (f := 5) (l := l10f) (by kernel_rfl) (by kernel_rfl) (by kernel_rfl) (by decide +kernel) (by decide +kernel) rfl rfl rfl rfl rfl rfl rfl rfl rfl rfl rfl
noncomputable def l1t : List Nmd := [⟨bsA [109,97,105,110,46,84,97], (.mk 14 (bsA []) 0 false [bsA [84,98], bsA [90]] [true, true] [(.mk 8 (bsA [109,97,105,110,46,84,98]) 0 false [] [] []), (.mk 8 (bsA [109,97,105,110,46,90]) 0 false [] [] [])]), []⟩,
  ⟨bsA [109,97,105,110,46,84,98], (.mk 14 (bsA []) 0 false [bsA [120]] [false] [(.mk 1 (bsA []) 0 false [] [] [])]), []⟩,
  ⟨bsA [109,97,105,110,46,90], (.mk 14 (bsA []) 0 false [bsA [120]] [false] [(.mk 1 (bsA []) 0 false [] [] [])]), []⟩]
theorem ok1t : ∀ m, m ∈ [mC1t, mD1t] → MetOk Try.prog m := mets_ok (b := bn 37) (es := es1t) (clock := 3) (f := 5) (l := l1t) (by kernel_rfl) (by kernel_rfl) (by kernel_rfl) (by decide +kernel) (by decide +kernel) rfl rfl rfl rfl rfl rfl rfl rfl rfl rfl rfl
noncomputable def l2t : List Nmd := [⟨bsA [109,97,105,110,46,84,97], (.mk 14 (bsA []) 0 false [bsA [84,98]] [true] [(.mk 8 (bsA [109,97,105,110,46,84,98]) 0 false [] [] [])]), []⟩,
  ⟨bsA [109,97,105,110,46,84,98], (.mk 14 (bsA []) 0 false [bsA [84,99], bsA [90]] [true, true] [(.mk 8 (bsA [109,97,105,110,46,84,99]) 0 false [] [] []), (.mk 8 (bsA [109,97,105,110,46,90]) 0 false [] [] [])]), []⟩,
  ⟨bsA [109,97,105,110,46,84,99], (.mk 14 (bsA []) 0 false [bsA [120]] [false] [(.mk 1 (bsA []) 0 false [] [] [])]), []⟩,
  ⟨bsA [109,97,105,110,46,90], (.mk 14 (bsA []) 0 false [bsA [120]] [false] [(.mk 1 (bsA []) 0 false [] [] [])]), []⟩]
theorem ok2t : ∀ m, m ∈ [mC2t, mD2t] → MetOk Try.prog m := mets_ok (b := bn 47) (es := es2t) (clock := 4) (f := 5) (l := l2t) (by kernel_rfl) (by kernel_rfl) (by kernel_rfl) (by decide +kernel) (by decide +kernel) rfl rfl rfl rfl rfl rfl rfl rfl rfl rfl rfl
noncomputable def l3t : List Nmd := [⟨bsA [109,97,105,110,46,84,97], (.mk 14 (bsA []) 0 false [bsA [84,98]] [true] [(.mk 8 (bsA [109,97,105,110,46,84,98]) 0 false [] [] [])]), []⟩,
  ⟨bsA [109,97,105,110,46,84,98], (.mk 14 (bsA []) 0 false [bsA [84,99]] [true] [(.mk 8 (bsA [109,97,105,110,46,84,99]) 0 false [] [] [])]), []⟩,
  ⟨bsA [109,97,105,110,46,84,99], (.mk 14 (bsA []) 0 false [bsA [84,100], bsA [90]] [true, true] [(.mk 8 (bsA [109,97,105,110,46,84,100]) 0 false [] [] []), (.mk 8 (bsA [109,97,105,110,46,90]) 0 false [] [] [])]), []⟩,
  ⟨bsA [109,97,105,110,46,84,100], (.mk 14 (bsA []) 0 false [bsA [120]] [false] [(.mk 1 (bsA []) 0 false [] [] [])]), []⟩,
  ⟨bsA [109,97,105,110,46,90], (.mk 14 (bsA []) 0 false [bsA [120]] [false] [(.mk 1 (bsA []) 0 false [] [] [])]), []⟩]
theorem ok3t : ∀ m, m ∈ [mC3t, mD3t] → MetOk Try.prog m := mets_ok (b := bn 57) (es := es3t) (clock := 5) (f := 5) (l := l3t) (by kernel_rfl) (by kernel_rfl) (by kernel_rfl) (by decide +kernel) (by decide +kernel) rfl rfl rfl rfl rfl rfl rfl rfl rfl rfl rfl
noncomputable def l4t : List Nmd := [⟨bsA [109,97,105,110,46,84,97], (.mk 14 (bsA []) 0 false [bsA [84,98]] [true] [(.mk 8 (bsA [109,97,105,110,46,84,98]) 0 false [] [] [])]), []⟩,
  ⟨bsA [109,97,105,110,46,84,98], (.mk 14 (bsA []) 0 false [bsA [84,99]] [true] [(.mk 8 (bsA [109,97,105,110,46,84,99]) 0 false [] [] [])]), []⟩,
  ⟨bsA [109,97,105,110,46,84,99], (.mk 14 (bsA []) 0 false [bsA [84,100]] [true] [(.mk 8 (bsA [109,97,105,110,46,84,100]) 0 false [] [] [])]), []⟩,
  ⟨bsA [109,97,105,110,46,84,100], (.mk 14 (bsA []) 0 false [bsA [84,101], bsA [90]] [true, true] [(.mk 8 (bsA [109,97,105,110,46,84,101]) 0 false [] [] []), (.mk 8 (bsA [109,97,105,110,46,90]) 0 false [] [] [])]), []⟩,
  ⟨bsA [109,97,105,110,46,84,101], (.mk 14 (bsA []) 0 false [bsA [120]] [false] [(.mk 1 (bsA []) 0 false [] [] [])]), []⟩,
  ⟨bsA [109,97,105,110,46,90], (.mk 14 (bsA []) 0 false [bsA [120]] [false] [(.mk 1 (bsA []) 0 false [] [] [])]), []⟩]
theorem ok4t : ∀ m, m ∈ [mC4t, mD4t] → MetOk Try.prog m := mets_ok (b := bn 67) (es := es4t) (clock := 6) (f := 5) (l := l4t) (by kernel_rfl) (by kernel_rfl) (by kernel_rfl) (by decide +kernel) (by decide +kernel) rfl rfl rfl rfl rfl rfl rfl rfl rfl rfl rfl
noncomputable def l5t : List Nmd := [⟨bsA [109,97,105,110,46,84,97], (.mk 14 (bsA []) 0 false [bsA [84,98]] [true] [(.mk 8 (bsA [109,97,105,110,46,84,98]) 0 false [] [] [])]), []⟩,
  ⟨bsA [109,97,105,110,46,84,98], (.mk 14 (bsA []) 0 false [bsA [84,99]] [true] [(.mk 8 (bsA [109,97,105,110,46,84,99]) 0 false [] [] [])]), []⟩,
  ⟨bsA [109,97,105,110,46,84,99], (.mk 14 (bsA []) 0 false [bsA [84,100]] [true] [(.mk 8 (bsA [109,97,105,110,46,84,100]) 0 false [] [] [])]), []⟩,
  ⟨bsA [109,97,105,110,46,84,100], (.mk 14 (bsA []) 0 false [bsA [84,101]] [true] [(.mk 8 (bsA [109,97,105,110,46,84,101]) 0 false [] [] [])]), []⟩,
  ⟨bsA [109,97,105,110,46,84,101], (.mk 14 (bsA []) 0 false [bsA [84,102], bsA [90]] [true, true] [(.mk 8 (bsA [109,97,105,110,46,84,102]) 0 false [] [] []), (.mk 8 (bsA [109,97,105,110,46,90]) 0 false [] [] [])]), []⟩,
  ⟨bsA [109,97,105,110,46,84,102], (.mk 14 (bsA []) 0 false [bsA [120]] [false] [(.mk 1 (bsA []) 0 false [] [] [])]), []⟩,
  ⟨bsA [109,97,105,110,46,90], (.mk 14 (bsA []) 0 false [bsA [120]] [false] [(.mk 1 (bsA []) 0 false [] [] [])]), []⟩]
theorem ok5t : ∀ m, m ∈ [mC5t, mD5t] → MetOk Try.prog m := mets_ok (b := bn 77) (es := es5t) (clock := 7) (f := 5) (l := l5t) (by kernel_rfl) (by kernel_rfl) (by kernel_rfl) (by decide +kernel) (by decide +kernel) rfl rfl rfl rfl rfl rfl rfl rfl rfl rfl rfl
noncomputable def l6t : List Nmd := [⟨bsA [109,97,105,110,46,84,97], (.mk 14 (bsA []) 0 false [bsA [84,98]] [true] [(.mk 8 (bsA [109,97,105,110,46,84,98]) 0 false [] [] [])]), []⟩,
  ⟨bsA [109,97,105,110,46,84,98], (.mk 14 (bsA []) 0 false [bsA [84,99]] [true] [(.mk 8 (bsA [109,97,105,110,46,84,99]) 0 false [] [] [])]), []⟩,
  ⟨bsA [109,97,105,110,46,84,99], (.mk 14 (bsA []) 0 false [bsA [84,100]] [true] [(.mk 8 (bsA [109,97,105,110,46,84,100]) 0 false [] [] [])]), []⟩,
  ⟨bsA [109,97,105,110,46,84,100], (.mk 14 (bsA []) 0 false [bsA [84,101]] [true] [(.mk 8 (bsA [109,97,105,110,46,84,101]) 0 false [] [] [])]), []⟩,
  ⟨bsA [109,97,105,110,46,84,101], (.mk 14 (bsA []) 0 false [bsA [84,102]] [true] [(.mk 8 (bsA [109,97,105,110,46,84,102]) 0 false [] [] [])]), []⟩,
  ⟨bsA [109,97,105,110,46,84,102], (.mk 14 (bsA []) 0 false [bsA [84,103], bsA [90]] [true, true] [(.mk 8 (bsA [109,97,105,110,46,84,103]) 0 false [] [] []), (.mk 8 (bsA [109,97,105,110,46,90]) 0 false [] [] [])]), []⟩,
  ⟨bsA [109,97,105,110,46,84,103], (.mk 14 (bsA []) 0 false [bsA [120]] [false] [(.mk 1 (bsA []) 0 false [] [] [])]), []⟩,
  ⟨bsA [109,97,105,110,46,90], (.mk 14 (bsA []) 0 false [bsA [120]] [false] [(.mk 1 (bsA []) 0 false [] [] [])]), []⟩]
theorem ok6t : ∀ m, m ∈ [mC6t, mD6t] → MetOk Try.prog m := mets_ok (b := bn 87) (es := es6t) (clock := 8) (f := 5) (l := l6t) (by kernel_rfl) (by kernel_rfl) (by kernel_rfl) (by decide +kernel) (by decide +kernel) rfl rfl rfl rfl rfl rfl rfl rfl rfl rfl rfl
noncomputable def l7t : List Nmd := [⟨bsA [109,97,105,110,46,84,97], (.mk 14 (bsA []) 0 false [bsA [84,98]] [true] [(.mk 8 (bsA [109,97,105,110,46,84,98]) 0 false [] [] [])]), []⟩,
  ⟨bsA [109,97,105,110,46,84,98], (.mk 14 (bsA []) 0 false [bsA [84,99]] [true] [(.mk 8 (bsA [109,97,105,110,46,84,99]) 0 false [] [] [])]), []⟩,
  ⟨bsA [109,97,105,110,46,84,99], (.mk 14 (bsA []) 0 false [bsA [84,100]] [true] [(.mk 8 (bsA [109,97,105,110,46,84,100]) 0 false [] [] [])]), []⟩,
  ⟨bsA [109,97,105,110,46,84,100], (.mk 14 (bsA []) 0 false [bsA [84,101]] [true] [(.mk 8 (bsA [109,97,105,110,46,84,101]) 0 false [] [] [])]), []⟩,
  ⟨bsA [109,97,105,110,46,84,101], (.mk 14 (bsA []) 0 false [bsA [84,102]] [true] [(.mk 8 (bsA [109,97,105,110,46,84,102]) 0 false [] [] [])]), []⟩,
  ⟨bsA [109,97,105,110,46,84,102], (.mk 14 (bsA []) 0 false [bsA [84,103]] [true] [(.mk 8 (bsA [109,97,105,110,46,84,103]) 0 false [] [] [])]), []⟩,
  ⟨bsA [109,97,105,110,46,84,103], (.mk 14 (bsA []) 0 false [bsA [84,104], bsA [90]] [true, true] [(.mk 8 (bsA [109,97,105,110,46,84,104]) 0 false [] [] []), (.mk 8 (bsA [109,97,105,110,46,90]) 0 false [] [] [])]), []⟩,
  ⟨bsA [109,97,105,110,46,84,104], (.mk 14 (bsA []) 0 false [bsA [120]] [false] [(.mk 1 (bsA []) 0 false [] [] [])]), []⟩,
  ⟨bsA [109,97,105,110,46,90], (.mk 14 (bsA []) 0 false [bsA [120]] [false] [(.mk 1 (bsA []) 0 false [] [] [])]), []⟩]
theorem ok7t : ∀ m, m ∈ [mC7t, mD7t] → MetOk Try.prog m := mets_ok (b := bn 97) (es := es7t) (clock := 9) (f := 5) (l := l7t) (by kernel_rfl) (by kernel_rfl) (by kernel_rfl) (by decide +kernel) (by decide +kernel) rfl rfl rfl rfl rfl rfl rfl rfl rfl rfl rfl
noncomputable def l8t : List Nmd := [⟨bsA [109,97,105,110,46,84,97], (.mk 14 (bsA []) 0 false [bsA [84,98]] [true] [(.mk 8 (bsA [109,97,105,110,46,84,98]) 0 false [] [] [])]), []⟩,
  ⟨bsA [109,97,105,110,46,84,98], (.mk 14 (bsA []) 0 false [bsA [84,99]] [true] [(.mk 8 (bsA [109,97,105,110,46,84,99]) 0 false [] [] [])]), []⟩,
  ⟨bsA [109,97,105,110,46,84,99], (.mk 14 (bsA []) 0 false [bsA [84,100]] [true] [(.mk 8 (bsA [109,97,105,110,46,84,100]) 0 false [] [] [])]), []⟩,
  ⟨bsA [109,97,105,110,46,84,100], (.mk 14 (bsA []) 0 false [bsA [84,101]] [true] [(.mk 8 (bsA [109,97,105,110,46,84,101]) 0 false [] [] [])]), []⟩,
  ⟨bsA [109,97,105,110,46,84,101], (.mk 14 (bsA []) 0 false [bsA [84,102]] [true] [(.mk 8 (bsA [109,97,105,110,46,84,102]) 0 false [] [] [])]), []⟩,
  ⟨bsA [109,97,105,110,46,84,102], (.mk 14 (bsA []) 0 false [bsA [84,103]] [true] [(.mk 8 (bsA [109,97,105,110,46,84,103]) 0 false [] [] [])]), []⟩,
  ⟨bsA [109,97,105,110,46,84,103], (.mk 14 (bsA []) 0 false [bsA [84,104]] [true] [(.mk 8 (bsA [109,97,105,110,46,84,104]) 0 false [] [] [])]), []⟩,
  ⟨bsA [109,97,105,110,46,84,104], (.mk 14 (bsA []) 0 false [bsA [84,105], bsA [90]] [true, true] [(.mk 8 (bsA [109,97,105,110,46,84,105]) 0 false [] [] []), (.mk 8 (bsA [109,97,105,110,46,90]) 0 false [] [] [])]), []⟩,
  ⟨bsA [109,97,105,110,46,84,105], (.mk 14 (bsA []) 0 false [bsA [120]] [false] [(.mk 1 (bsA []) 0 false [] [] [])]), []⟩,
  ⟨bsA [109,97,105,110,46,90], (.mk 14 (bsA []) 0 false [bsA [120]] [false] [(.mk 1 (bsA []) 0 false [] [] [])]), []⟩]
theorem ok8t : ∀ m, m ∈ [mC8t, mD8t] → MetOk Try.prog m := mets_ok (b := bn 107) (es := es8t) (clock := 10) (f := 5) (l := l8t) (by kernel_rfl) (by kernel_rfl) (by kernel_rfl) (by decide +kernel) (by decide +kernel) rfl rfl rfl rfl rfl rfl rfl rfl rfl rfl rfl
noncomputable def l9t : List Nmd := [⟨bsA [109,97,105,110,46,84,97], (.mk 14 (bsA []) 0 false [bsA [84,98]] [true] [(.mk 8 (bsA [109,97,105,110,46,84,98]) 0 false [] [] [])]), []⟩,
  ⟨bsA [109,97,105,110,46,84,98], (.mk 14 (bsA []) 0 false [bsA [84,99]] [true] [(.mk 8 (bsA [109,97,105,110,46,84,99]) 0 false [] [] [])]), []⟩,
  ⟨bsA [109,97,105,110,46,84,99], (.mk 14 (bsA []) 0 false [bsA [84,100]] [true] [(.mk 8 (bsA [109,97,105,110,46,84,100]) 0 false [] [] [])]), []⟩,
  ⟨bsA [109,97,105,110,46,84,100], (.mk 14 (bsA []) 0 false [bsA [84,101]] [true] [(.mk 8 (bsA [109,97,105,110,46,84,101]) 0 false [] [] [])]), []⟩,
  ⟨bsA [109,97,105,110,46,84,101], (.mk 14 (bsA []) 0 false [bsA [84,102]] [true] [(.mk 8 (bsA [109,97,105,110,46,84,102]) 0 false [] [] [])]), []⟩,
  ⟨bsA [109,97,105,110,46,84,102], (.mk 14 (bsA []) 0 false [bsA [84,103]] [true] [(.mk 8 (bsA [109,97,105,110,46,84,103]) 0 false [] [] [])]), []⟩,
  ⟨bsA [109,97,105,110,46,84,103], (.mk 14 (bsA []) 0 false [bsA [84,104]] [true] [(.mk 8 (bsA [109,97,105,110,46,84,104]) 0 false [] [] [])]), []⟩,
  ⟨bsA [109,97,105,110,46,84,104], (.mk 14 (bsA []) 0 false [bsA [84,105]] [true] [(.mk 8 (bsA [109,97,105,110,46,84,105]) 0 false [] [] [])]), []⟩,
  ⟨bsA [109,97,105,110,46,84,105], (.mk 14 (bsA []) 0 false [bsA [84,106], bsA [90]] [true, true] [(.mk 8 (bsA [109,97,105,110,46,84,106]) 0 false [] [] []), (.mk 8 (bsA [109,97,105,110,46,90]) 0 false [] [] [])]), []⟩,
  ⟨bsA [109,97,105,110,46,84,106], (.mk 14 (bsA []) 0 false [bsA [120]] [false] [(.mk 1 (bsA []) 0 false [] [] [])]), []⟩,
  ⟨bsA [109,97,105,110,46,90], (.mk 14 (bsA []) 0 false [bsA [120]] [false] [(.mk 1 (bsA []) 0 false [] [] [])]), []⟩]
theorem ok9t : ∀ m, m ∈ [mC9t, mD9t] → MetOk Try.prog m := mets_ok (b := bn 117) (es := es9t) (clock := 11) (f := 5) (l := l9t) (by kernel_rfl) (by kernel_rfl) (by kernel_rfl) (by decide +kernel) (by decide +kernel) rfl rfl rfl rfl rfl rfl rfl rfl rfl rfl rfl
noncomputable def l10t : List Nmd := [⟨bsA [109,97,105,110,46,84,97], (.mk 14 (bsA []) 0 false [bsA [84,98]] [true] [(.mk 8 (bsA [109,97,105,110,46,84,98]) 0 false [] [] [])]), []⟩,
  ⟨bsA [109,97,105,110,46,84,98], (.mk 14 (bsA []) 0 false [bsA [84,99]] [true] [(.mk 8 (bsA [109,97,105,110,46,84,99]) 0 false [] [] [])]), []⟩,
  ⟨bsA [109,97,105,110,46,84,99], (.mk 14 (bsA []) 0 false [bsA [84,100]] [true] [(.mk 8 (bsA [109,97,105,110,46,84,100]) 0 false [] [] [])]), []⟩,
  ⟨bsA [109,97,105,110,46,84,100], (.mk 14 (bsA []) 0 false [bsA [84,101]] [true] [(.mk 8 (bsA [109,97,105,110,46,84,101]) 0 false [] [] [])]), []⟩,
  ⟨bsA [109,97,105,110,46,84,101], (.mk 14 (bsA []) 0 false [bsA [84,102]] [true] [(.mk 8 (bsA [109,97,105,110,46,84,102]) 0 false [] [] [])]), []⟩,
  ⟨bsA [109,97,105,110,46,84,102], (.mk 14 (bsA []) 0 false [bsA [84,103]] [true] [(.mk 8 (bsA [109,97,105,110,46,84,103]) 0 false [] [] [])]), []⟩,
  ⟨bsA [109,97,105,110,46,84,103], (.mk 14 (bsA []) 0 false [bsA [84,104]] [true] [(.mk 8 (bsA [109,97,105,110,46,84,104]) 0 false [] [] [])]), []⟩,
  ⟨bsA [109,97,105,110,46,84,104], (.mk 14 (bsA []) 0 false [bsA [84,105]] [true] [(.mk 8 (bsA [109,97,105,110,46,84,105]) 0 false [] [] [])]), []⟩,
  ⟨bsA [109,97,105,110,46,84,105], (.mk 14 (bsA []) 0 false [bsA [84,106]] [true] [(.mk 8 (bsA [109,97,105,110,46,84,106]) 0 false [] [] [])]), []⟩,
  ⟨bsA [109,97,105,110,46,84,106], (.mk 14 (bsA []) 0 false [bsA [84,107], bsA [90]] [true, true] [(.mk 8 (bsA [109,97,105,110,46,84,107]) 0 false [] [] []), (.mk 8 (bsA [109,97,105,110,46,90]) 0 false [] [] [])]), []⟩,
  ⟨bsA [109,97,105,110,46,84,107], (.mk 14 (bsA []) 0 false [bsA [120]] [false] [(.mk 1 (bsA []) 0 false [] [] [])]), []⟩,
  ⟨bsA [109,97,105,110,46,90], (.mk 14 (bsA []) 0 false [bsA [120]] [false] [(.mk 1 (bsA []) 0 false [] [] [])]), []⟩]
theorem ok10t : ∀ m, m ∈ [mC10t, mD10t] → MetOk Try.prog m := mets_ok (b := bn 127) (es := es10t) (clock := 12) (f := 5) (l := l10t) (by kernel_rfl) (by kernel_rfl) (by kernel_rfl) (by decide +kernel) (by decide +kernel) rfl rfl rfl rfl rfl rfl rfl rfl rfl rfl rfl
end Ev
end Go.Proofs.Ytdofhlmffponoaa
