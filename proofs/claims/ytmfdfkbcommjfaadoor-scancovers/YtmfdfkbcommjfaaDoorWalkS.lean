/-
  scan.Comments, walked.
-/
import Derived.Test.YtmfdfkbcommjfaaDoorWalkR
namespace Go.Proofs.YtmfdfkbcommjfaaDoor
open Go.RowKit
attribute [local go_sem ↓] Go.wp_at_zero Go.wp_at_succ
/-- what Comments answers -/
def RemP (w : World) (r : RO) (e : Ending) (w' : World) : Prop :=
  Below w.heap.size w w' ∧ match r with
    | .ok s => ∃ rv, e = .returned rv ∧ w'.ownsRow w.heap.size 33 2 rv s.rems.length (flS s.rems)
    | .bad _ _ => e = .returned (.slice none 0 0)
set_option maxRecDepth 100000 in
set_option maxHeartbeats 1000000 in
theorem comments_any (S : ByteArray) (w : World) (hM : Mem w) : Calls Tryd.prog 17 #[.string S] w (RemP w (readOf S)) := by
  have H22 : Hid (Calls Tryd.prog 22 #[.string S] w (ReadP w (readOf S))) := read_any S w hM.tabs hM.mx
  clear hM
  generalize readOf S = r at *
  cases r with
  | bad c o =>
    go_enter Tryd.func17, Tryd.ntmps17
    go_wp2_with (go_at_call 22; refine H22.out.mono ?_; rintro e w1 ⟨hb1, rfl⟩; unfold fltV)
    go_ret
    exact ⟨hb1.alloc hb1.size _, rfl⟩
  | ok s =>
    go_enter Tryd.func17, Tryd.ntmps17
    go_wp2_with (go_at_call 22; refine H22.out.mono ?_; rintro e w1 ⟨hb1, tv, rv, rfl, _, hr⟩; unfold fltV)
    go_ret
    exact ⟨hb1.alloc hb1.size _, rv, rfl, hr.alloc _⟩
end Go.Proofs.YtmfdfkbcommjfaaDoor
