/-
  ExactSpread's law, walked: any three numbers (all).
-/
import Derived.Test.YtimjafgaadafdabDoorSpreadA
import Derived.Test.YtimjafgaadafdabDoorSpreadB
import Derived.Test.YtimjafgaadafdabDoorSpreadC
namespace Go.Proofs.YtimjafgaadafdabDoor
open Go.RowKit
attribute [local go_sem ↓] Go.wp_at_zero Go.wp_at_succ
theorem spread_any (s1 s2 s3 : Bool) (a1 a2 a3 : Option Addr) (n1 n2 n3 c1 c2 c3 : Nat) (l1 l2 l3 : List Nat) (w : World) (h1 : Sl w a1 n1 c1 l1) (h2 : Sl w a2 n2 c2 l2) (h3 : Sl w a3 n3 c3 l3) :
    Calls Tryd.prog 4 #[.agg #[.bool s1, .slice a1 n1 c1], .agg #[.bool s2, .slice a2 n2 c2], .agg #[.bool s3, .slice a3 n3 c3]] w fun e w' => e = .returned (.bool true) ∧ Below w.heap.size w w' := by
  by_cases b1 : 40 < n1
  · exact spread_out1 s1 s2 s3 a1 a2 a3 n1 n2 n3 c1 c2 c3 l1 l2 l3 w h1 h2 h3 b1
  by_cases b2 : 40 < n2
  · exact spread_out2 s1 s2 s3 a1 a2 a3 n1 n2 n3 c1 c2 c3 l1 l2 l3 w h1 h2 h3 (by omega)
  by_cases b3 : 40 < n3
  · exact spread_out3 s1 s2 s3 a1 a2 a3 n1 n2 n3 c1 c2 c3 l1 l2 l3 w h1 h2 h3 (by omega)
  by_cases b4 : 4 < n1
  · exact spread_out4 s1 s2 s3 a1 a2 a3 n1 n2 n3 c1 c2 c3 l1 l2 l3 w h1 h2 h3 (by omega)
  by_cases b5 : 4 < n2
  · exact spread_out5 s1 s2 s3 a1 a2 a3 n1 n2 n3 c1 c2 c3 l1 l2 l3 w h1 h2 h3 (by omega)
  by_cases b6 : 4 < n3
  · exact spread_out6 s1 s2 s3 a1 a2 a3 n1 n2 n3 c1 c2 c3 l1 l2 l3 w h1 h2 h3 (by omega)
  exact spread_in s1 s2 s3 a1 a2 a3 n1 n2 n3 c1 c2 c3 l1 l2 l3 w h1 h2 h3 (by omega) (by omega) (by omega)
end Go.Proofs.YtimjafgaadafdabDoor
