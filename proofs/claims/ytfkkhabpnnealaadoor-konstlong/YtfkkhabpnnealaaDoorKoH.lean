/-
  The document's Binary at two kinds, walked.
-/
import Derived.Test.YtfkkhabpnnealaaDoorKoD
namespace Go.Proofs.YtfkkhabpnnealaaDoor
open Go.RowKit
attribute [local go_sem ↓] Go.wp_at_zero Go.wp_at_succ
set_option maxRecDepth 100000 in
set_option maxHeartbeats 8000000 in
theorem rbin_ne (op : ByteArray) (k1 k2 : Int) (s1 s2 : Bool) (ao : Option Addr) (n cap : Nat) (ap : Option Addr) (m capb : Nat) (t1 t2 : ByteArray) (b1 b2 : Bool) (w : World) (hk : k1 ≠ k2) :
    Calls Tryd.prog 10 #[.string op, cnV k1 s1 ao n cap t1 b1, cnV k2 s2 ap m capb t2 b2] w (AnsQ w (noA 6)) := by
  have HB3 : Hid (Below w.heap.size w (((w.alloc (.cells #[.int .i64 k1, .bool s1, .slice ao n cap, .string t1, .bool b1] 26)).alloc (.cells #[.int .i64 k2, .bool s2, .slice ap m capb, .string t2, .bool b2] 26)).alloc (.cells #[.int .i64 0, .bool false, .slice none 0 0, .string ⟨#[]⟩, .bool false] 26))) := three_below w _ _ _
  have HZ3 : Hid ((((w.alloc (.cells #[.int .i64 k1, .bool s1, .slice ao n cap, .string t1, .bool b1] 26)).alloc (.cells #[.int .i64 k2, .bool s2, .slice ap m capb, .string t2, .bool b2] 26)).alloc (.cells #[.int .i64 0, .bool false, .slice none 0 0, .string ⟨#[]⟩, .bool false] 26)).heap[w.heap.size + 1 + 1]? = some (.cells #[.int .i64 0, .bool false, .slice none 0 0, .string ⟨#[]⟩, .bool false] 26 (0, 0))) := three_new _ _ _
  have z : (k1 != k2) = true := by simpa using hk
  go_enter Tryd.func10, Tryd.ntmps10
  go_wp2_with fail
  exact bodyPost_ret (v := .tuple #[.agg #[.int .i64 0, .bool false, .slice none 0 0, .string ⟨#[]⟩, .bool false], .int .i64 6]) (res_ct rfl rfl rfl (resC HZ3.out)) rfl ⟨⟨_, rfl, _, _, _, rfl, zero_num _ _⟩, HB3.out⟩
end Go.Proofs.YtfkkhabpnnealaaDoor

