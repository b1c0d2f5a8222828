/-
  types.unionOf, walked.
-/
import Derived.Test.YtifcikhgbafegaaKdp
import Derived.Test.YtifcikhgbafegaaNnU
import Derived.Deep.RegionLaw
namespace Go.Proofs.Ytifcikhgbafegaa
open Go.RowKit
attribute [local go_sem ↓] Go.wp_at_zero Go.wp_at_succ
theorem results_two {P : Program} {f : Func} {tmps : Array Value} {W : World} {a b : Nat} {u v : Value} (hf : f.results = #[.tmp a, .tmp b]) (ha : tmps.getD a undef = u) (hb : tmps.getD b undef = v) : (results f tmps).run P W = .ok (.tuple #[u, v]) W := by
  unfold results
  rw [hf]
  have ha2 : tmps[a]?.getD undef = u := by rw [← ha]; simp
  have hb2 : tmps[b]?.getD undef = v := by rw [← hb]; simp
  simp [ha2, hb2]
set_option maxRecDepth 100000 in
set_option maxHeartbeats 2000000 in
theorem union_0 {w : World} {b o c : Nat} {a : Option Addr} (h : w.cell? ⟨b, o + 6, none⟩ = some (.slice a 0 c)) : Calls Try.prog 71 #[pv ⟨b, o, none⟩] w fun e w' => e = .returned (.tuple #[.pointer none, .bool false]) ∧ w' = w := by
  go_enter Try.func71, Try.ntmps71
  go_wp2_with fail
  exact bodyPost_ret (results_two rfl rfl rfl) rfl ⟨rfl, rfl⟩
set_option maxRecDepth 100000 in
set_option maxHeartbeats 2000000 in
theorem union_no {w : World} {b o kb ko n c : Nat} {k : Int} (h : w.cell? ⟨b, o + 6, none⟩ = some (.slice (some ⟨kb, ko, none⟩) n c)) (hn : 0 < n) (hk : w.cell? ⟨kb, ko, none⟩ = some (.int .i64 k)) (h16 : k ≠ 16) : Calls Try.prog 71 #[pv ⟨b, o, none⟩] w fun e w' => e = .returned (.tuple #[.pointer none, .bool false]) ∧ w' = w := by
  have z0 : decide ((n : Int) = 0) = false := by simp; omega
  have z1 : ((n : Int) == 0) = false := by simp; omega
  have z2 : (0 : Int) < (n : Int) := by omega
  have z3 := int_bne h16
  go_enter Try.func71, Try.ntmps71
  go_wp2_with fail
  exact bodyPost_ret (results_two rfl rfl rfl) rfl ⟨rfl, rfl⟩
set_option maxRecDepth 100000 in
set_option maxHeartbeats 2000000 in
theorem union_yes {w : World} {b o kb ko n c : Nat} (h : w.cell? ⟨b, o + 6, none⟩ = some (.slice (some ⟨kb, ko, none⟩) n c)) (hn : 0 < n) (hk : w.cell? ⟨kb, ko, none⟩ = some (.int .i64 16)) : Calls Try.prog 71 #[pv ⟨b, o, none⟩] w fun e w' => e = .returned (.tuple #[pv ⟨kb, ko, none⟩, .bool true]) ∧ w' = w := by
  have z0 : decide ((n : Int) = 0) = false := by simp; omega
  have z1 : ((n : Int) == 0) = false := by simp; omega
  have z2 : (0 : Int) < (n : Int) := by omega
  go_enter Try.func71, Try.ntmps71
  go_wp2_with fail
  exact bodyPost_ret (results_two rfl rfl rfl) rfl ⟨rfl, rfl⟩
end Go.Proofs.Ytifcikhgbafegaa
/-
  types.comparedBy, walked.
-/
namespace Go.Proofs.Ytifcikhgbafegaa
open Go.RowKit
attribute [local go_sem ↓] Go.wp_at_zero Go.wp_at_succ
/-- what comparedBy answers where there are more to ask -/
structure CbQ (w : World) (l : List Addr) (e : Ending) (w' : World) : Prop where
  ex : ∃ a c, e = .returned (.tuple #[.slice a l.length c, .bool true]) ∧ w'.ownsRow w.heap.size 67 1 (.slice a l.length c) l.length (l.map pv)
  bl : Below w.heap.size w w'
set_option maxRecDepth 100000 in
set_option maxHeartbeats 4000000 in
theorem cb_bas {w : World} {b o : Nat} {k : Int} (h : w.cell? ⟨b, o, none⟩ = some (.int .i64 k)) (hk : basK k = true) : Calls Try.prog 75 #[pv ⟨b, o, none⟩] w fun e w' => e = .returned (.tuple #[.slice none 0 0, .bool true]) ∧ w' = w := by
  simp only [basK, decide_eq_true_eq] at hk
  rcases hk with rfl | rfl | rfl | rfl | rfl | rfl | rfl | rfl | rfl
  · go_enter Try.func75, Try.ntmps75
    go_wp2_with fail
    exact bodyPost_ret (results_two rfl rfl rfl) rfl ⟨rfl, rfl⟩
  · go_enter Try.func75, Try.ntmps75
    go_wp2_with fail
    exact bodyPost_ret (results_two rfl rfl rfl) rfl ⟨rfl, rfl⟩
  · go_enter Try.func75, Try.ntmps75
    go_wp2_with fail
    exact bodyPost_ret (results_two rfl rfl rfl) rfl ⟨rfl, rfl⟩
  · go_enter Try.func75, Try.ntmps75
    go_wp2_with fail
    exact bodyPost_ret (results_two rfl rfl rfl) rfl ⟨rfl, rfl⟩
  · go_enter Try.func75, Try.ntmps75
    go_wp2_with fail
    exact bodyPost_ret (results_two rfl rfl rfl) rfl ⟨rfl, rfl⟩
  · go_enter Try.func75, Try.ntmps75
    go_wp2_with fail
    exact bodyPost_ret (results_two rfl rfl rfl) rfl ⟨rfl, rfl⟩
  · go_enter Try.func75, Try.ntmps75
    go_wp2_with fail
    exact bodyPost_ret (results_two rfl rfl rfl) rfl ⟨rfl, rfl⟩
  · go_enter Try.func75, Try.ntmps75
    go_wp2_with fail
    exact bodyPost_ret (results_two rfl rfl rfl) rfl ⟨rfl, rfl⟩
  · go_enter Try.func75, Try.ntmps75
    go_wp2_with fail
    exact bodyPost_ret (results_two rfl rfl rfl) rfl ⟨rfl, rfl⟩
set_option maxRecDepth 100000 in
set_option maxHeartbeats 4000000 in
theorem cb_not {w : World} {b o : Nat} {k : Int} (h : w.cell? ⟨b, o, none⟩ = some (.int .i64 k)) (hk : basK k = false) (h14 : k ≠ 14) (h9 : k ≠ 9) : Calls Try.prog 75 #[pv ⟨b, o, none⟩] w fun e w' => e = .returned (.tuple #[.slice none 0 0, .bool false]) ∧ w' = w := by
  simp only [basK, decide_eq_false_iff_not, not_or] at hk
  obtain ⟨c1, c2, c3, c4, c5, c6, c10, c12, c15⟩ := hk
  have z1 := int_bne c1
  have z2 := int_bne c2
  have z3 := int_bne c3
  have z4 := int_bne c4
  have z5 := int_bne c5
  have z6 := int_bne c6
  have z10 := int_bne c10
  have z12 := int_bne c12
  have z15 := int_bne c15
  have z14 := int_bne h14
  have z9 := int_bne h9
  go_enter Try.func75, Try.ntmps75
  go_wp2_with fail
  exact bodyPost_ret (results_two rfl rfl rfl) rfl ⟨rfl, rfl⟩
set_option maxRecDepth 100000 in
set_option maxHeartbeats 4000000 in
theorem cb_14 {w : World} {b o kb ko n c : Nat} {a : Option Addr} (h0 : w.cell? ⟨b, o, none⟩ = some (.int .i64 14)) (h : w.cell? ⟨b, o + 6, none⟩ = some (.slice a n c)) (ha : 0 < n → a = some ⟨kb, ko, none⟩) (hn : n ≤ 1000000) : Calls Try.prog 75 #[pv ⟨b, o, none⟩] w (CbQ w (kidA kb ko n)) := by
  have hc := kids_any h ha hn
  clear h ha
  go_enter Try.func75, Try.ntmps75
  go_wp2_with (go_at_call 57; refine hc.mono ?_; intro e x1 hq; obtain ⟨a1, c1, rfl, ho⟩ := hq.ex; have HB : Hid (Below w.heap.size w x1) := hq.bl; have HO : Hid (x1.ownsRow w.heap.size 67 1 (.slice a1 (kidA kb ko n).length c1) (kidA kb ko n).length ((kidA kb ko n).map pv)) := ho; clear hq ho hc)
  exact bodyPost_ret (results_two rfl rfl rfl) rfl ⟨⟨_, _, rfl, HO.out⟩, HB.out⟩
set_option maxRecDepth 100000 in
set_option maxHeartbeats 4000000 in
theorem cb_9_0 {w : World} {b o c : Nat} {a : Option Addr} (h0 : w.cell? ⟨b, o, none⟩ = some (.int .i64 9)) (h : w.cell? ⟨b, o + 6, none⟩ = some (.slice a 0 c)) : Calls Try.prog 75 #[pv ⟨b, o, none⟩] w fun e w' => e = .returned (.tuple #[.slice none 0 0, .bool false]) ∧ w' = w := by
  have hu := union_0 h
  clear h
  go_enter Try.func75, Try.ntmps75
  go_wp2_with (go_at_call 71; refine hu.mono ?_; rintro e x1 ⟨rfl, hx⟩; obtain rfl := hx.symm; clear hx hu)
  exact bodyPost_ret (results_two rfl rfl rfl) rfl ⟨rfl, rfl⟩
set_option maxRecDepth 100000 in
set_option maxHeartbeats 4000000 in
theorem cb_9_no {w : World} {b o kb ko n c : Nat} {k : Int} (h0 : w.cell? ⟨b, o, none⟩ = some (.int .i64 9)) (h : w.cell? ⟨b, o + 6, none⟩ = some (.slice (some ⟨kb, ko, none⟩) n c)) (hn : 0 < n) (hk : w.cell? ⟨kb, ko, none⟩ = some (.int .i64 k)) (h16 : k ≠ 16) : Calls Try.prog 75 #[pv ⟨b, o, none⟩] w fun e w' => e = .returned (.tuple #[.slice none 0 0, .bool false]) ∧ w' = w := by
  have hu := union_no h hn hk h16
  clear h hk
  go_enter Try.func75, Try.ntmps75
  go_wp2_with (go_at_call 71; refine hu.mono ?_; rintro e x1 ⟨rfl, hx⟩; obtain rfl := hx.symm; clear hx hu)
  exact bodyPost_ret (results_two rfl rfl rfl) rfl ⟨rfl, rfl⟩
set_option maxRecDepth 100000 in
set_option maxHeartbeats 4000000 in
theorem cb_9_any {w : World} {b o kb ko n c : Nat} (h0 : w.cell? ⟨b, o, none⟩ = some (.int .i64 9)) (h : w.cell? ⟨b, o + 6, none⟩ = some (.slice (some ⟨kb, ko, none⟩) n c)) (hn : 0 < n) (hk : w.cell? ⟨kb, ko, none⟩ = some (.int .i64 16)) (hN : w.cell? ⟨kb, ko + 2, none⟩ = some (.int .i64 1)) : Calls Try.prog 75 #[pv ⟨b, o, none⟩] w fun e w' => e = .returned (.tuple #[.slice none 0 0, .bool true]) ∧ w' = w := by
  have hu := union_yes h hn hk
  clear h hk
  go_enter Try.func75, Try.ntmps75
  go_wp2_with (go_at_call 71; refine hu.mono ?_; rintro e x1 ⟨rfl, hx⟩; obtain rfl := hx.symm; clear hx hu)
  exact bodyPost_ret (results_two rfl rfl rfl) rfl ⟨rfl, rfl⟩
set_option maxRecDepth 100000 in
set_option maxHeartbeats 4000000 in
theorem cb_9_yes {w : World} {b o kb ko n c b2 o2 n2 c2 : Nat} {N : Int} {a : Option Addr} (h0 : w.cell? ⟨b, o, none⟩ = some (.int .i64 9)) (h : w.cell? ⟨b, o + 6, none⟩ = some (.slice (some ⟨kb, ko, none⟩) n c)) (hn : 0 < n) (hk : w.cell? ⟨kb, ko, none⟩ = some (.int .i64 16)) (hN : w.cell? ⟨kb, ko + 2, none⟩ = some (.int .i64 N)) (h1 : N ≠ 1) (h2 : w.cell? ⟨kb, ko + 6, none⟩ = some (.slice a n2 c2)) (ha : 0 < n2 → a = some ⟨b2, o2, none⟩) (hn2 : n2 ≤ 1000000) : Calls Try.prog 75 #[pv ⟨b, o, none⟩] w (CbQ w (kidA b2 o2 n2)) := by
  have hu := union_yes h hn hk
  have hc := kids_any h2 ha hn2
  have z1 := int_bne h1
  clear h hk h2 ha
  go_enter Try.func75, Try.ntmps75
  go_wp2_with (first | (go_at_call 71; refine hu.mono ?_; rintro e x1 ⟨rfl, hx⟩; obtain rfl := hx.symm; clear hx hu) | (go_at_call 57; refine hc.mono ?_; intro e x1 hq; obtain ⟨a1, c1, rfl, ho⟩ := hq.ex; have HB : Hid (Below w.heap.size w x1) := hq.bl; have HO : Hid (x1.ownsRow w.heap.size 67 1 (.slice a1 (kidA b2 o2 n2).length c1) (kidA b2 o2 n2).length ((kidA b2 o2 n2).map pv)) := ho; clear hq ho hc))
  exact bodyPost_ret (results_two rfl rfl rfl) rfl ⟨⟨_, _, rfl, HO.out⟩, HB.out⟩
end Go.Proofs.Ytifcikhgbafegaa
