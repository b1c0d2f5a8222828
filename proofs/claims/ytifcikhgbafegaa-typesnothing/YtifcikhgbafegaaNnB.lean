/-
  types.World without declared types: orNone, find and under, walked.
-/
import Derived.Test.YtifcikhgbafegaaMka
import Derived.Test.YtifcikhgbafegaaNnU
import Derived.Maps.OwnSet
import Derived.Test.YtifcikhgbafegaaNnA
namespace Go.Proofs.Ytifcikhgbafegaa
open Go.RowKit
attribute [local go_sem ↓] Go.wp_at_zero Go.wp_at_succ
/-- a World that has no table -/
abbrev Wn (w : World) (V : Nat) : Prop := w.heap[V]? = some (.cells #[.map none] 101 (0, 0))
set_option maxRecDepth 100000 in
set_option maxHeartbeats 2000000 in
theorem ornone_any (w : World) : Calls Try.prog 66 #[.pointer none] w fun e w' => e = .returned (.pointer (some ⟨w.heap.size, 0, none⟩)) ∧ w' = w.alloc (.cells #[.map none] 101) := by
  go_enter Try.func66, Try.ntmps66
  go_wp2_with fail
  go_ret
  exact ⟨rfl, rfl⟩
theorem results_ct {P : Program} {f : Func} {tmps : Array Value} {W : World} {a t b : Nat} {ad : Addr} {v u : Value} (hf : f.results = #[.cell a t, .tmp b]) (ha : tmps.getD a undef = .pointer (some ad)) (hb : tmps.getD b undef = u) (hl : (loadVar t ad).run P W = .ok v W) : (results f tmps).run P W = .ok (.tuple #[v, u]) W := by
  unfold results
  rw [hf]
  have ha2 : tmps[a]?.getD undef = .pointer (some ad) := by rw [← ha]; simp
  have hb2 : tmps[b]?.getD undef = u := by rw [← hb]; simp
  simp [ha2, hb2, asAddr, hl]
set_option maxRecDepth 100000 in
theorem resN {w : World} {g : Nat} {a b c d x y z p q : Value} (hg : w.heap[g]? = some (.cells #[a, b, c, d, x, y, z, p, q] 48 (0, 0))) : (loadVar 48 ⟨g, 0, none⟩).run Try.prog w = .ok (.agg #[a, b, c, d, x, y, z, p, q]) w :=
  run_loadVar_row w g _ _ _ _ _ hg Try.underlying48 rfl rfl
theorem look_none (s : ByteArray) (w : World) : (Instr.lookup 99 (.map none) (.string s) true).run Try.prog w = .ok (.tuple #[.agg #[.string ⟨#[]⟩, .int .i64 0, .string ⟨#[]⟩, .int .i64 0, .bool false, .slice none 0 0, .slice none 0 0, .slice none 0 0, .slice none 0 0], .bool false]) w := by
  have hz : (zeroValue 48).run Try.prog w = .ok (.agg #[.string ⟨#[]⟩, .int .i64 0, .string ⟨#[]⟩, .int .i64 0, .bool false, .slice none 0 0, .slice none 0 0, .slice none 0 0, .slice none 0 0]) w := by kernel_rfl
  have hc : (Instr.checkKey true 10000 9 (.string s)).run Try.prog w = .ok () w := by kernel_rfl
  have hf : (Instr.findKey 9 (.string s) []).run Try.prog w = .ok none w := by kernel_rfl
  simp [Instr.lookup, hc, hf, run_underlying Try.underlying99, hz, Result.andThen]
attribute [local go_sem ↓] look_none
set_option maxRecDepth 100000 in
set_option maxHeartbeats 2000000 in
theorem find_none (s : ByteArray) (w : World) : Calls Try.prog 67 #[.map none, .string s] w fun e w' => e = .returned (.tuple #[.agg #[.string ⟨#[]⟩, .int .i64 0, .string ⟨#[]⟩, .int .i64 0, .bool false, .slice none 0 0, .slice none 0 0, .slice none 0 0, .slice none 0 0], .bool false]) ∧ Below w.heap.size w w' := by
  have hn : ((w.alloc (.cells #[.string ⟨#[]⟩, .int .i64 0, .string ⟨#[]⟩, .int .i64 0, .bool false, .slice none 0 0, .slice none 0 0, .slice none 0 0, .slice none 0 0] 48)).alloc (.cells #[.string ⟨#[]⟩, .int .i64 0, .string ⟨#[]⟩, .int .i64 0, .bool false, .slice none 0 0, .slice none 0 0, .slice none 0 0, .slice none 0 0] 48)).heap[w.heap.size]? = some (.cells #[.string ⟨#[]⟩, .int .i64 0, .string ⟨#[]⟩, .int .i64 0, .bool false, .slice none 0 0, .slice none 0 0, .slice none 0 0, .slice none 0 0] 48 (0, 0)) := blk_kept (below_alloc _ _) (heap_new w _)
  go_enter Try.func67, Try.ntmps67
  go_wp2_with fail
  refine bodyPost_ret (v := .tuple #[.agg #[.string ⟨#[]⟩, .int .i64 0, .string ⟨#[]⟩, .int .i64 0, .bool false, .slice none 0 0, .slice none 0 0, .slice none 0 0, .slice none 0 0], .bool false]) (results_ct rfl rfl rfl (resN hn)) rfl ?_
  exact ⟨rfl, bthen (below_alloc _ _) (below_alloc _ _)⟩
end Go.Proofs.Ytifcikhgbafegaa
/-
  The set that Comparable keeps, while it is empty.
-/
namespace Go.Proofs.Ytifcikhgbafegaa
open Go.RowKit
theorem look_met {w : World} {M : Nat} (h : w.heap[M]? = some (.map #[] 0)) (s : ByteArray) : (Instr.lookup 112 (.map (some M)) (.string s) true).run Try.prog w = .ok (.tuple #[.agg #[], .bool false]) w := by
  have hz : (zeroValue 114).run Try.prog w = .ok (.agg #[]) w := by kernel_rfl
  have hg : (getObj M).run Try.prog w = .ok (.map #[] 0) w := by simp [getObj, Sem.run, h]
  have hc : (Instr.checkKey true 10000 9 (.string s)).run Try.prog w = .ok () w := by kernel_rfl
  have hf : (Instr.findKey 9 (.string s) []).run Try.prog w = .ok none w := by kernel_rfl
  simp [Instr.lookup, hc, hf, run_underlying Try.underlying112, hz, hg, Result.andThen]
theorem put_met {w : World} {M : Nat} (h : w.heap[M]? = some (.map #[] 0)) (s : ByteArray) : ∃ w', (Instr.mapUpdate 112 (.map (some M)) (.string s) (.agg #[])).run Try.prog w = .ok () w' ∧ Kx (· = M) w w' := by
  have hg : (getObj M).run Try.prog w = .ok (.map #[] 0) w := by simp [getObj, Sem.run, h]
  have hc : (Instr.checkKey false 10000 9 (.string s)).run Try.prog w = .ok () w := by kernel_rfl
  have hf : (Instr.findKey 9 (.string s) []).run Try.prog w = .ok none w := by kernel_rfl
  have hs : ∀ o, (setObj M o).run Try.prog w = .ok () { w with heap := w.heap.setIfInBounds M o } := fun o => by simp [setObj, Sem.run, h]
  refine ⟨{ w with heap := w.heap.setIfInBounds M (.map #[⟨.string s, .agg #[], 0⟩] 1) }, ?_, rfl, rfl, rfl, by simp, fun b o hb hx => ?_⟩
  rotate_left
  · show (w.heap.setIfInBounds M _)[b]? = _
    rw [Array.getElem?_setIfInBounds_ne (fun e => hx e.symm)]
    exact hb
  simp [Instr.mapUpdate, hc, hf, run_underlying Try.underlying112, hg, hs, Result.andThen]
end Go.Proofs.Ytifcikhgbafegaa
