/-
  slices.Clone, walked at each type of elements.
-/
import Derived.Test.YtcmnhkopmkaiaaaWka
namespace Go.Proofs.Ytcmnhkopmkaiaaa
open Go.RowKit
attribute [local go_sem ↓] Go.wp_at_zero Go.wp_at_succ
/-- a slice of n things whose cells are these -/
inductive Src (W : World) : Value → Nat → List Value → Prop
  | nil (c : Nat) : Src W (.slice none 0 c) 0 []
  | non (a : Addr) (c : Nat) : Src W (.slice (some a) 0 c) 0 []
  | row (b o n c : Nat) (l : List Value) (h : ∀ j u, l[j]? = some u → W.cell? ⟨b, o + j, none⟩ = some u) : Src W (.slice (some ⟨b, o, none⟩) n c) n l
theorem own_ge {g n c : Nat} : ∀ k, (Value.slice (some ⟨g, 0, none⟩) n c).ownBlock = some k → g ≤ k := fun k e => by
  have e' : g = k := by simpa [Value.ownBlock] using e
  omega
/-- what Clone answers: the same in new memory -/
structure ClQ (w : World) (T : TypeId) (size n : Nat) (l : List Value) (e : Ending) (w' : World) : Prop where
  ex : ∃ v, e = .returned v ∧ w'.ownsRow w.heap.size T size v n l
  bl : Below w.heap.size w w'
theorem ClQ.slice {w w' : World} {T : TypeId} {size n : Nat} {l : List Value} {e : Ending} (h : ClQ w T size n l e w') : ∃ a c, e = .returned (.slice a n c) ∧ w'.ownsRow w.heap.size T size (.slice a n c) n l := by
  obtain ⟨v, rfl, ho⟩ := h.ex
  rcases ho.2 with ⟨rfl, h0⟩ | ⟨g, cap, cur, rfl, _⟩
  · subst h0; exact ⟨_, _, rfl, ho⟩
  · exact ⟨_, _, rfl, ho⟩
theorem infoS : (Try.prog.info? 9).map (fun i => (i.zero, i.size, i.bytes)) = some (some (.string ⟨#[]⟩), 1, 16) := by kernel_rfl
theorem infoS_ex : ∃ i, Try.prog.info? 9 = some i ∧ i.zero = some (.string ⟨#[]⟩) ∧ i.size = 1 ∧ i.bytes = 16 := by
  obtain ⟨i0, hi, h1, h2, h3⟩ := info_parts infoS
  exact ⟨i0, hi, h1, h2, h3⟩
set_option maxRecDepth 100000 in
set_option maxHeartbeats 1000000 in
theorem cloneS {w : World} {v : Value} {n : Nat} {l : List Value} (h : Src w v n l) (hl : l.length = n * 1) (h1 : ∀ u ∈ l, u.oneCell' = true) (hn : n * 16 ≤ 140737488355328) : Calls Try.prog 33 #[v] w (ClQ w 9 1 n l) := by
  obtain ⟨i0, hi, hz0, hz1, hz2⟩ := infoS_ex
  have q22 : ∀ (w : World) (a : Option Addr) (n c n' c' : Nat), (binOp .eql 22 (.slice a n c) (.slice none n' c')).run Try.prog w = .ok (.bool a.isNone) w := fun w a n c n' c' => Go.Lib.run_eql_slice_nil w _ _ a n c n' c' Try.underlying22
  cases h with
  | nil c =>
    go_enter Try.func33, Try.ntmps33
    go_wp2_with fail
    go_ret
    exact ⟨⟨_, rfl, World.ownsRow_nil _ _ _ _⟩, Below.refl _ _⟩
  | non a c =>
    have hr : (w.alloc (.cells #[] 9)).ownsRow w.heap.size 9 1 (.slice (some ⟨w.heap.size, 0, none⟩) 0 0) 0 [] := World.ownsRow_made w #[] 0 (Nat.le_refl _) (by simp [maxLen]) (by simp)
    go_enter Try.func33, Try.ntmps33
    go_wp2_with (at_builtin; refine wpList_append_own _ rfl _ _ 22 rfl w.heap.size 9 i0 (.string ⟨#[]⟩) 1 16 Try.underlying22 hi hz0 hz1 hz2 rfl (by decide) _ _ _ rfl hr a 0 c [] rfl rfl (by simp) (by simp) (by simp [maxLen]) (by simp) (by simp) ?_; intro v' w1 hown' hgrow _)
    go_ret
    exact ⟨⟨_, rfl, by simpa using hown'⟩, ((Below.refl _ w).alloc (Nat.le_refl _) _).grown hgrow (by simp) own_ge⟩
  | row b o n c l hc =>
    have hr : (w.alloc (.cells #[] 9)).ownsRow w.heap.size 9 1 (.slice (some ⟨w.heap.size, 0, none⟩) 0 0) 0 [] := World.ownsRow_made w #[] 0 (Nat.le_refl _) (by simp [maxLen]) (by simp)
    have hc2 : ∀ j u, l[j]? = some u → (w.alloc (.cells #[] 9)).cell? ((⟨b, o, none⟩ : Addr).add j) = some u := fun j u hj => by
      rw [Addr.add_lit]; exact kept_cell (below_alloc w _) (hc j u hj)
    go_enter Try.func33, Try.ntmps33
    go_wp2_with (at_builtin; refine wpList_append_own _ rfl _ _ 22 rfl w.heap.size 9 i0 (.string ⟨#[]⟩) 1 16 Try.underlying22 hi hz0 hz1 hz2 rfl (by decide) _ _ _ rfl hr ⟨b, o, none⟩ n c l rfl hl hc2 h1 (by simp [maxLen]; omega) (by omega) (by simp) ?_; intro v' w1 hown' hgrow _)
    go_ret
    exact ⟨⟨_, rfl, by simpa using hown'⟩, ((Below.refl _ w).alloc (Nat.le_refl _) _).grown hgrow (by simp) own_ge⟩
theorem infoB : (Try.prog.info? 4).map (fun i => (i.zero, i.size, i.bytes)) = some (some (.bool false), 1, 1) := by kernel_rfl
theorem infoB_ex : ∃ i, Try.prog.info? 4 = some i ∧ i.zero = some (.bool false) ∧ i.size = 1 ∧ i.bytes = 1 := by
  obtain ⟨i0, hi, h1, h2, h3⟩ := info_parts infoB
  exact ⟨i0, hi, h1, h2, h3⟩
set_option maxRecDepth 100000 in
set_option maxHeartbeats 1000000 in
theorem cloneB {w : World} {v : Value} {n : Nat} {l : List Value} (h : Src w v n l) (hl : l.length = n * 1) (h1 : ∀ u ∈ l, u.oneCell' = true) (hn : n * 1 ≤ 140737488355328) : Calls Try.prog 34 #[v] w (ClQ w 4 1 n l) := by
  obtain ⟨i0, hi, hz0, hz1, hz2⟩ := infoB_ex
  have q22 : ∀ (w : World) (a : Option Addr) (n c n' c' : Nat), (binOp .eql 23 (.slice a n c) (.slice none n' c')).run Try.prog w = .ok (.bool a.isNone) w := fun w a n c n' c' => Go.Lib.run_eql_slice_nil w _ _ a n c n' c' Try.underlying23
  cases h with
  | nil c =>
    go_enter Try.func34, Try.ntmps34
    go_wp2_with fail
    go_ret
    exact ⟨⟨_, rfl, World.ownsRow_nil _ _ _ _⟩, Below.refl _ _⟩
  | non a c =>
    have hr : (w.alloc (.cells #[] 4)).ownsRow w.heap.size 4 1 (.slice (some ⟨w.heap.size, 0, none⟩) 0 0) 0 [] := World.ownsRow_made w #[] 0 (Nat.le_refl _) (by simp [maxLen]) (by simp)
    go_enter Try.func34, Try.ntmps34
    go_wp2_with (at_builtin; refine wpList_append_own _ rfl _ _ 23 rfl w.heap.size 4 i0 (.bool false) 1 1 Try.underlying23 hi hz0 hz1 hz2 rfl (by decide) _ _ _ rfl hr a 0 c [] rfl rfl (by simp) (by simp) (by simp [maxLen]) (by simp) (by simp) ?_; intro v' w1 hown' hgrow _)
    go_ret
    exact ⟨⟨_, rfl, by simpa using hown'⟩, ((Below.refl _ w).alloc (Nat.le_refl _) _).grown hgrow (by simp) own_ge⟩
  | row b o n c l hc =>
    have hr : (w.alloc (.cells #[] 4)).ownsRow w.heap.size 4 1 (.slice (some ⟨w.heap.size, 0, none⟩) 0 0) 0 [] := World.ownsRow_made w #[] 0 (Nat.le_refl _) (by simp [maxLen]) (by simp)
    have hc2 : ∀ j u, l[j]? = some u → (w.alloc (.cells #[] 4)).cell? ((⟨b, o, none⟩ : Addr).add j) = some u := fun j u hj => by
      rw [Addr.add_lit]; exact kept_cell (below_alloc w _) (hc j u hj)
    go_enter Try.func34, Try.ntmps34
    go_wp2_with (at_builtin; refine wpList_append_own _ rfl _ _ 23 rfl w.heap.size 4 i0 (.bool false) 1 1 Try.underlying23 hi hz0 hz1 hz2 rfl (by decide) _ _ _ rfl hr ⟨b, o, none⟩ n c l rfl hl hc2 h1 (by simp [maxLen]; omega) (by omega) (by simp) ?_; intro v' w1 hown' hgrow _)
    go_ret
    exact ⟨⟨_, rfl, by simpa using hown'⟩, ((Below.refl _ w).alloc (Nat.le_refl _) _).grown hgrow (by simp) own_ge⟩
theorem infoT : (Try.prog.info? 26).map (fun i => (i.zero, i.size, i.bytes)) = some (some (.agg #[.int .i64 0, .string ⟨#[]⟩, .int .i64 0, .bool false, .slice none 0 0, .slice none 0 0, .slice none 0 0]), 7, 112) := by kernel_rfl
theorem infoT_ex : ∃ i, Try.prog.info? 26 = some i ∧ i.zero = some (.agg #[.int .i64 0, .string ⟨#[]⟩, .int .i64 0, .bool false, .slice none 0 0, .slice none 0 0, .slice none 0 0]) ∧ i.size = 7 ∧ i.bytes = 112 := by
  obtain ⟨i0, hi, h1, h2, h3⟩ := info_parts infoT
  exact ⟨i0, hi, h1, h2, h3⟩
set_option maxRecDepth 100000 in
set_option maxHeartbeats 1000000 in
theorem cloneT {w : World} {v : Value} {n : Nat} {l : List Value} (h : Src w v n l) (hl : l.length = n * 7) (h1 : ∀ u ∈ l, u.oneCell' = true) (hn : n * 112 ≤ 140737488355328) : Calls Try.prog 35 #[v] w (ClQ w 26 7 n l) := by
  obtain ⟨i0, hi, hz0, hz1, hz2⟩ := infoT_ex
  have q22 : ∀ (w : World) (a : Option Addr) (n c n' c' : Nat), (binOp .eql 24 (.slice a n c) (.slice none n' c')).run Try.prog w = .ok (.bool a.isNone) w := fun w a n c n' c' => Go.Lib.run_eql_slice_nil w _ _ a n c n' c' Try.underlying24
  cases h with
  | nil c =>
    go_enter Try.func35, Try.ntmps35
    go_wp2_with fail
    go_ret
    exact ⟨⟨_, rfl, World.ownsRow_nil _ _ _ _⟩, Below.refl _ _⟩
  | non a c =>
    have hr : (w.alloc (.cells #[] 26)).ownsRow w.heap.size 26 7 (.slice (some ⟨w.heap.size, 0, none⟩) 0 0) 0 [] := World.ownsRow_made w #[] 0 (Nat.le_refl _) (by simp [maxLen]) (by simp)
    go_enter Try.func35, Try.ntmps35
    go_wp2_with (at_builtin; refine wpList_append_own _ rfl _ _ 24 rfl w.heap.size 26 i0 (.agg #[.int .i64 0, .string ⟨#[]⟩, .int .i64 0, .bool false, .slice none 0 0, .slice none 0 0, .slice none 0 0]) 7 112 Try.underlying24 hi hz0 hz1 hz2 rfl (by decide) _ _ _ rfl hr a 0 c [] rfl rfl (by simp) (by simp) (by simp [maxLen]) (by simp) (by simp) ?_; intro v' w1 hown' hgrow _)
    go_ret
    exact ⟨⟨_, rfl, by simpa using hown'⟩, ((Below.refl _ w).alloc (Nat.le_refl _) _).grown hgrow (by simp) own_ge⟩
  | row b o n c l hc =>
    have hr : (w.alloc (.cells #[] 26)).ownsRow w.heap.size 26 7 (.slice (some ⟨w.heap.size, 0, none⟩) 0 0) 0 [] := World.ownsRow_made w #[] 0 (Nat.le_refl _) (by simp [maxLen]) (by simp)
    have hc2 : ∀ j u, l[j]? = some u → (w.alloc (.cells #[] 26)).cell? ((⟨b, o, none⟩ : Addr).add j) = some u := fun j u hj => by
      rw [Addr.add_lit]; exact kept_cell (below_alloc w _) (hc j u hj)
    go_enter Try.func35, Try.ntmps35
    go_wp2_with (at_builtin; refine wpList_append_own _ rfl _ _ 24 rfl w.heap.size 26 i0 (.agg #[.int .i64 0, .string ⟨#[]⟩, .int .i64 0, .bool false, .slice none 0 0, .slice none 0 0, .slice none 0 0]) 7 112 Try.underlying24 hi hz0 hz1 hz2 rfl (by decide) _ _ _ rfl hr ⟨b, o, none⟩ n c l rfl hl hc2 h1 (by simp [maxLen]; omega) (by omega) (by simp) ?_; intro v' w1 hown' hgrow _)
    go_ret
    exact ⟨⟨_, rfl, by simpa using hown'⟩, ((Below.refl _ w).alloc (Nat.le_refl _) _).grown hgrow (by simp) own_ge⟩
theorem infoP : (Try.prog.info? 40).map (fun i => (i.zero, i.size, i.bytes)) = some (some (.pointer none), 1, 8) := by kernel_rfl
theorem infoP_ex : ∃ i, Try.prog.info? 40 = some i ∧ i.zero = some (.pointer none) ∧ i.size = 1 ∧ i.bytes = 8 := by
  obtain ⟨i0, hi, h1, h2, h3⟩ := info_parts infoP
  exact ⟨i0, hi, h1, h2, h3⟩
set_option maxRecDepth 100000 in
set_option maxHeartbeats 1000000 in
theorem cloneP {w : World} {v : Value} {n : Nat} {l : List Value} (h : Src w v n l) (hl : l.length = n * 1) (h1 : ∀ u ∈ l, u.oneCell' = true) (hn : n * 8 ≤ 140737488355328) : Calls Try.prog 41 #[v] w (ClQ w 40 1 n l) := by
  obtain ⟨i0, hi, hz0, hz1, hz2⟩ := infoP_ex
  have q22 : ∀ (w : World) (a : Option Addr) (n c n' c' : Nat), (binOp .eql 49 (.slice a n c) (.slice none n' c')).run Try.prog w = .ok (.bool a.isNone) w := fun w a n c n' c' => Go.Lib.run_eql_slice_nil w _ _ a n c n' c' Try.underlying49
  cases h with
  | nil c =>
    go_enter Try.func41, Try.ntmps41
    go_wp2_with fail
    go_ret
    exact ⟨⟨_, rfl, World.ownsRow_nil _ _ _ _⟩, Below.refl _ _⟩
  | non a c =>
    have hr : (w.alloc (.cells #[] 40)).ownsRow w.heap.size 40 1 (.slice (some ⟨w.heap.size, 0, none⟩) 0 0) 0 [] := World.ownsRow_made w #[] 0 (Nat.le_refl _) (by simp [maxLen]) (by simp)
    go_enter Try.func41, Try.ntmps41
    go_wp2_with (at_builtin; refine wpList_append_own _ rfl _ _ 49 rfl w.heap.size 40 i0 (.pointer none) 1 8 Try.underlying49 hi hz0 hz1 hz2 rfl (by decide) _ _ _ rfl hr a 0 c [] rfl rfl (by simp) (by simp) (by simp [maxLen]) (by simp) (by simp) ?_; intro v' w1 hown' hgrow _)
    go_ret
    exact ⟨⟨_, rfl, by simpa using hown'⟩, ((Below.refl _ w).alloc (Nat.le_refl _) _).grown hgrow (by simp) own_ge⟩
  | row b o n c l hc =>
    have hr : (w.alloc (.cells #[] 40)).ownsRow w.heap.size 40 1 (.slice (some ⟨w.heap.size, 0, none⟩) 0 0) 0 [] := World.ownsRow_made w #[] 0 (Nat.le_refl _) (by simp [maxLen]) (by simp)
    have hc2 : ∀ j u, l[j]? = some u → (w.alloc (.cells #[] 40)).cell? ((⟨b, o, none⟩ : Addr).add j) = some u := fun j u hj => by
      rw [Addr.add_lit]; exact kept_cell (below_alloc w _) (hc j u hj)
    go_enter Try.func41, Try.ntmps41
    go_wp2_with (at_builtin; refine wpList_append_own _ rfl _ _ 49 rfl w.heap.size 40 i0 (.pointer none) 1 8 Try.underlying49 hi hz0 hz1 hz2 rfl (by decide) _ _ _ rfl hr ⟨b, o, none⟩ n c l rfl hl hc2 h1 (by simp [maxLen]; omega) (by omega) (by simp) ?_; intro v' w1 hown' hgrow _)
    go_ret
    exact ⟨⟨_, rfl, by simpa using hown'⟩, ((Below.refl _ w).alloc (Nat.le_refl _) _).grown hgrow (by simp) own_ge⟩
theorem infoR : (Try.prog.info? 44).map (fun i => (i.zero, i.size, i.bytes)) = some (some (.agg #[.pointer none, .pointer none]), 2, 16) := by kernel_rfl
theorem infoR_ex : ∃ i, Try.prog.info? 44 = some i ∧ i.zero = some (.agg #[.pointer none, .pointer none]) ∧ i.size = 2 ∧ i.bytes = 16 := by
  obtain ⟨i0, hi, h1, h2, h3⟩ := info_parts infoR
  exact ⟨i0, hi, h1, h2, h3⟩
set_option maxRecDepth 100000 in
set_option maxHeartbeats 1000000 in
theorem cloneR {w : World} {v : Value} {n : Nat} {l : List Value} (h : Src w v n l) (hl : l.length = n * 2) (h1 : ∀ u ∈ l, u.oneCell' = true) (hn : n * 16 ≤ 140737488355328) : Calls Try.prog 36 #[v] w (ClQ w 44 2 n l) := by
  obtain ⟨i0, hi, hz0, hz1, hz2⟩ := infoR_ex
  have q22 : ∀ (w : World) (a : Option Addr) (n c n' c' : Nat), (binOp .eql 45 (.slice a n c) (.slice none n' c')).run Try.prog w = .ok (.bool a.isNone) w := fun w a n c n' c' => Go.Lib.run_eql_slice_nil w _ _ a n c n' c' Try.underlying45
  cases h with
  | nil c =>
    go_enter Try.func36, Try.ntmps36
    go_wp2_with fail
    go_ret
    exact ⟨⟨_, rfl, World.ownsRow_nil _ _ _ _⟩, Below.refl _ _⟩
  | non a c =>
    have hr : (w.alloc (.cells #[] 44)).ownsRow w.heap.size 44 2 (.slice (some ⟨w.heap.size, 0, none⟩) 0 0) 0 [] := World.ownsRow_made w #[] 0 (Nat.le_refl _) (by simp [maxLen]) (by simp)
    go_enter Try.func36, Try.ntmps36
    go_wp2_with (at_builtin; refine wpList_append_own _ rfl _ _ 45 rfl w.heap.size 44 i0 (.agg #[.pointer none, .pointer none]) 2 16 Try.underlying45 hi hz0 hz1 hz2 rfl (by decide) _ _ _ rfl hr a 0 c [] rfl rfl (by simp) (by simp) (by simp [maxLen]) (by simp) (by simp) ?_; intro v' w1 hown' hgrow _)
    go_ret
    exact ⟨⟨_, rfl, by simpa using hown'⟩, ((Below.refl _ w).alloc (Nat.le_refl _) _).grown hgrow (by simp) own_ge⟩
  | row b o n c l hc =>
    have hr : (w.alloc (.cells #[] 44)).ownsRow w.heap.size 44 2 (.slice (some ⟨w.heap.size, 0, none⟩) 0 0) 0 [] := World.ownsRow_made w #[] 0 (Nat.le_refl _) (by simp [maxLen]) (by simp)
    have hc2 : ∀ j u, l[j]? = some u → (w.alloc (.cells #[] 44)).cell? ((⟨b, o, none⟩ : Addr).add j) = some u := fun j u hj => by
      rw [Addr.add_lit]; exact kept_cell (below_alloc w _) (hc j u hj)
    go_enter Try.func36, Try.ntmps36
    go_wp2_with (at_builtin; refine wpList_append_own _ rfl _ _ 45 rfl w.heap.size 44 i0 (.agg #[.pointer none, .pointer none]) 2 16 Try.underlying45 hi hz0 hz1 hz2 rfl (by decide) _ _ _ rfl hr ⟨b, o, none⟩ n c l rfl hl hc2 h1 (by simp [maxLen]; omega) (by omega) (by simp) ?_; intro v' w1 hown' hgrow _)
    go_ret
    exact ⟨⟨_, rfl, by simpa using hown'⟩, ((Below.refl _ w).alloc (Nat.le_refl _) _).grown hgrow (by simp) own_ge⟩
end Go.Proofs.Ytcmnhkopmkaiaaa

