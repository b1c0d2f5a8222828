/-
  Laws for a walk over a list of what is still to come: a loop with a number that is not told, deferred marks at a return, an append whose block is told.
-/
import Derived.Test.YtfkkhabpnnealaaGreatDoorTyb
import Derived.RangeFuncNested
import Derived.RangeFuncBound
import Derived.RangeFuncCalls
import Derived.RangeFuncLeaves
import Derived.RangeFuncBox
import Derived.Shelf.Abstract
import Derived.Shelf.RegionOpen
import Derived.OwnWalkIn
import Derived.TacticsInMore
import Derived.LoopNIn
import Derived.LoopIn
import Derived.WalkMore
import Derived.WalkSmall
import Derived.Laws.EntriesVeiled
import Derived.Maps.AppendAt
namespace Go.Proofs.YtfkkhabpnnealaaGreatDoor.T8
open Go.RowKit
/-- a loop whose rounds are counted by a number that the code does not hold -/
theorem loopG {F : Fence} {n : Nat} {P : Program} {Q : Exit → Act → World → Prop} {a : Act} {w : World} {c : Code} (I : Nat → Act → World → Prop) (g : Nat) (h0 : I g a w)
    (round : ∀ g a w, I g a w → c.wpIn F n P (Exit.then (fun a' w' => ∃ g', g' < g ∧ I g' a' w') Q) a w) : (Code.loop c).wpIn F n P Q a w := by
  have key : ∀ g, ∀ g', g' ≤ g → ∀ a w, I g' a w → Code.roundsIn F n P c Q (g + 1) a w := by
    intro g
    induction g with
    | zero =>
      intro g' hg a w h
      refine wpIn_mono (round g' a w h) ?_
      rintro e a' w' hq
      cases e with
      | normal => obtain ⟨g'', h1, _⟩ := hq; omega
      | _ => exact hq
    | succ g ih =>
      intro g' hg a w h
      refine wpIn_mono (round g' a w h) ?_
      rintro e a' w' hq
      cases e with
      | normal => obtain ⟨g'', h1, h2⟩ := hq; exact ih g'' (by omega) a' w' h2
      | _ => exact hq
  exact wpIn_loop_rounds (g + 1) (key g g (Nat.le_refl _) a w h0)
theorem kx_putObj (W : World) (l : Nat) (o' : Obj) : Kx (fun b => b = l) W (W.putObj l o') :=
  ⟨rfl, rfl, rfl, by simp [World.putObj], fun b _ hb hne => (World.putObj_heap_other hne).trans hb⟩
/-- a frame's marks -/
def marks (Ds : List Nat) : List Deferred := Ds.map fun D => { target := .collected D, args := #[] }
theorem leaves_marks {F : Fence} {n : Nat} {P : Program} {fn : Func} {tmps : Array Value} {R : Ending → World → Prop} {v : Value} (hv : ∀ w, (results fn tmps).run P w = .ok v w) :
    ∀ (Ds : List Nat) (w : World), Ds.Nodup → (∀ D, D ∈ Ds → w.heap[D]? = some (.deferred (some []))) → (∀ w', Kx (fun b => b ∈ Ds) w w' → R (.returned v) w') → LeavesInM F n P fn tmps R (marks Ds) .returning w := by
  intro Ds
  induction Ds with
  | nil => intro w _ _ h; exact ⟨v, hv w, h w (Kx.refl _ _)⟩
  | cons D Ds ih =>
    intro w hn hD h
    obtain ⟨hn1, hn2⟩ := List.nodup_cons.1 hn
    refine ⟨by simp, .inl ⟨D, _, rfl, run_takeDeferred (hD D (by simp)), ?_⟩⟩
    refine ih _ hn2 (fun D' hD' => (World.putObj_heap_other (fun e => by cases e; exact hn1 hD')).trans (hD D' (by simp [hD']))) (fun w' hk => h w' ?_)
    exact (kx_putObj w D _).andThen hk (fun b _ e => by simp [e]) (fun b _ e => by simp [e])
/-- an append's row stays in its block, or is a new one -/
theorem append_block {P : Program} (w : World) (base : Nat) (t ty e : TypeId) (i : TypeInfo) (z : Value) (size bytes : Nat) (ht : P.underlying t = some (.slice e)) (hi : P.info? e = some i) (hz : i.zero = some z)
    (hsize : i.size = size) (hby : i.bytes = bytes) (hzs : z.cells.size = size) (hsz : 0 < size)
    (v : Value) (n : Nat) (xs : List Value) (hown : w.ownsRow base e size v n xs)
    (a : Addr) (m c : Nat) (news : List Value) (hl : news.length = m * size) (hnews : ∀ j u, news[j]? = some u → w.cell? (a.add j) = some u) (h1 : ∀ u ∈ news, u.oneCell' = true)
    (h63 : n + m ≤ maxLen) (hbytes : (n + m) * bytes ≤ 140737488355328) (v' : Value) (w' : World) (hr : (Builtin.append_ #[t, t] ty #[v, .slice (some a) m c]).run P w = .ok v' w') :
    ∀ k, v'.ownBlock = some k → v.ownBlock = some k ∨ w.heap.size ≤ k := by
  rcases hown.2 with ⟨rfl, rfl⟩ | ⟨g, cap, cur, rfl, hbg, hg, hnc, hcm, hcs, htake⟩
  · have hx : xs = [] := List.eq_nil_of_length_eq_zero (by simpa using hown.1)
    subst hx
    obtain ⟨v2, w2, hr2, ho2, -, -⟩ := run_append_own (P := P) w w.heap.size t ty e i z size bytes ht hi hz hsize hby hzs hsz _ 0 [] (World.ownsRow_nil w _ e size) a m c news hl hnews h1 h63 hbytes (Nat.le_refl _)
    rw [hr] at hr2
    obtain ⟨rfl, rfl⟩ : v' = v2 ∧ w' = w2 := by simpa using hr2
    intro k hk
    exact .inr (ho2.lt k hk).1
  · by_cases hroom : n + m ≤ cap
    · have hfit : n * i.size + news.length ≤ cur.size := by rw [hl, hcs, hsize, ← Nat.add_mul]; exact Nat.mul_le_mul_right _ hroom
      have hr2 := run_append_room (P := P) w t ty e i ht hi g n cap cur hg a m c news (by rw [hsize]; exact hl) hnews h1 hroom hfit
      rw [hr] at hr2
      obtain ⟨rfl, _⟩ : v' = _ ∧ w' = _ := by simpa using hr2
      intro k hk
      exact .inl hk
    · have holds : ∀ j u, xs[j]? = some u → w.cell? ((⟨g, 0, none⟩ : Addr).add j) = some u := hown.cells (g := g) rfl
      have hsmall : n + m ≤ 9223372036854775807 := by simp only [maxLen] at h63; omega
      have hr2 := run_append_grow (P := P) w t ty e i z ht hi hz ⟨g, 0, none⟩ n cap xs (by rw [hsize]; exact hown.1) holds a m c news (by rw [hsize]; exact hl) hnews (by omega) (by omega) (growslice_fits (by omega) (by rw [hby]; exact hbytes))
      rw [hr] at hr2
      obtain ⟨rfl, _⟩ : v' = _ ∧ w' = _ := by simpa using hr2
      intro k hk
      obtain rfl : w.heap.size = k := by simpa [Value.ownBlock] using hk
      exact .inr (Nat.le_refl _)
theorem wpListIn_append_at {F : Fence} {n : Nat} {P : Program} (w : World) {ops : Array Oper} {rest : List Oper} {o : Oper} {a : Act} {Q : Exit → Act → World → Prop}
    (hg : o.guard = none) (s x : Operand) (t : TypeId) (hop : o.op = Op.call { callee := Callee.builtin Builtin.append, args := #[s, x], argTypes := #[t, t] })
    (base : Nat) (e : TypeId) (i : TypeInfo) (z : Value) (size bytes : Nat) (h1 : P.underlying t = some (.slice e)) (h2 : P.info? e = some i) (h3 : i.zero = some z) (h4 : i.size = size) (h5 : i.bytes = bytes) (h6 : z.cells.size = size) (h7 : 0 < size)
    (v : Value) (k : Nat) (xs : List Value) (hs : a.eval s = v) (hown : w.ownsRow base e size v k xs) (ad : Addr) (m c : Nat) (news : List Value) (hx : a.eval x = .slice (some ad) m c) (hn : news.length = m * size)
    (hc : ∀ j u, news[j]? = some u → w.cell? (ad.add j) = some u) (h1c : ∀ u ∈ news, u.oneCell' = true) (b1 : k + m ≤ maxLen) (b2 : (k + m) * bytes ≤ 140737488355328) (b3 : base ≤ w.heap.size)
    (hK : ∀ v' w', w'.ownsRow base e size v' (k + m) (xs ++ news) → w.grownBy w' v.ownBlock → (∀ j, v'.ownBlock = some j → v.ownBlock = some j ∨ w.heap.size ≤ j) → wpListIn F n P ops Q rest (a.put o.dst v') w') :
    wpListIn F n P ops Q (o :: rest) a w := by
  refine wpListIn_plain hg fun K hK' => ?_
  obtain ⟨v', w', hrun, r1, r2, r3⟩ := run_append_own (P := P) w base t o.type e i z size bytes h1 h2 h3 h4 h5 h6 h7 v k xs hown ad m c news hn hc h1c b1 b2 b3
  have r4 := append_block (P := P) w base t o.type e i z size bytes h1 h2 h3 h4 h5 h6 h7 v k xs hown ad m c news hn hc h1c b1 b2 v' w' hrun
  unfold Oper.wpIn
  refine ⟨?_, ?_⟩
  · simp [Oper.about, hop, resolve, Target.leads, Sem.run_pure]
  · rw [Oper.semAt_plain F _ _ (by rw [hop]; intro c hc'; cases hc')]
    simp [execOp, hop, resolve, invoke, builtin, hs, hx, hrun, Result.andThen]
    exact hK' _ _ (hK v' w' r1 r2 r4)
end Go.Proofs.YtfkkhabpnnealaaGreatDoor.T8

/-
  slices.Clone, walked at each type of elements.
-/
namespace Go.Proofs.YtfkkhabpnnealaaGreatDoor.T8
open Go.RowKit
attribute [local go_sem ↓] Go.wp_at_zero Go.wp_at_succ
/-- a slice of n things whose cells are these -/
inductive Src (W : World) : Value → Nat → List Value → Prop
  | nil (c : Nat) : Src W (.slice none 0 c) 0 []
  | non (a : Addr) (c : Nat) : Src W (.slice (some a) 0 c) 0 []
  | row (b o n c : Nat) (l : List Value) (h : ∀ j u, l[j]? = some u → W.cell? ⟨b, o + j, none⟩ = some u) : Src W (.slice (some ⟨b, o, none⟩) n c) n l
theorem own_ge {g n c : Nat} : ∀ k, (Value.slice (some ⟨g, 0, none⟩) n c).ownBlock = some k → g ≤ k := fun k e => by
  have e' : g = k := by simpa [Value.ownBlock] using e
  omega
/-- what Clone answers: the same in new memory -/
structure ClQ (w : World) (T : TypeId) (size n : Nat) (l : List Value) (e : Ending) (w' : World) : Prop where
  ex : ∃ v, e = .returned v ∧ w'.ownsRow w.heap.size T size v n l
  bl : Below w.heap.size w w'
theorem ClQ.slice {w w' : World} {T : TypeId} {size n : Nat} {l : List Value} {e : Ending} (h : ClQ w T size n l e w') : ∃ a c, e = .returned (.slice a n c) ∧ w'.ownsRow w.heap.size T size (.slice a n c) n l := by
  obtain ⟨v, rfl, ho⟩ := h.ex
  rcases ho.2 with ⟨rfl, h0⟩ | ⟨g, cap, cur, rfl, _⟩
  · subst h0; exact ⟨_, _, rfl, ho⟩
  · exact ⟨_, _, rfl, ho⟩
theorem infoS : (Tryz.prog.info? 9).map (fun i => (i.zero, i.size, i.bytes)) = some (some (.string ⟨#[]⟩), 1, 16) := by kernel_rfl
theorem infoS_ex : ∃ i, Tryz.prog.info? 9 = some i ∧ i.zero = some (.string ⟨#[]⟩) ∧ i.size = 1 ∧ i.bytes = 16 := by
  obtain ⟨i0, hi, h1, h2, h3⟩ := info_parts infoS
  exact ⟨i0, hi, h1, h2, h3⟩
set_option maxRecDepth 100000 in
set_option maxHeartbeats 1000000 in
theorem cloneS {w : World} {v : Value} {n : Nat} {l : List Value} (h : Src w v n l) (hl : l.length = n * 1) (h1 : ∀ u ∈ l, u.oneCell' = true) (hn : n * 16 ≤ 140737488355328) : Calls Tryz.prog 79 #[v] w (ClQ w 9 1 n l) := by
  obtain ⟨i0, hi, hz0, hz1, hz2⟩ := infoS_ex
  have q22 : ∀ (w : World) (a : Option Addr) (n c n' c' : Nat), (binOp .eql 37 (.slice a n c) (.slice none n' c')).run Tryz.prog w = .ok (.bool a.isNone) w := fun w a n c n' c' => Go.Lib.run_eql_slice_nil w _ _ a n c n' c' Tryz.underlying37
  cases h with
  | nil c =>
    go_enter Tryz.func79, Tryz.ntmps79
    go_wp2_with fail
    go_ret
    exact ⟨⟨_, rfl, World.ownsRow_nil _ _ _ _⟩, Below.refl _ _⟩
  | non a c =>
    have hr : (w.alloc (.cells #[] 9)).ownsRow w.heap.size 9 1 (.slice (some ⟨w.heap.size, 0, none⟩) 0 0) 0 [] := World.ownsRow_made w #[] 0 (Nat.le_refl _) (by simp [maxLen]) (by simp)
    go_enter Tryz.func79, Tryz.ntmps79
    go_wp2_with (at_builtin; refine wpList_append_own _ rfl _ _ 37 rfl w.heap.size 9 i0 (.string ⟨#[]⟩) 1 16 Tryz.underlying37 hi hz0 hz1 hz2 rfl (by decide) _ _ _ rfl hr a 0 c [] rfl rfl (by simp) (by simp) (by simp [maxLen]) (by simp) (by simp) ?_; intro v' w1 hown' hgrow _)
    go_ret
    exact ⟨⟨_, rfl, by simpa using hown'⟩, ((Below.refl _ w).alloc (Nat.le_refl _) _).grown hgrow (by simp) own_ge⟩
  | row b o n c l hc =>
    have hr : (w.alloc (.cells #[] 9)).ownsRow w.heap.size 9 1 (.slice (some ⟨w.heap.size, 0, none⟩) 0 0) 0 [] := World.ownsRow_made w #[] 0 (Nat.le_refl _) (by simp [maxLen]) (by simp)
    have hc2 : ∀ j u, l[j]? = some u → (w.alloc (.cells #[] 9)).cell? ((⟨b, o, none⟩ : Addr).add j) = some u := fun j u hj => by
      rw [Addr.add_lit]; exact kept_cell (below_alloc w _) (hc j u hj)
    go_enter Tryz.func79, Tryz.ntmps79
    go_wp2_with (at_builtin; refine wpList_append_own _ rfl _ _ 37 rfl w.heap.size 9 i0 (.string ⟨#[]⟩) 1 16 Tryz.underlying37 hi hz0 hz1 hz2 rfl (by decide) _ _ _ rfl hr ⟨b, o, none⟩ n c l rfl hl hc2 h1 (by simp [maxLen]; omega) (by omega) (by simp) ?_; intro v' w1 hown' hgrow _)
    go_ret
    exact ⟨⟨_, rfl, by simpa using hown'⟩, ((Below.refl _ w).alloc (Nat.le_refl _) _).grown hgrow (by simp) own_ge⟩
theorem infoB : (Tryz.prog.info? 4).map (fun i => (i.zero, i.size, i.bytes)) = some (some (.bool false), 1, 1) := by kernel_rfl
theorem infoB_ex : ∃ i, Tryz.prog.info? 4 = some i ∧ i.zero = some (.bool false) ∧ i.size = 1 ∧ i.bytes = 1 := by
  obtain ⟨i0, hi, h1, h2, h3⟩ := info_parts infoB
  exact ⟨i0, hi, h1, h2, h3⟩
set_option maxRecDepth 100000 in
set_option maxHeartbeats 1000000 in
theorem cloneB {w : World} {v : Value} {n : Nat} {l : List Value} (h : Src w v n l) (hl : l.length = n * 1) (h1 : ∀ u ∈ l, u.oneCell' = true) (hn : n * 1 ≤ 140737488355328) : Calls Tryz.prog 80 #[v] w (ClQ w 4 1 n l) := by
  obtain ⟨i0, hi, hz0, hz1, hz2⟩ := infoB_ex
  have q22 : ∀ (w : World) (a : Option Addr) (n c n' c' : Nat), (binOp .eql 38 (.slice a n c) (.slice none n' c')).run Tryz.prog w = .ok (.bool a.isNone) w := fun w a n c n' c' => Go.Lib.run_eql_slice_nil w _ _ a n c n' c' Tryz.underlying38
  cases h with
  | nil c =>
    go_enter Tryz.func80, Tryz.ntmps80
    go_wp2_with fail
    go_ret
    exact ⟨⟨_, rfl, World.ownsRow_nil _ _ _ _⟩, Below.refl _ _⟩
  | non a c =>
    have hr : (w.alloc (.cells #[] 4)).ownsRow w.heap.size 4 1 (.slice (some ⟨w.heap.size, 0, none⟩) 0 0) 0 [] := World.ownsRow_made w #[] 0 (Nat.le_refl _) (by simp [maxLen]) (by simp)
    go_enter Tryz.func80, Tryz.ntmps80
    go_wp2_with (at_builtin; refine wpList_append_own _ rfl _ _ 38 rfl w.heap.size 4 i0 (.bool false) 1 1 Tryz.underlying38 hi hz0 hz1 hz2 rfl (by decide) _ _ _ rfl hr a 0 c [] rfl rfl (by simp) (by simp) (by simp [maxLen]) (by simp) (by simp) ?_; intro v' w1 hown' hgrow _)
    go_ret
    exact ⟨⟨_, rfl, by simpa using hown'⟩, ((Below.refl _ w).alloc (Nat.le_refl _) _).grown hgrow (by simp) own_ge⟩
  | row b o n c l hc =>
    have hr : (w.alloc (.cells #[] 4)).ownsRow w.heap.size 4 1 (.slice (some ⟨w.heap.size, 0, none⟩) 0 0) 0 [] := World.ownsRow_made w #[] 0 (Nat.le_refl _) (by simp [maxLen]) (by simp)
    have hc2 : ∀ j u, l[j]? = some u → (w.alloc (.cells #[] 4)).cell? ((⟨b, o, none⟩ : Addr).add j) = some u := fun j u hj => by
      rw [Addr.add_lit]; exact kept_cell (below_alloc w _) (hc j u hj)
    go_enter Tryz.func80, Tryz.ntmps80
    go_wp2_with (at_builtin; refine wpList_append_own _ rfl _ _ 38 rfl w.heap.size 4 i0 (.bool false) 1 1 Tryz.underlying38 hi hz0 hz1 hz2 rfl (by decide) _ _ _ rfl hr ⟨b, o, none⟩ n c l rfl hl hc2 h1 (by simp [maxLen]; omega) (by omega) (by simp) ?_; intro v' w1 hown' hgrow _)
    go_ret
    exact ⟨⟨_, rfl, by simpa using hown'⟩, ((Below.refl _ w).alloc (Nat.le_refl _) _).grown hgrow (by simp) own_ge⟩
theorem infoT : (Tryz.prog.info? 41).map (fun i => (i.zero, i.size, i.bytes)) = some (some (.agg #[.int .i64 0, .string ⟨#[]⟩, .int .i64 0, .bool false, .slice none 0 0, .slice none 0 0, .slice none 0 0]), 7, 112) := by kernel_rfl
theorem infoT_ex : ∃ i, Tryz.prog.info? 41 = some i ∧ i.zero = some (.agg #[.int .i64 0, .string ⟨#[]⟩, .int .i64 0, .bool false, .slice none 0 0, .slice none 0 0, .slice none 0 0]) ∧ i.size = 7 ∧ i.bytes = 112 := by
  obtain ⟨i0, hi, h1, h2, h3⟩ := info_parts infoT
  exact ⟨i0, hi, h1, h2, h3⟩
set_option maxRecDepth 100000 in
set_option maxHeartbeats 1000000 in
theorem cloneT {w : World} {v : Value} {n : Nat} {l : List Value} (h : Src w v n l) (hl : l.length = n * 7) (h1 : ∀ u ∈ l, u.oneCell' = true) (hn : n * 112 ≤ 140737488355328) : Calls Tryz.prog 81 #[v] w (ClQ w 41 7 n l) := by
  obtain ⟨i0, hi, hz0, hz1, hz2⟩ := infoT_ex
  have q22 : ∀ (w : World) (a : Option Addr) (n c n' c' : Nat), (binOp .eql 39 (.slice a n c) (.slice none n' c')).run Tryz.prog w = .ok (.bool a.isNone) w := fun w a n c n' c' => Go.Lib.run_eql_slice_nil w _ _ a n c n' c' Tryz.underlying39
  cases h with
  | nil c =>
    go_enter Tryz.func81, Tryz.ntmps81
    go_wp2_with fail
    go_ret
    exact ⟨⟨_, rfl, World.ownsRow_nil _ _ _ _⟩, Below.refl _ _⟩
  | non a c =>
    have hr : (w.alloc (.cells #[] 41)).ownsRow w.heap.size 41 7 (.slice (some ⟨w.heap.size, 0, none⟩) 0 0) 0 [] := World.ownsRow_made w #[] 0 (Nat.le_refl _) (by simp [maxLen]) (by simp)
    go_enter Tryz.func81, Tryz.ntmps81
    go_wp2_with (at_builtin; refine wpList_append_own _ rfl _ _ 39 rfl w.heap.size 41 i0 (.agg #[.int .i64 0, .string ⟨#[]⟩, .int .i64 0, .bool false, .slice none 0 0, .slice none 0 0, .slice none 0 0]) 7 112 Tryz.underlying39 hi hz0 hz1 hz2 rfl (by decide) _ _ _ rfl hr a 0 c [] rfl rfl (by simp) (by simp) (by simp [maxLen]) (by simp) (by simp) ?_; intro v' w1 hown' hgrow _)
    go_ret
    exact ⟨⟨_, rfl, by simpa using hown'⟩, ((Below.refl _ w).alloc (Nat.le_refl _) _).grown hgrow (by simp) own_ge⟩
  | row b o n c l hc =>
    have hr : (w.alloc (.cells #[] 41)).ownsRow w.heap.size 41 7 (.slice (some ⟨w.heap.size, 0, none⟩) 0 0) 0 [] := World.ownsRow_made w #[] 0 (Nat.le_refl _) (by simp [maxLen]) (by simp)
    have hc2 : ∀ j u, l[j]? = some u → (w.alloc (.cells #[] 41)).cell? ((⟨b, o, none⟩ : Addr).add j) = some u := fun j u hj => by
      rw [Addr.add_lit]; exact kept_cell (below_alloc w _) (hc j u hj)
    go_enter Tryz.func81, Tryz.ntmps81
    go_wp2_with (at_builtin; refine wpList_append_own _ rfl _ _ 39 rfl w.heap.size 41 i0 (.agg #[.int .i64 0, .string ⟨#[]⟩, .int .i64 0, .bool false, .slice none 0 0, .slice none 0 0, .slice none 0 0]) 7 112 Tryz.underlying39 hi hz0 hz1 hz2 rfl (by decide) _ _ _ rfl hr ⟨b, o, none⟩ n c l rfl hl hc2 h1 (by simp [maxLen]; omega) (by omega) (by simp) ?_; intro v' w1 hown' hgrow _)
    go_ret
    exact ⟨⟨_, rfl, by simpa using hown'⟩, ((Below.refl _ w).alloc (Nat.le_refl _) _).grown hgrow (by simp) own_ge⟩
theorem infoP : (Tryz.prog.info? 106).map (fun i => (i.zero, i.size, i.bytes)) = some (some (.pointer none), 1, 8) := by kernel_rfl
theorem infoP_ex : ∃ i, Tryz.prog.info? 106 = some i ∧ i.zero = some (.pointer none) ∧ i.size = 1 ∧ i.bytes = 8 := by
  obtain ⟨i0, hi, h1, h2, h3⟩ := info_parts infoP
  exact ⟨i0, hi, h1, h2, h3⟩
set_option maxRecDepth 100000 in
set_option maxHeartbeats 1000000 in
theorem cloneP {w : World} {v : Value} {n : Nat} {l : List Value} (h : Src w v n l) (hl : l.length = n * 1) (h1 : ∀ u ∈ l, u.oneCell' = true) (hn : n * 8 ≤ 140737488355328) : Calls Tryz.prog 97 #[v] w (ClQ w 106 1 n l) := by
  obtain ⟨i0, hi, hz0, hz1, hz2⟩ := infoP_ex
  have q22 : ∀ (w : World) (a : Option Addr) (n c n' c' : Nat), (binOp .eql 107 (.slice a n c) (.slice none n' c')).run Tryz.prog w = .ok (.bool a.isNone) w := fun w a n c n' c' => Go.Lib.run_eql_slice_nil w _ _ a n c n' c' Tryz.underlying107
  cases h with
  | nil c =>
    go_enter Tryz.func97, Tryz.ntmps97
    go_wp2_with fail
    go_ret
    exact ⟨⟨_, rfl, World.ownsRow_nil _ _ _ _⟩, Below.refl _ _⟩
  | non a c =>
    have hr : (w.alloc (.cells #[] 106)).ownsRow w.heap.size 106 1 (.slice (some ⟨w.heap.size, 0, none⟩) 0 0) 0 [] := World.ownsRow_made w #[] 0 (Nat.le_refl _) (by simp [maxLen]) (by simp)
    go_enter Tryz.func97, Tryz.ntmps97
    go_wp2_with (at_builtin; refine wpList_append_own _ rfl _ _ 107 rfl w.heap.size 106 i0 (.pointer none) 1 8 Tryz.underlying107 hi hz0 hz1 hz2 rfl (by decide) _ _ _ rfl hr a 0 c [] rfl rfl (by simp) (by simp) (by simp [maxLen]) (by simp) (by simp) ?_; intro v' w1 hown' hgrow _)
    go_ret
    exact ⟨⟨_, rfl, by simpa using hown'⟩, ((Below.refl _ w).alloc (Nat.le_refl _) _).grown hgrow (by simp) own_ge⟩
  | row b o n c l hc =>
    have hr : (w.alloc (.cells #[] 106)).ownsRow w.heap.size 106 1 (.slice (some ⟨w.heap.size, 0, none⟩) 0 0) 0 [] := World.ownsRow_made w #[] 0 (Nat.le_refl _) (by simp [maxLen]) (by simp)
    have hc2 : ∀ j u, l[j]? = some u → (w.alloc (.cells #[] 106)).cell? ((⟨b, o, none⟩ : Addr).add j) = some u := fun j u hj => by
      rw [Addr.add_lit]; exact kept_cell (below_alloc w _) (hc j u hj)
    go_enter Tryz.func97, Tryz.ntmps97
    go_wp2_with (at_builtin; refine wpList_append_own _ rfl _ _ 107 rfl w.heap.size 106 i0 (.pointer none) 1 8 Tryz.underlying107 hi hz0 hz1 hz2 rfl (by decide) _ _ _ rfl hr ⟨b, o, none⟩ n c l rfl hl hc2 h1 (by simp [maxLen]; omega) (by omega) (by simp) ?_; intro v' w1 hown' hgrow _)
    go_ret
    exact ⟨⟨_, rfl, by simpa using hown'⟩, ((Below.refl _ w).alloc (Nat.le_refl _) _).grown hgrow (by simp) own_ge⟩
end Go.Proofs.YtfkkhabpnnealaaGreatDoor.T8

/-
  types.walk over pointers to types: slices.Reverse of one, slices.Backward, walk.
-/
namespace Go.Proofs.YtfkkhabpnnealaaGreatDoor.T8
open Go.RowKit
attribute [local go_sem] Oper.semAt_some
set_option maxRecDepth 100000 in
set_option maxHeartbeats 2000000 in
theorem revP (a : Option Addr) (c : Nat) (w : World) : Calls Tryz.prog 98 #[.slice a 1 c] w fun e w' => (∃ v, e = .returned v) ∧ w' = w := by
  refine (callsIn_wide (n := 3)).1 ?_
  refine callsIn_of_wp Tryz.func98 rfl trivial ?_ rfl
  simp only [Tryz.ntmps98, List.size_toArray, List.length_cons, List.length_nil, Nat.reduceAdd, Nat.reduceSub, Array.replicate_succ, Array.replicate_zero, List.push_toArray, List.append_toArray, List.nil_append, List.cons_append]
  gi_wp2
  refine wpIn_loop_rounds 1 ?_
  rw [roundsIn_succ]
  gi_wp2
  go_end0
  exact ⟨⟨_, rfl⟩, rfl⟩
/-- a pointer that is not nil -/
abbrev pv (x : Addr) : Value := .pointer (some x)
/-- what the loop's rounds keep: two blocks -/
structure Kb (Bs b : Nat) (W W' : World) : Prop where
  s : W'.heap[Bs]? = W.heap[Bs]?
  r : W'.heap[b]? = W.heap[b]?
theorem Kb.trans {Bs b : Nat} {A B C : World} (h : Kb Bs b A B) (k : Kb Bs b B C) : Kb Bs b A C := ⟨k.s.trans h.s, k.r.trans h.r⟩
theorem Kb.refl (Bs b : Nat) (A : World) : Kb Bs b A A := ⟨rfl, rfl⟩
set_option maxRecDepth 100000 in
set_option maxHeartbeats 2000000 in
/-- slices.Backward's closure at a slice that is not empty -/
theorem bwdP1 (m l Bs b off cap : Nat) (xs : List Addr) (hreach : xs.length ≤ 1000000000) (J Jx : List (Nat × Addr) → World → Prop)
    (hY : ∀ pre x W, J pre W → pre.length < xs.length → YieldAt Fence.wide (m - 1) Tryz.prog l #[.int .i64 (x.1 : Nat), pv x.2] W fun e W' =>
      (e = .returned (.bool true) ∧ J (pre ++ [x]) W' ∧ Kb Bs b W W') ∨ (e = .returned (.bool false) ∧ Jx (pre ++ [x]) W'))
    (W : World) (hBs : W.cell? ⟨Bs, 0, none⟩ = some (.slice (some ⟨b, off, none⟩) xs.length cap)) (hc : ∀ j x, xs[j]? = some x → W.cell? ⟨b, off + j, none⟩ = some (pv x)) (h0 : J [] W) :
    CallsIn Fence.wide m Tryz.prog 108 #[.func (.yield l) #[] #[], .pointer (some ⟨Bs, 0, none⟩)] W fun e W' => (∃ v, e = .returned v) ∧
      ((∃ ys, ys.map Prod.snd = xs.reverse ∧ J ys W') ∨ (∃ pre, True ∧ Jx pre W')) := by
  refine callsIn_of_wp Tryz.func108 rfl trivial ?_ rfl
  simp only [Tryz.ntmps108, List.size_toArray, List.length_cons, List.length_nil, Nat.reduceAdd, Nat.reduceSub, Array.replicate_succ, Array.replicate_zero, List.push_toArray, List.append_toArray, List.nil_append, List.cons_append]
  have hwp : wrap64 ((xs.length : Int) - 1) = (xs.length : Int) - 1 := by unfold wrap64; omega
  gi_wp2
  gi_loopw [3] (fun i wr => ∃ (k : Nat) (pre : List (Nat × Addr)), k ≤ xs.length ∧ i = .int .i64 ((xs.length : Int) - 1 - (k : Int)) ∧ pre.length = k ∧ pre.map Prod.snd = xs.reverse.take k ∧ J pre wr ∧ Kb Bs b W wr)
    (fun i _ => (intOf i + 1).toNat)
  case atStart => exact ⟨0, [], Nat.zero_le _, by simp, rfl, by simp, h0, Kb.refl _ _ _⟩
  case round =>
    obtain ⟨k, pre, hk, rfl, hpl, hpm, hJs, hnx⟩ := hrel
    have hBs' : wr.cell? ⟨Bs, 0, none⟩ = some (.slice (some ⟨b, off, none⟩) xs.length cap) := (World.cell?_of_block hnx.s).trans hBs
    clear hwp
    by_cases hlt : k < xs.length
    · obtain ⟨i, hi⟩ : ∃ i, xs.length = i + k + 1 := ⟨xs.length - 1 - k, by omega⟩
      have hix : (xs.length : Int) - 1 - (k : Int) = (i : Int) := by omega
      obtain ⟨x, hx⟩ : ∃ x, xs[i]? = some x := ⟨xs[i], List.getElem?_eq_getElem (by omega)⟩
      have hcx : wr.cell? ⟨b, off + i, none⟩ = some (pv x) := (World.cell?_of_block hnx.r).trans (hc i x hx)
      obtain ⟨fn, tmps, assign, body, hy, hR⟩ := hY pre (i, x) wr hJs (by omega)
      have h1 : (i : Int) < (xs.length : Int) := by omega
      have h2 : 0 ≤ (i : Int) := by omega
      have h3 : i < xs.length := by omega
      have hw1 : wrap64 ((i : Int) - 1) = (i : Int) - 1 := by unfold wrap64; omega
      have HPM : Hid (pre.map Prod.snd = xs.reverse.take k) := hpm
      have HPL : Hid (pre.length = k) := hpl
      have HNX : Hid (Kb Bs b W wr) := hnx
      have HX : Hid (xs[i]? = some x) := hx
      have HI : Hid (xs.length = i + k + 1) := hi
      have HC : Hid (∀ j x, xs[j]? = some x → W.cell? ⟨b, off + j, none⟩ = some (pv x)) := hc
      have HB0 : Hid (W.cell? ⟨Bs, 0, none⟩ = some (.slice (some ⟨b, off, none⟩) xs.length cap)) := hBs
      rw [hix]
      clear hpm hpl hnx hx hc hBs hi
      gi_wp2
      refine ⟨fun h => by simp [Fence.wide] at h, ?_⟩
      refine hR.mono ?_
      rintro e W3 (⟨rfl, hJ3, hk3⟩ | ⟨rfl, hJx3⟩)
      · gi_wp2
        go_roundw
        case rel =>
          refine ⟨k + 1, pre ++ [(i, x)], by omega, ?_, by simp [HPL.out], ?_, hJ3, HNX.out.trans hk3⟩
          · have := HI.out
            first | omega | (congr 1; omega) | (simp; omega)
          · rw [List.map_append, HPM.out, List.take_add_one]
            congr 1
            have := HI.out
            rw [List.getElem?_reverse (by omega), show xs.length - 1 - k = i by omega, HX.out]
            simp
        case measure => simp [intOf]
      · gi_wp2
        refine bodyPost_ret (results_none rfl _ _ _) rfl ?_
        exact ⟨⟨_, rfl⟩, .inr ⟨_, trivial, hJx3⟩⟩
    · obtain rfl : k = xs.length := by omega
      have hix : (xs.length : Int) - 1 - (xs.length : Int) = -1 := by omega
      rw [hix]
      have HPM : Hid (pre.map Prod.snd = xs.reverse.take xs.length) := hpm
      clear hpm hpl
      gi_wp2
      go_end0
      exact ⟨⟨_, rfl⟩, .inl ⟨pre, by rw [HPM.out, List.take_of_length_le (by simp)], hJs⟩⟩
set_option maxRecDepth 100000 in
set_option maxHeartbeats 2000000 in
theorem bwdP0 (m l Bs : Nat) (a : Option Addr) (cap : Nat) (J : List (Nat × Addr) → World → Prop) (W : World) (hBs : W.cell? ⟨Bs, 0, none⟩ = some (.slice a 0 cap)) (h0 : J [] W) :
    CallsIn Fence.wide m Tryz.prog 108 #[.func (.yield l) #[] #[], .pointer (some ⟨Bs, 0, none⟩)] W fun e W' => (∃ v, e = .returned v) ∧ J [] W' := by
  refine callsIn_of_wp Tryz.func108 rfl trivial ?_ rfl
  simp only [Tryz.ntmps108, List.size_toArray, List.length_cons, List.length_nil, Nat.reduceAdd, Nat.reduceSub, Array.replicate_succ, Array.replicate_zero, List.push_toArray, List.append_toArray, List.nil_append, List.cons_append]
  gi_wp2
  refine wpIn_loop_rounds 1 ?_
  rw [roundsIn_succ]
  gi_wp2
  go_end0
  exact ⟨⟨_, rfl⟩, h0⟩
theorem mkf : ∀ (fn : Fn) (first cap : Array Value) (w : World), (Instr.makeFunc fn first cap).run Tryz.prog w = .ok (.func fn first cap) w := fun _ _ _ _ => rfl
set_option maxHeartbeats 1000000 in
/-- slices.Backward: the slice is boxed -/
theorem bwdP (a : Option Addr) (len cap : Nat) (w : World) :
    Calls Tryz.prog 99 #[.slice a len cap] w fun e w' => e = .returned (.func (.func 108) #[] #[.pointer (some ⟨w.heap.size, 0, none⟩)]) ∧ w' = w.alloc (.cells #[.slice a len cap] 107) := by
  have hmf := mkf
  go_enter Tryz.func99, Tryz.ntmps99
  go_wp2
  go_ret
  exact ⟨rfl, rfl⟩
/-- a slice of pointers to types -/
abbrev PtV := RowV pv
/-- what Backward tells -/
theorem bwdP_stops (m Bs b : Nat) (sv : Value) (xs : List Addr) (hreach : xs.length ≤ 1000000000) (w : World) (hBs : Bs < w.heap.size) (hc : w.cell? ⟨Bs, 0, none⟩ = some sv) (hI : PtV (fun c => c = b) w sv xs) :
    SeqStopsK Fence.wide m Tryz.prog 108 #[.pointer (some ⟨Bs, 0, none⟩)] (fun x : Nat × Addr => #[Value.int .i64 (x.1 : Nat), pv x.2]) (Kb Bs b) (fun ys => ys.map Prod.snd = xs.reverse) (fun _ => True) xs.length w := fun l J Jx W hW _ _ hY h0 => by
  have hc' := (hW.cell (p := ⟨Bs, 0, none⟩) hBs).trans hc
  rcases hI with ⟨a, c, rfl, rfl⟩ | ⟨b', o, c, rfl, hlen, hb1, rfl, hcs⟩
  · exact (bwdP0 m l Bs a c J W hc' h0).mono fun e W' ⟨he, hj⟩ => ⟨he, .inl ⟨_, rfl, hj⟩⟩
  · exact bwdP1 m l Bs b' o c xs hreach J Jx hY W hc' (fun j x hx => (hW.cell (p := ⟨b', o + j, none⟩) hb1).trans (hcs j x hx)) h0
end Go.Proofs.YtfkkhabpnnealaaGreatDoor.T8

