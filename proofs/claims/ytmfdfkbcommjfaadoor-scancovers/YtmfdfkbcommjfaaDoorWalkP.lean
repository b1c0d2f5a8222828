/-
  read of scan, walked: a fault gives up by panic and is caught by recover.
-/
import Derived.Test.YtmfdfkbcommjfaaDoorWalkO
import Derived.Defers
import Derived.Recover
import Derived.Laws.Pointers
namespace Go.Proofs.YtmfdfkbcommjfaaDoor
open Go.RowKit
attribute [local go_sem ↓] Go.wp_at_zero Go.wp_at_succ
theorem nine : Array.replicate 9 undef = #[undef, undef, undef, undef, undef, undef, undef, undef, undef] := rfl
theorem ta_nil (w : World) : (Instr.typeAssert Value.nilIface 20 25 true).run Tryd.prog w = .ok (.tuple #[fltV 0 0, .bool false]) w := by rfl
theorem ta_flt (v : Value) (w : World) : (Instr.typeAssert (Value.iface 25 v) 20 25 true).run Tryd.prog w = .ok (.tuple #[v, .bool true]) w := by rfl
set_option maxRecDepth 100000 in
set_option maxHeartbeats 400000 in
theorem catch_idle (a b c : Addr) (w : World) :
    CallsD Tryd.prog 34 #[.pointer (some a), .pointer (some b), .pointer (some c)] .returning w fun e u' w' => e = .returned (.tuple #[]) ∧ u' = .returning ∧ Below w.heap.size w w' := by
  refine callsD_of_wpS Tryd.func34 rfl fun c₀ cs hu => ?_
  apply wpS_seq
  apply wpS_region
  simp [wpOpsS, go_sem, recoverD, hu, Tryd.ntmps34, Exit.thenS, nine, ta_nil, fltV]
  apply wpS_seq
  apply wpS_region
  simp [wpOpsS, go_sem, Exit.thenS]
  refine wpS_cond (t := false) (by simp [Act.eval]) ?_
  simp only [Bool.false_eq_true, if_false]
  refine wpS_of_wp (wp_skip ?_)
  have hb := (Below.refl w.heap.size w).alloc (Nat.le_refl _) (.cells #[.int .i64 0, .string ⟨#[]⟩, .int .i64 0] 25)
  cases c₀
  simp_all [bodyPostS, results, Tryd.results34]
theorem keepF {W : World} {F o : Nat} {a : Addr} {v u : Value} (h : W.cell? ⟨F, o, none⟩ = some u) (hne : F ≠ a.block) : (W.setCell a v).cell? ⟨F, o, none⟩ = some u :=
  (World.cell?_of_block (w := W) (Below.heap_setCell W a v F hne)).trans h
/-- the world behind a caught fault -/
structure CatchW (A : Nat) (p : Int) (w w' : World) : Prop where
  bl : Below A w w'
  tk : w'.heap[A]? = some (.cells #[.slice none 0 0] 23 (0, 0))
  rk : w'.heap[A + 1]? = some (.cells #[.slice none 0 0] 30 (0, 0))
  fk : w'.heap[A + 2]? = some (.cells #[.int .i64 3, .string ⟨#[]⟩, .int .i64 p] 25 (0, 0))
theorem catch_world {A F : Nat} {p : Int} {w W : World} {t0 r0 x0 x1 x2 : Value} (hb : Below F w W) (hAF : A + 2 < F) (ha : W.heap[A]? = some (.cells #[t0] 23 (0, 0))) (hr : W.heap[A + 1]? = some (.cells #[r0] 30 (0, 0))) (hc : W.heap[A + 2]? = some (.cells #[x0, x1, x2] 25 (0, 0))) :
    CatchW A p w ((((((W.setCell ⟨A, 0, none⟩ (.slice none 0 0)).setCell ⟨A + 1, 0, none⟩ (.slice none 0 0)).setCell ⟨A + 2, 0, none⟩ (.int .i64 3)).setCell ⟨A + 2, 1, none⟩ (.string ⟨#[]⟩)).setCell ⟨A + 2, 2, none⟩ (.int .i64 p)).drew) := by
  have far := fun (V : World) (a : Addr) (u : Value) (k : Nat) (h : k ≠ a.block) => Below.heap_setCell V a u k h
  refine ⟨((((((Below.mono (B' := A) hb (by omega)).setCell (p := ⟨A, 0, none⟩) (Nat.le_refl _) _).setCell (p := ⟨A + 1, 0, none⟩) (Nat.le_succ _) _).setCell (p := ⟨A + 2, 0, none⟩) (by show A ≤ A + 2; omega) _).setCell (p := ⟨A + 2, 1, none⟩) (by show A ≤ A + 2; omega) _).setCell (p := ⟨A + 2, 2, none⟩) (by show A ≤ A + 2; omega) _).drew, ?_, ?_, ?_⟩
  · rw [show ∀ V : World, V.drew.heap[A]? = V.heap[A]? from fun _ => rfl, far _ _ _ A (by show A ≠ A + 2; omega), far _ _ _ A (by show A ≠ A + 2; omega), far _ _ _ A (by show A ≠ A + 2; omega), far _ _ _ A (by show A ≠ A + 1; omega), heap_set ha]
    rfl
  · rw [show ∀ V : World, V.drew.heap[A + 1]? = V.heap[A + 1]? from fun _ => rfl, far _ _ _ (A + 1) (by show A + 1 ≠ A + 2; omega), far _ _ _ (A + 1) (by show A + 1 ≠ A + 2; omega), far _ _ _ (A + 1) (by show A + 1 ≠ A + 2; omega)]
    rw [heap_set (cs := #[r0]) (T := 30) ((far _ _ _ (A + 1) (by show A + 1 ≠ A; omega)).trans hr)]
    rfl
  · rw [show ∀ V : World, V.drew.heap[A + 2]? = V.heap[A + 2]? from fun _ => rfl]
    rw [heap_set (heap_set (heap_set (((far _ _ _ (A + 2) (by show A + 2 ≠ A + 1; omega)).trans (far _ _ _ (A + 2) (by show A + 2 ≠ A; omega))).trans hc) _) _)]
    rfl
set_option maxRecDepth 100000 in
set_option maxHeartbeats 1000000 in
theorem catch_some (A : Nat) (t0 r0 : Value) (f0 : Array Value) (hf0 : f0.size = 3) (p : Int) (w : World) (ha : w.heap[A]? = some (.cells #[t0] 23 (0, 0))) (hb : w.heap[A + 1]? = some (.cells #[r0] 30 (0, 0))) (hc : w.heap[A + 2]? = some (.cells f0 25 (0, 0))) :
    CallsD Tryd.prog 34 #[.pointer (some ⟨A, 0, none⟩), .pointer (some ⟨A + 1, 0, none⟩), .pointer (some ⟨A + 2, 0, none⟩)] (.panicking [{ v := .iface 25 (fltV 3 p), recovered := false }]) w fun e u' w' =>
      e = .returned (.tuple #[]) ∧ u' = .panicking [{ v := .iface 25 (fltV 3 p), recovered := true }] ∧ CatchW A p w w' := by
  refine callsD_of_wpS Tryd.func34 rfl fun c₀ cs hu => ?_
  apply wpS_seq
  apply wpS_region
  simp [wpOpsS, go_sem, recoverD, hu, Tryd.ntmps34, Exit.thenS, nine, ta_flt, fltV]
  apply wpS_seq
  apply wpS_region
  simp [wpOpsS, go_sem, Exit.thenS]
  refine wpS_cond (t := true) (by simp [Act.eval]) ?_
  simp only [if_true]
  refine wpS_of_wp ?_
  have hAl : A + 2 < w.heap.size := (Array.getElem?_eq_some_iff.1 hc).1
  have hal := fun k (hk : k < w.heap.size) => Below.heap_alloc w (.cells #[.int .i64 3, .string ⟨#[]⟩, .int .i64 p] 25) k hk
  have hnew : (w.alloc (.cells #[.int .i64 3, .string ⟨#[]⟩, .int .i64 p] 25)).heap[w.heap.size]? = some (.cells #[.int .i64 3, .string ⟨#[]⟩, .int .i64 p] 25 (0, 0)) := heap_alloc_new w _
  have ha2 := (hal A (by omega)).trans ha
  have hb2 := (hal (A + 1) (by omega)).trans hb
  have hc2 := (hal (A + 2) (by omega)).trans hc
  have HB : Hid (Below w.heap.size w (w.alloc (.cells #[.int .i64 3, .string ⟨#[]⟩, .int .i64 p] 25))) := (Below.refl w.heap.size w).alloc (Nat.le_refl _) _
  generalize w.alloc (.cells #[.int .i64 3, .string ⟨#[]⟩, .int .i64 p] 25) = W at *
  generalize hF : w.heap.size = F at *
  have hFA : F ≠ A := by omega
  have hFA1 : F ≠ A + 1 := by omega
  have hFA2 : F ≠ A + 2 := by omega
  have a0 : W.cell? ⟨A, 0, none⟩ = some t0 := by simp [World.cell?, ha2]
  have a1 : W.frozen? ⟨A, 0, none⟩ = false := by simp [World.frozen?, ha2]
  have b0 : W.cell? ⟨A + 1, 0, none⟩ = some r0 := by simp [World.cell?, hb2]
  have b1 : W.frozen? ⟨A + 1, 0, none⟩ = false := by simp [World.frozen?, hb2]
  obtain ⟨x0, x1, x2, rfl⟩ : ∃ x0 x1 x2, f0 = #[x0, x1, x2] := by
    obtain ⟨l⟩ := f0
    match l, hf0 with
    | [x0, x1, x2], _ => exact ⟨x0, x1, x2, rfl⟩
  have e0 : W.cell? ⟨A + 2, 0, none⟩ = some x0 := by simp [World.cell?, hc2]
  have e1 : W.cell? ⟨A + 2, 1, none⟩ = some x1 := by simp [World.cell?, hc2]
  have e2 : W.cell? ⟨A + 2, 2, none⟩ = some x2 := by simp [World.cell?, hc2]
  have e3 : W.frozen? ⟨A + 2, 0, none⟩ = false := by simp [World.frozen?, hc2]
  have e4 : W.frozen? ⟨A + 2, 1, none⟩ = false := by simp [World.frozen?, hc2]
  have e5 : W.frozen? ⟨A + 2, 2, none⟩ = false := by simp [World.frozen?, hc2]
  have g0 : W.cell? ⟨F, 0, none⟩ = some (.int .i64 3) := by simp [World.cell?, hnew]
  have g1 : W.cell? ⟨F, 1, none⟩ = some (.string ⟨#[]⟩) := by simp [World.cell?, hnew]
  have g2 : W.cell? ⟨F, 2, none⟩ = some (.int .i64 p) := by simp [World.cell?, hnew]
  have HA2 : Hid (W.heap[A]? = some (.cells #[t0] 23 (0, 0))) := ha2
  have HB2 : Hid (W.heap[A + 1]? = some (.cells #[r0] 30 (0, 0))) := hb2
  have HC2 : Hid (W.heap[A + 2]? = some (.cells #[x0, x1, x2] 25 (0, 0))) := hc2
  clear ha hb hc ha2 hb2 hc2 hal hnew hf0
  have hAF : A ≠ F := by omega
  have hAF1 : A + 1 ≠ F := by omega
  have hAF2 : A + 2 ≠ F := by omega
  go_region
  all_goals
    have q := catch_world (p := p) HB.out hAl HA2.out HB2.out HC2.out
    simp [bodyPostS, results, Tryd.results34]
    exact q
end Go.Proofs.YtmfdfkbcommjfaaDoor
