/-
  unify's small functions, walked: which kinds say nothing, what is known, where a type argument stands.
-/
import Derived.Test.YtcmnhkopmkaiaaaUak
import Derived.Test.YtcmnhkopmkaiaaaIdw
import Derived.Test.YtcmnhkopmkaiaaaMtf
namespace Go.Proofs.Ytcmnhkopmkaiaaa
open Go.RowKit
attribute [local go_sem ↓] Go.wp_at_zero Go.wp_at_succ
set_option maxRecDepth 100000 in
set_option maxHeartbeats 2000000 in
theorem index_any {B : BQ} {w : World} {a : Option Addr} {n c : Nat} {l : List Int} (k : Int) (h : RowV (Value.int .i64) B w (.slice a n c) l) : Calls Try.prog 54 #[.slice a n c, .int .i64 k] w fun e w' => (∃ r : Int, e = .returned (.int .i64 r) ∧ (0 ≤ r ↔ k ∈ l)) ∧ w' = w := by
  have hl := h.len
  have hm := h.max
  have HT : Hid (RowV (Value.int .i64) B w (.slice a n c) l) := h
  have HL : Hid (n = l.length) := hl
  clear h hl
  go_enter Try.func54, Try.ntmps54
  go_wp2_with fail
  go_loopg [8] n (fun g u8 wr => ∃ i : Nat, i ≤ n ∧ n - i ≤ g ∧ u8 = .int .i64 i ∧ wr = w ∧ Hid (∀ j (h1 : j < l.length), j < i → l[j] ≠ k))
  case atStart => exact ⟨0, Nat.zero_le _, Nat.le_refl _, rfl, rfl, fun j _ hj => by omega⟩
  case round =>
    obtain ⟨i, hi, hg, rfl, rfl, HX⟩ := hrel
    by_cases hlt : i < n
    · have z1 : (i : Int) < (n : Int) := by omega
      have z0 : (0 : Int) ≤ (i : Int) := by omega
      have b1 : i < l.length := by rw [← HL.out]; exact hlt
      obtain ⟨g1, o1, rfl, ht1⟩ := HT.out.get b1
      generalize hx : l[i] = x at *
      have HXY : Hid (l[i] = x) := hx
      clear hx
      by_cases he : k = x
      · have k2 := int_beq he
        go_wp2_with fail
        go_ret
        exact ⟨⟨(i : Int), rfl, fun _ => by rw [he, ← HXY.out]; exact List.getElem_mem _, fun _ => z0⟩, rfl⟩
      · have k2 := int_bne he
        go_wp2_with fail
        go_roundg (n - (i + 1))
        case measure => omega
        case rel => exact ⟨i + 1, by omega, Nat.le_refl _, by go_num, rfl, fun j h1 hj => by
          rcases Nat.lt_or_ge j i with h | h
          · exact HX.out j h1 h
          · have e : j = i := by omega
            subst e
            rw [HXY.out]; exact fun e => he e.symm⟩
    · have z1 : ¬ (i : Int) < (n : Int) := by omega
      go_wp2_with fail
      go_ret
      exact ⟨⟨-1, rfl, fun h => absurd h (by decide), fun h => by
        obtain ⟨j, hj, e⟩ := List.mem_iff_getElem.1 h
        exact absurd e (HX.out j hj (by have := HL.out; omega))⟩, rfl⟩
set_option maxRecDepth 100000 in
set_option maxHeartbeats 2000000 in
theorem contains_any {B : BQ} {w : World} {a : Option Addr} {n c : Nat} {l : List Int} (k : Int) (h : RowV (Value.int .i64) B w (.slice a n c) l) : Calls Try.prog 53 #[.slice a n c, .int .i64 k] w fun e w' => e = .returned (.bool (decide (k ∈ l))) ∧ w' = w := by
  have hx := index_any k h
  clear h
  go_enter Try.func53, Try.ntmps53
  go_wp2_with (go_at_call 54; refine hx.mono ?_; rintro e w1 ⟨⟨r, rfl, hr⟩, rfl⟩; have HR : Hid (0 ≤ r ↔ k ∈ l) := hr; clear hr hx)
  go_ret
  refine ⟨ret_bool ?_, rfl⟩
  have := HR.out
  by_cases h0 : 0 ≤ r
  · simp [h0, this.1 h0]
  · have hn : ¬ k ∈ l := fun h => h0 (this.2 h)
    simp [h0, hn]
/-- the number that a type's kind is lies at its first cell -/
theorem isof_any {B : BQ} {w : World} {a : Option Addr} {n c b o : Nat} {l : List Int} (k : Int) (h : RowV (Value.int .i64) B w (.slice a n c) l) (hk : w.cell? ⟨b, o, none⟩ = some (.int .i64 k)) : Calls Try.prog 51 #[pv ⟨b, o, none⟩, .slice a n c] w fun e w' => e = .returned (.bool (decide (k ∈ l))) ∧ w' = w := by
  have hx := contains_any k h
  clear h
  go_enter Try.func51, Try.ntmps51
  go_wp2_with (go_at_call 53; refine hx.mono ?_; rintro e w1 ⟨rfl, rfl⟩; clear hx)
  go_ret
  exact ⟨rfl, rfl⟩
theorem row3 (w : World) (x y z : Int) : RowV (Value.int .i64) (fun _ => True) (w.alloc (.cells #[.int .i64 x, .int .i64 y, .int .i64 z] 3)) (.slice (some ⟨w.heap.size, 0, none⟩) 3 3) [x, y, z] :=
  .inr ⟨w.heap.size, 0, 3, rfl, by simp, by simp, trivial, fun i u hu => by
    have hb := heap_new w (.cells #[.int .i64 x, .int .i64 y, .int .i64 z] 3)
    rw [cell_of hb]
    rcases i with _ | _ | _ | i <;> simp at hu <;> subst hu <;> rfl⟩
theorem row2 (w : World) (x y : Int) : RowV (Value.int .i64) (fun _ => True) (w.alloc (.cells #[.int .i64 x, .int .i64 y] 3)) (.slice (some ⟨w.heap.size, 0, none⟩) 2 2) [x, y] :=
  .inr ⟨w.heap.size, 0, 2, rfl, by simp, by simp, trivial, fun i u hu => by
    have hb := heap_new w (.cells #[.int .i64 x, .int .i64 y] 3)
    rw [cell_of hb]
    rcases i with _ | _ | i <;> simp at hu <;> subst hu <;> rfl⟩
theorem untyped_any {w : World} {b o : Nat} (k : Int) (hk : w.cell? ⟨b, o, none⟩ = some (.int .i64 k)) : Calls Try.prog 50 #[pv ⟨b, o, none⟩] w fun e w' => e = .returned (.bool (decide (k ∈ ([4, 5, 6] : List Int)))) ∧ Below w.heap.size w w' := by
  have hx := isof_any k (row3 w 4 5 6) (kept_cell (below_alloc _ _) hk)
  go_enter Try.func50, Try.ntmps50
  go_wp2_with (go_at_call 51; refine hx.mono ?_; rintro e w1 ⟨rfl, rfl⟩; clear hx)
  go_ret
  exact ⟨ret_bool (by simp), below_alloc _ _⟩
/-- what says nothing of a type argument -/
theorem silent_any {w : World} {b o : Nat} {t : Ty} (hk : w.cell? ⟨b, o, none⟩ = some (.int .i64 t.kind)) : Calls Try.prog 44 #[pv ⟨b, o, none⟩] w fun e w' => e = .returned (.bool t.opn) ∧ Below w.heap.size w w' := by
  obtain ⟨k, hkk⟩ : ∃ k, t.kind = k := ⟨_, rfl⟩
  have HO : Hid (t.opn = (decide (k ∈ ([4, 5, 6] : List Int)) || decide (k ∈ ([7, 17] : List Int)))) := by
    show _ = _
    unfold Ty.opn
    rw [hkk]
    by_cases h1 : k = 4 <;> by_cases h2 : k = 5 <;> by_cases h3 : k = 6 <;> by_cases h4 : k = 7 <;> by_cases h5 : k = 17 <;> simp [h1, h2, h3, h4, h5]
  rw [hkk] at hk
  generalize t.opn = r at *
  clear hkk
  have hx := untyped_any k hk
  have HX2 : Hid (∀ w1 : World, Below w.heap.size w w1 → Calls Try.prog 51 #[pv ⟨b, o, none⟩, .slice (some ⟨w1.heap.size, 0, none⟩) 2 2] (w1.alloc (.cells #[.int .i64 7, .int .i64 17] 3)) fun e w' => e = .returned (.bool (decide (k ∈ ([7, 17] : List Int)))) ∧ w' = w1.alloc (.cells #[.int .i64 7, .int .i64 17] 3)) := fun w1 hb => isof_any k (row2 w1 7 17) (kept_cell (bthen hb (below_alloc _ _)) hk)
  generalize hu : decide (k ∈ ([4, 5, 6] : List Int)) = u at *
  generalize decide (k ∈ ([7, 17] : List Int)) = v at *
  clear hu
  cases u with
  | true =>
    go_enter Try.func44, Try.ntmps44
    go_wp2_with (go_at_call 50; refine hx.mono ?_; rintro e w1 ⟨rfl, hb⟩; have HB : Hid (Below w.heap.size w w1) := hb; clear hx hb)
    go_ret
    exact ⟨ret_bool (by rw [HO.out]; rfl), HB.out⟩
  | false =>
    go_enter Try.func44, Try.ntmps44
    go_wp2_with (first | (go_at_call 50; refine hx.mono ?_; rintro e w1 ⟨rfl, hb⟩; have HB : Hid (Below w.heap.size w w1) := hb; clear hx hb) | (go_at_call 51; refine (HX2.out _ HB.out).mono ?_; rintro e w2 ⟨rfl, rfl⟩))
    go_ret
    exact ⟨ret_bool (by rw [HO.out]; rfl), bthen HB.out (below_alloc _ _)⟩
theorem unknown_any {w : World} (t : Ty) (vn vm vk : Value) : Calls Try.prog 52 #[agT t vn vm vk] w fun e w' => e = .returned (.bool (t.kind == 0)) ∧ Below w.heap.size w w' := by
  unfold agT
  go_enter Try.func52, Try.ntmps52
  go_wp2_with fail
  go_ret
  exact ⟨rfl, below_alloc _ _⟩
end Go.Proofs.Ytcmnhkopmkaiaaa

