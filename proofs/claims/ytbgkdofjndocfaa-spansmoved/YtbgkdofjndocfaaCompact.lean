/-
  slices.Compact of any edits: what stays, in the same memory.
-/
import Derived.Test.YtbgkdofjndocfaaEdits
namespace Go.Proofs.Ytbgkdofjndocfaa
open Go.RowKit
attribute [local go_sem ↓] Go.wp_at_zero Go.wp_at_succ
theorem eqEd' (x y : Ed) (w : World) : (binOp .eql 33 (.agg (encE x).toArray) (.agg (encE y).toArray)).run Try.prog w = .ok (.bool (eqE x y)) w := eqEd.1 x y w
theorem neqEd' (x y : Ed) (w : World) : (binOp .neq 33 (.agg (encE x).toArray) (.agg (encE y).toArray)).run Try.prog w = .ok (.bool (!eqE x y)) w := by
  have u3 := Try.underlying3
  have a3 := Try.isAgg3
  have z3 := Try.sizeOf3
  have u9 := Try.underlying9
  have a9 := Try.isAgg9
  have z9 := Try.sizeOf9
  have hS : Try.prog.underlying 33 = some (.struct (Try.prog.fieldsOf 33)) := by kernel_rfl
  have hp : Try.prog.stoodInHeld 33 = false := by kernel_rfl
  simp only [encE]
  rw [run_neq_struct, show (10000 : Nat) = 9999 + 1 from rfl, run_equalIn_agg w 9999 33 _ _ hS hp]
  simp only [Program.fieldsOf, Try.underlying33, eqE]
  go_simp
  by_cases h1 : x.1.toList = y.1.toList <;> by_cases h2 : x.2.1 = y.2.1 <;> by_cases h3 : x.2.2.1 = y.2.2.1 <;> by_cases h4 : x.2.2.2.toList = y.2.2.2.toList <;> simp [h1, h2, h3, h4]
def EdAt (w : World) (B j : Nat) (x : Ed) : Prop := w.cell? ⟨B, j * 4, none⟩ = some (.string x.1) ∧ w.cell? ⟨B, j * 4 + 1, none⟩ = some (.int .i64 x.2.1) ∧ w.cell? ⟨B, j * 4 + 2, none⟩ = some (.int .i64 x.2.2.1) ∧ w.cell? ⟨B, j * 4 + 3, none⟩ = some (.string x.2.2.2)
theorem EdAt.drew {w : World} {B j : Nat} {x : Ed} (h : EdAt w B j x) (q : Nat) : EdAt (w.drewN q) B j x := by simpa [EdAt] using h
structure CmW (w W' : World) (B : Nat) (d : List Ed) (n i m : Nat) : Prop where
  len : (cm d i).length = m
  pre : ∀ j, j < m → EdAt W' B j ((cm d i).getD j default)
  rest : ∀ j, i - 1 ≤ j → j < n → EdAt W' B j (d.getD j default)
  fz : ∀ o, o < n * 4 → W'.frozen? ⟨B, o, none⟩ = false
  grown : w.grownBy W' (some B)
  cells : ∀ o, o < n * 4 → ∃ v, W'.cell? ⟨B, o, none⟩ = some v
  size : W'.heap.size = w.heap.size
theorem cm_dup {d : List Ed} {k : Nat} (h1 : 0 < k) (h : cm d k = d.take k) (he : eqE (d.getD k default) (d.getD (k - 1) default) = true) : cm d (k + 1) = d.take k := by
  rw [cm, if_pos ⟨h1, (eqE_iff _ _).1 he⟩, h]
theorem grownBy_drew (w : World) (q : Nat) (r : Option Nat) : w.grownBy (w.drewN q) r := ⟨rfl, rfl, rfl, Nat.le_refl _, fun _ _ _ => rfl⟩
theorem cells_some {W : World} {B n : Nat} {f : Nat → Ed} (h : ∀ j, j < n → EdAt W B j (f j)) : ∀ o, o < n * 4 → ∃ v, W.cell? ⟨B, o, none⟩ = some v := by
  intro o ho
  obtain ⟨h0, h1, h2, h3⟩ := h (o / 4) (by omega)
  have hm : o % 4 < 4 := Nat.mod_lt _ (by omega)
  rcases (by omega : o % 4 = 0 ∨ o % 4 = 1 ∨ o % 4 = 2 ∨ o % 4 = 3) with e | e | e | e
  · rw [show o = o / 4 * 4 by omega]; exact ⟨_, h0⟩
  · rw [show o = o / 4 * 4 + 1 by omega]; exact ⟨_, h1⟩
  · rw [show o = o / 4 * 4 + 2 by omega]; exact ⟨_, h2⟩
  · rw [show o = o / 4 * 4 + 3 by omega]; exact ⟨_, h3⟩
theorem CmW.start {w : World} {B n k q : Nat} {d : List Ed} (h1 : 0 < k) (hk : k < n) (hn : n ≤ d.length) (HD : ∀ j, j < n → EdAt w B j (d.getD j default)) (hfz : ∀ o, o < n * 4 → w.frozen? ⟨B, o, none⟩ = false) (h : cm d k = d.take k) (he : eqE (d.getD k default) (d.getD (k - 1) default) = true) : CmW w (w.drewN q) B d n (k + 1) k := by
  have e := cm_dup h1 h he
  refine ⟨by rw [e]; simp; omega, fun j hj => ?_, fun j _ hj => (HD j hj).drew q, fun o ho => by simpa using hfz o ho, grownBy_drew w q _, cells_some fun j hj => (HD j hj).drew q, rfl⟩
  rw [e]
  have := (HD j (by omega)).drew q
  simpa [List.getD_eq_getElem?_getD, List.getElem?_take, hj] using this
def put4 (W : World) (B m : Nat) (x : Ed) : World := (((W.setCell ⟨B, m * 4, none⟩ (.string x.1)).setCell ⟨B, m * 4 + 1, none⟩ (.int .i64 x.2.1)).setCell ⟨B, m * 4 + 2, none⟩ (.int .i64 x.2.2.1)).setCell ⟨B, m * 4 + 3, none⟩ (.string x.2.2.2)
theorem addr_ne {B o o' : Nat} (h : o ≠ o') : (⟨B, o, none⟩ : Addr) ≠ ⟨B, o', none⟩ := fun e => h (by injection e)
theorem set_some {W : World} {a b : Addr} {v u : Value} (h : W.cell? b = some u) : ∃ v', (W.setCell a v).cell? b = some v' := by
  by_cases e : a = b
  · subst e; exact ⟨v, World.cell?_setCell_same _ _ _ h⟩
  · exact ⟨u, by rw [World.cell?_setCell_other _ _ _ _ e]; exact h⟩
theorem put4_other {W : World} {B m o : Nat} {x : Ed} (h : o < m * 4 ∨ m * 4 + 4 ≤ o) : (put4 W B m x).cell? ⟨B, o, none⟩ = W.cell? ⟨B, o, none⟩ := by
  unfold put4
  rw [World.cell?_setCell_other _ _ _ _ (addr_ne (by omega)), World.cell?_setCell_other _ _ _ _ (addr_ne (by omega)), World.cell?_setCell_other _ _ _ _ (addr_ne (by omega)), World.cell?_setCell_other _ _ _ _ (addr_ne (by omega))]
theorem put4_at {W : World} {B m : Nat} {x : Ed} (h : ∀ i, i < 4 → ∃ v, W.cell? ⟨B, m * 4 + i, none⟩ = some v) : EdAt (put4 W B m x) B m x := by
  obtain ⟨v0, h0⟩ := h 0 (by omega)
  obtain ⟨v1, h1⟩ := h 1 (by omega)
  obtain ⟨v2, h2⟩ := h 2 (by omega)
  obtain ⟨v3, h3⟩ := h 3 (by omega)
  unfold put4
  refine ⟨?_, ?_, ?_, ?_⟩
  · rw [World.cell?_setCell_other _ _ _ _ (addr_ne (by omega)), World.cell?_setCell_other _ _ _ _ (addr_ne (by omega)), World.cell?_setCell_other _ _ _ _ (addr_ne (by omega))]
    exact World.cell?_setCell_same _ _ _ h0
  · rw [World.cell?_setCell_other _ _ _ _ (addr_ne (by omega)), World.cell?_setCell_other _ _ _ _ (addr_ne (by omega))]
    exact World.cell?_setCell_same _ _ _ (by rw [World.cell?_setCell_other _ _ _ _ (addr_ne (by omega))]; exact h1)
  · rw [World.cell?_setCell_other _ _ _ _ (addr_ne (by omega))]
    exact World.cell?_setCell_same _ _ _ (by rw [World.cell?_setCell_other _ _ _ _ (addr_ne (by omega)), World.cell?_setCell_other _ _ _ _ (addr_ne (by omega))]; exact h2)
  · exact World.cell?_setCell_same _ _ _ (by rw [World.cell?_setCell_other _ _ _ _ (addr_ne (by omega)), World.cell?_setCell_other _ _ _ _ (addr_ne (by omega)), World.cell?_setCell_other _ _ _ _ (addr_ne (by omega))]; exact h3)
theorem put4_ed {W : World} {B m j : Nat} {x y : Ed} (hj : j ≠ m) (h : EdAt W B j y) : EdAt (put4 W B m x) B j y := by
  unfold EdAt
  rw [put4_other (by omega), put4_other (by omega), put4_other (by omega), put4_other (by omega)]
  exact h
theorem put4_some {W : World} {B m o : Nat} {x : Ed} (h : ∃ v, W.cell? ⟨B, o, none⟩ = some v) : ∃ v, (put4 W B m x).cell? ⟨B, o, none⟩ = some v := by
  obtain ⟨v, h⟩ := h
  obtain ⟨v, h⟩ := set_some (a := ⟨B, m * 4, none⟩) (v := .string x.1) h
  obtain ⟨v, h⟩ := set_some (a := ⟨B, m * 4 + 1, none⟩) (v := .int .i64 x.2.1) h
  obtain ⟨v, h⟩ := set_some (a := ⟨B, m * 4 + 2, none⟩) (v := .int .i64 x.2.2.1) h
  exact set_some h
theorem put4_fz {W : World} {B m o : Nat} {x : Ed} : (put4 W B m x).frozen? ⟨B, o, none⟩ = W.frozen? ⟨B, o, none⟩ := by simp [put4]
theorem grownBy_set {w W : World} {B o : Nat} {v : Value} (h : w.grownBy W (some B)) : w.grownBy (W.setCell ⟨B, o, none⟩ v) (some B) :=
  ⟨h.os, h.tape, h.output, by have := h.size; simp only [World.setCell, Array.size_modify]; exact this, fun k hk hne => by
    rw [← h.block k hk hne]
    exact Below.heap_setCell _ _ _ _ (fun e => hne (by rw [e]))⟩
theorem put4_grown {w W : World} {B m : Nat} {x : Ed} (h : w.grownBy W (some B)) : w.grownBy (put4 W B m x) (some B) := grownBy_set (grownBy_set (grownBy_set (grownBy_set h)))
theorem put4_size {W : World} {B m : Nat} {x : Ed} : (put4 W B m x).heap.size = W.heap.size := by simp [put4, World.setCell]
theorem CmW.skip {w W : World} {B n i m q : Nat} {d : List Ed} (h : CmW w W B d n i m) (h0 : 0 < i) (he : eqE (d.getD i default) (d.getD (i - 1) default) = true) : CmW w (W.drewN q) B d n (i + 1) m := by
  have e : cm d (i + 1) = cm d i := by rw [cm, if_pos ⟨h0, (eqE_iff _ _).1 he⟩]
  exact ⟨by rw [e]; exact h.len, fun j hj => by rw [e]; exact (h.pre j hj).drew q, fun j hj hn => (h.rest j (by omega) hn).drew q, fun o ho => by simpa using h.fz o ho, ⟨h.grown.os, h.grown.tape, h.grown.output, h.grown.size, h.grown.block⟩, fun o ho => by simpa using h.cells o ho, h.size⟩
theorem CmW.store {w W : World} {B n i m q : Nat} {d : List Ed} (h : CmW w W B d n i m) (h0 : 0 < i) (hm : m < i) (hn : i < n) (he : eqE (d.getD i default) (d.getD (i - 1) default) = false) : CmW w (put4 (W.drewN q) B m (d.getD i default)) B d n (i + 1) (m + 1) := by
  have e : cm d (i + 1) = cm d i ++ [d.getD i default] := by
    rw [cm, if_neg]
    rintro ⟨_, e⟩
    rw [(eqE_iff _ _).2 e] at he
    cases he
  have hc : ∀ o, o < n * 4 → ∃ v, (W.drewN q).cell? ⟨B, o, none⟩ = some v := fun o ho => by simpa using h.cells o ho
  refine ⟨by rw [e]; simp [h.len], fun j hj => ?_, fun j hj hjn => put4_ed (by omega) ((h.rest j (by omega) hjn).drew q), fun o ho => by rw [put4_fz]; simpa using h.fz o ho, put4_grown ⟨h.grown.os, h.grown.tape, h.grown.output, h.grown.size, h.grown.block⟩, fun o ho => put4_some (hc o ho), by rw [put4_size]; exact h.size⟩
  rw [e]
  rcases Nat.lt_or_ge j m with h1 | h1
  · have := put4_ed (x := d.getD i default) (m := m) (by omega) ((h.pre j h1).drew q)
    have hl : j < (cm d i).length := by rw [h.len]; exact h1
    have hg : (cm d i ++ [d.getD i default]).getD j default = (cm d i).getD j default := by simp only [List.getD_eq_getElem?_getD, List.getElem?_append_left hl]
    rw [hg]
    exact this
  · obtain rfl : j = m := by omega
    have hl : (cm d i).length = j := h.len
    have hg : (cm d i ++ [d.getD i default]).getD j default = d.getD i default := by simp only [List.getD_eq_getElem?_getD, List.getElem?_append_right (Nat.le_of_eq hl), hl, Nat.sub_self, List.getElem?_cons_zero, Option.getD_some]
    rw [hg]
    exact put4_at fun i hi => hc _ (by omega)
theorem cm_step {d : List Ed} {k : Nat} (_h1 : 0 < k) (hk : k < d.length) (h : cm d k = d.take k) (he : eqE (d.getD k default) (d.getD (k - 1) default) = false) : cm d (k + 1) = d.take (k + 1) := by
  rw [cm, if_neg, h, take_snoc d k hk]
  rintro ⟨_, e⟩
  rw [(eqE_iff _ _).2 e] at he
  cases he
theorem cm_one (d : List Ed) (h : 0 < d.length) : cm d 1 = d.take 1 := by
  cases d
  · simp at h
  · simp [cm]
structure CmPost (w W' : World) (B : Nat) (d : List Ed) (m : Nat) : Prop where
  len : (cm d d.length).length = m
  pre : ∀ j, j < m → EdAt W' B j ((cm d d.length).getD j default)
  fz : ∀ o, o < d.length * 4 → W'.frozen? ⟨B, o, none⟩ = false
  grown : w.grownBy W' (some B)
  size : W'.heap.size = w.heap.size
theorem setCells_grown {w : World} {B : Nat} : ∀ (vs : List Value) (o : Nat) (W : World), w.grownBy W (some B) → w.grownBy (W.setCells B o vs) (some B) ∧ (W.setCells B o vs).heap.size = W.heap.size
  | [], _, _, h => ⟨h, rfl⟩
  | v :: r, o, W, h => by
    have := setCells_grown r (o + 1) (W.setCell ⟨B, o, none⟩ v) (grownBy_set h)
    exact ⟨this.1, this.2.trans (by simp [World.setCell])⟩
theorem CmW.post {w W : World} {B n m : Nat} {d : List Ed} {vs : List Value} (h : CmW w W B d n n m) (hn : n = d.length) : CmPost w (W.setCells B (m * 4) vs) B d m := by
  subst hn
  have hg := setCells_grown vs (m * 4) W h.grown
  refine ⟨h.len, fun j hj => ?_, fun o ho => by rw [World.frozen?_setCells]; exact h.fz o ho, hg.1, hg.2.trans h.size⟩
  unfold EdAt
  rw [World.cell?_setCells_out _ _ _ _ _ (fun _ _ => .inl (by simp; omega)), World.cell?_setCells_out _ _ _ _ _ (fun _ _ => .inl (by simp; omega)), World.cell?_setCells_out _ _ _ _ _ (fun _ _ => .inl (by simp; omega)), World.cell?_setCells_out _ _ _ _ _ (fun _ _ => .inl (by simp; omega))]
  exact h.pre j hj
set_option maxRecDepth 100000 in
theorem clearE (w : World) (b o n c : Nat) (ty : TypeId) (hn : 0 < n) (hc : ∀ j, j < n * 4 → (w.cell? ⟨b, o + j, none⟩).isSome = true) (hf : ∀ j, j < n * 4 → w.frozen? ⟨b, o + j, none⟩ = false) :
    ∃ vs : List Value, vs.length = n * 4 ∧ (Builtin.clear_ #[22] ty #[.slice (some ⟨b, o, none⟩) n c]).run Try.prog w = .ok (.tuple #[]) (w.setCells b o vs) := by
  have hv : ∀ w, (zeroValue 33).run Try.prog w = .ok (.agg #[.string ⟨#[]⟩, .int .i64 0, .int .i64 0, .string ⟨#[]⟩]) w := by
    intro w
    rfl
  have hzl : (Builtin.zeroCells (Value.agg #[.string ⟨#[]⟩, .int .i64 0, .int .i64 0, .string ⟨#[]⟩]).cells n).toList.length = n * 4 := by
    simp [Builtin.zeroCells, Value.cells]
  have h1 : ∀ v ∈ (Builtin.zeroCells (Value.agg #[.string ⟨#[]⟩, .int .i64 0, .int .i64 0, .string ⟨#[]⟩]).cells n).toList, v.oneCell' = true := by
    intro v hv
    simp only [Builtin.zeroCells, Value.cells, Array.toList_map, List.mem_map] at hv
    obtain ⟨i, _, rfl⟩ := hv
    have : i % 4 < 4 := Nat.mod_lt _ (by omega)
    rcases (by omega : i % 4 = 0 ∨ i % 4 = 1 ∨ i % 4 = 2 ∨ i % 4 = 3) with e | e | e | e <;> simp [e] <;> rfl
  have hst := run_storeCells_cells (P := Try.prog) b o _ 0 w (by rw [hzl]; simpa using hc) (by rw [hzl]; simpa using hf) h1
  simp only [Nat.add_zero] at hst
  obtain ⟨m, rfl⟩ : ∃ m, n = m + 1 := ⟨n - 1, by omega⟩
  refine ⟨_, hzl, ?_⟩
  simp [Builtin.clear_, run_underlying Try.underlying22, hv, hst]
set_option maxRecDepth 100000 in
set_option maxHeartbeats 1000000 in
theorem compact_any (B c n : Nat) (d : List Ed) (w : World) (hn : n = d.length) (h2 : 2 ≤ n) (hc : n ≤ c) (hn1 : n ≤ 2932031007402) (hd : ∀ j, j < n → EdAt w B j (d.getD j default)) (hfz : ∀ o, o < n * 4 → w.frozen? ⟨B, o, none⟩ = false) :
    Calls Try.prog 26 #[.slice (some ⟨B, 0, none⟩) n c] w fun e w' => ∃ m, e = .returned (.slice (some ⟨B, 0, none⟩) m c) ∧ CmPost w w' B d m := by
  have hq := eqEd'
  have hq2 := neqEd'
  simp only [encE] at hq hq2
  have HD : Hid (∀ j, j < n → EdAt w B j (d.getD j default)) := hd
  have hnl : n ≤ d.length := by omega
  have HFZ : Hid (∀ o, o < n * 4 → w.frozen? ⟨B, o, none⟩ = false) := hfz
  clear hfz
  have HC1 : Hid (cm d 1 = d.take 1) := cm_one d (by omega)
  have HN : Hid (n = d.length) := hn
  clear hd hn
  go_enter Try.func26, Try.ntmps26
  go_wp2_with fail
  go_loopw [3] (fun i w' => ∃ k q : Nat, 1 ≤ k ∧ k ≤ n ∧ i = .int .i64 k ∧ w' = w.drewN q ∧ Hid (cm d k = d.take k)) (fun i _ => n - (intOf i).toNat)
  case atStart => exact ⟨1, 0, by omega, by omega, rfl, rfl, HC1⟩
  case round =>
    obtain ⟨k, q, hk1, hk, rfl, rfl, HC⟩ := hrel
    by_cases hlt : k < n
    · obtain ⟨a0, a1, a2, a3⟩ := (HD.out k hlt).drew q
      obtain ⟨b0, b1, b2, b3⟩ := (HD.out (k - 1) (by omega)).drew q
      have ew : IntKind.i64.wrap ((k : Int) - 1) = (k : Int) - 1 := IntWalk.i64_in _ (by omega)
      have ek : ((k : Int) - 1).toNat = k - 1 := by omega
      have z1 : (0 : Int) ≤ (k : Int) := by omega
      have z2 : (k : Int) < (n : Int) := by omega
      have z3 : (0 : Int) ≤ (k : Int) - 1 := by omega
      have z4 : (k : Int) - 1 < (n : Int) := by omega
      have hqq := hq (d.getD k default) (d.getD (k - 1) default)
      have HST : Hid (eqE (d.getD k default) (d.getD (k - 1) default) = false → cm d (k + 1) = d.take (k + 1)) := fun he => cm_step (by omega) (by omega) HC.out he
      have HEQ : Hid (∀ b, eqE (d.getD k default) (d.getD (k - 1) default) = b → eqE (d.getD k default) (d.getD (k - 1) default) = b) := fun b h => h
      cases hb : eqE (d.getD k default) (d.getD (k - 1) default)
      · rw [hb] at hqq
        generalize d.getD k default = x at *
        generalize d.getD (k - 1) default = y at *
        obtain ⟨p, a, b, t⟩ := x
        obtain ⟨p', a', b', t'⟩ := y
        simp only at a0 a1 a2 a3 b0 b1 b2 b3 hqq
        clear hq hq2
        generalize hwq : w.drewN q = W at *
        go_wp2_with fail
        go_quiet (fail)
        go_wp2
        go_roundw
        case rel => exact ⟨k + 1, _, by omega, by omega, by go_num, by rw [← hwq]; simp [World.drewN, Nat.add_assoc]; rfl, HST.out hb⟩
        case measure => simp [intOf]; omega
      · rw [hb] at hqq
        have HS : Hid (∀ q, CmW w (w.drewN q) B d n (k + 1) k) := fun q => CmW.start (by omega) hlt hnl HD.out HFZ.out HC.out hb
        generalize d.getD k default = x at *
        generalize d.getD (k - 1) default = y at *
        obtain ⟨p, a, b, t⟩ := x
        obtain ⟨p', a', b', t'⟩ := y
        simp only at a0 a1 a2 a3 b0 b1 b2 b3 hqq
        clear hq
        generalize hwq : w.drewN q = W at *
        go_wp2_with fail
        go_quiet (fail)
        go_wp2_with fail
        have HW : Hid (CmW w (W.drewN nq) B d n (k + 1) k) := by
          rw [← hwq]
          rw [show (w.drewN q).drewN nq = w.drewN (q + nq) by simp [World.drewN, Nat.add_assoc]]
          exact HS.out (q + nq)
        clear hb HS HEQ HST hqq a0 a1 a2 a3 b0 b1 b2 b3
        go_loopw [3, 5] (fun a b w' => ∃ k2 m : Nat, 1 ≤ k2 ∧ k2 ≤ n - k ∧ m < k + k2 ∧ a = .int .i64 m ∧ b = .int .i64 k2 ∧ Hid (CmW w w' B d n (k + k2) m)) (fun _ b _ => n - (intOf b).toNat)
        case atStart => exact ⟨1, k, by omega, by omega, by omega, rfl, rfl, HW⟩
        case round =>
          obtain ⟨k2, m, hk2, hk3, hm, rfl, rfl, HW2⟩ := hrel
          clear HW
          by_cases hlt2 : k2 < n - k
          · obtain ⟨a0, a1, a2, a3⟩ := HW2.out.rest (k + k2) (by omega) (by omega)
            obtain ⟨b0, b1, b2, b3⟩ := HW2.out.rest (k + (k2 - 1)) (by omega) (by omega)
            rw [Nat.add_mul] at a0 a1 a2 a3 b0 b1 b2 b3
            have ew2 : IntKind.i64.wrap ((k2 : Int) - 1) = (k2 : Int) - 1 := IntWalk.i64_in _ (by omega)
            have ek2 : ((k2 : Int) - 1).toNat = k2 - 1 := by omega
            have y1 : (0 : Int) ≤ (k2 : Int) := by omega
            have y2 : (k2 : Int) < ((n - k : Nat) : Int) := by omega
            have y3 : (0 : Int) ≤ (k2 : Int) - 1 := by omega
            have y4 : (k2 : Int) - 1 < ((n - k : Nat) : Int) := by omega
            have y5 : (0 : Int) ≤ (m : Int) := by omega
            have y6 : (m : Int) < (n : Int) := by omega
            obtain ⟨v0, e0⟩ := HW2.out.cells (m * 4) (by omega)
            obtain ⟨v1, e1⟩ := HW2.out.cells (m * 4 + 1) (by omega)
            obtain ⟨v2, e2⟩ := HW2.out.cells (m * 4 + 2) (by omega)
            obtain ⟨v3, e3⟩ := HW2.out.cells (m * 4 + 3) (by omega)
            have f0 := HW2.out.fz (m * 4) (by omega)
            have f1 := HW2.out.fz (m * 4 + 1) (by omega)
            have f2 := HW2.out.fz (m * 4 + 2) (by omega)
            have f3 := HW2.out.fz (m * 4 + 3) (by omega)
            have hqq := hq2 (d.getD (k + k2) default) (d.getD (k + (k2 - 1)) default)
            cases hb : eqE (d.getD (k + k2) default) (d.getD (k + (k2 - 1)) default)
            · rw [hb] at hqq
              have HS : Hid (∀ q, CmW w (put4 (wr.drewN q) B m (d.getD (k + k2) default)) B d n (k + k2 + 1) (m + 1)) := fun q => CmW.store HW2.out (by omega) (by omega) (by omega) (by rw [show k + k2 - 1 = k + (k2 - 1) by omega]; exact hb)
              generalize d.getD (k + k2) default = x at *
              generalize d.getD (k + (k2 - 1)) default = y at *
              obtain ⟨p, a, b, t⟩ := x
              obtain ⟨p', a', b', t'⟩ := y
              simp only at a0 a1 a2 a3 b0 b1 b2 b3 hqq
              go_wp2_with fail
              go_quiet (fail)
              go_wp2_with fail
              go_roundw
              case rel => exact ⟨k2 + 1, m + 1, by omega, by omega, by omega, by go_num, by go_num, HS.out nq⟩
              case measure => simp [intOf]; omega
            · rw [hb] at hqq
              have HS : Hid (∀ q, CmW w (wr.drewN q) B d n (k + k2 + 1) m) := fun q => CmW.skip HW2.out (by omega) (by rw [show k + k2 - 1 = k + (k2 - 1) by omega]; exact hb)
              generalize d.getD (k + k2) default = x at *
              generalize d.getD (k + (k2 - 1)) default = y at *
              obtain ⟨p, a, b, t⟩ := x
              obtain ⟨p', a', b', t'⟩ := y
              simp only at a0 a1 a2 a3 b0 b1 b2 b3 hqq
              go_wp2_with fail
              go_quiet (fail)
              go_wp2_with fail
              go_roundw
              case rel => exact ⟨k2 + 1, m, by omega, by omega, by omega, rfl, by go_num, HS.out nq⟩
              case measure => simp [intOf]; omega
          · obtain rfl : k2 = n - k := by omega
            rw [show k + (n - k) = n by omega] at HW2
            obtain ⟨vs, hvl, hcl⟩ := clearE wr B (m * 4) (n - m) (c - m) 0 (by omega) (fun j hj => by obtain ⟨v, h⟩ := HW2.out.cells (m * 4 + j) (by omega); rw [h]; rfl) (fun j hj => HW2.out.fz _ (by omega))
            have HP : Hid (CmPost w (wr.setCells B (m * 4) vs) B d m) := HW2.out.post HN.out
            have y5 : (0 : Int) ≤ (m : Int) := by omega
            have y6 : (m : Int) < (n : Int) := by omega
            have y7 : (m : Int) ≤ (c : Int) := by omega
            clear HW2
            go_wp2_with fail
            go_ret
            exact ⟨m, rfl, HP.out⟩
    · obtain rfl : k = n := by omega
      go_wp2
      go_ret
      have hl := HN.out
      have e : cm d d.length = d := by rw [← hl, HC.out]; exact List.take_of_length_le (by omega)
      refine ⟨k, rfl, by rw [e]; exact hl.symm, fun j hj => ?_, fun o ho => by simpa using HFZ.out o (by omega), grownBy_drew w q _, rfl⟩
      rw [e]
      exact (HD.out j hj).drew q
end Go.Proofs.Ytbgkdofjndocfaa
