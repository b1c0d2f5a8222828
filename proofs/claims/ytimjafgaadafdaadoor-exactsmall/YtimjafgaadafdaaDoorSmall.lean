/-
  ExactSmall's law, walked: any int and any number.
-/
import Derived.Test.YtimjafgaadafdaaDoorRefH
import Derived.Test.YtimjafgaadafdaaDoorRefT
namespace Go.Proofs.YtimjafgaadafdaaDoor
open Go.RowKit
attribute [local go_sem ↓] Go.wp_at_zero Go.wp_at_succ
theorem decT_same {s : Bool} {N : Nat} {t u : ByteArray} (h1 : decT s N t) (h2 : decT s N u) : t = u := by
  obtain ⟨D, fd, hd, hu⟩ := h2
  rw [decT_uniq h1 fd hd, hu]
theorem sm_of (v : Int) (h0 : -9223372036854775808 ≤ v) (h1 : v ≤ 9223372036854775807) : smV (sgB (decide (v < 0)) v.natAbs) v.natAbs = v ∧ smB (sgB (decide (v < 0)) v.natAbs) v.natAbs = true := by
  have hb : smB (decide (v < 0)) v.natAbs = true := by
    unfold smB
    rw [decide_eq_true_iff]
    by_cases h : v < 0 <;> simp [h] <;> omega
  rw [smV_sg, smB_sg]
  refine ⟨?_, hb⟩
  unfold smV
  rw [hb]
  by_cases h : v < 0 <;> simp [h] <;> omega
theorem int_in {v : Int} (h : (Lit.int .i64 v).wf = true) : -9223372036854775808 ≤ v ∧ v ≤ 9223372036854775807 := by
  simp only [Lit.wf, Bool.and_eq_true, decide_eq_true_eq] at h
  have e1 : IntKind.i64.min = -9223372036854775808 := by decide
  have e2 : IntKind.i64.max = 9223372036854775807 := by decide
  rw [e1, e2] at h
  exact h
set_option maxHeartbeats 2000000 in
theorem smalls_out (v : Int) (s1 : Bool) (a1 : Option Addr) (n1 c1 : Nat) (l1 : List Nat) (w : World) (hv : (Lit.int .i64 v).wf = true) (h1 : Sl w a1 n1 c1 l1) (g1 : a1 = none → c1 = 0) (hc : 40 < n1) :
    Calls Tryd.prog 7 #[.int .i64 v, .agg #[.bool s1, .slice a1 n1 c1]] w fun e w' => e = .returned (.bool true) ∧ Below w.heap.size w w' := by
  have q1 := h1.mx
  have r1 := h1.lec
  obtain ⟨hv0, hv1⟩ := int_in hv
  have Z1 : Hid (a1 = none → c1 = 0) := g1
  have H1 : Hid (Sl w a1 n1 c1 l1) := h1
  clear h1 g1 hv
  have HB : Hid (Below w.heap.size w w) := Below.refl _ _
  go_enter Tryd.func7, Tryd.ntmps7
  go_wp2_with fail
  generalize hW : (World.alloc _ _) = W1
  obtain ⟨x1, hb, hz⟩ := boxes1 w (.bool s1) (.slice a1 n1 c1) 24 hW
  clear hW hz
  have H1 : Hid (Sl W1 a1 n1 c1 l1) := H1.out.below hb (Nat.le_refl _)
  have HB : Hid (Below w.heap.size w W1) := HB.out.trans (hb.mono HB.out.size)
  clear hb
  have X1 : Hid (Box W1 (w.heap.size) (.bool s1) (.slice a1 n1 c1)) := x1
  clear x1
  have pX10 := X1.out.z0
  have pX11 := X1.out.z1
  have tX1 := X1.out.lt
  refine (in_any s1 a1 n1 c1 _ (by omega)).mono ?_
  rintro e W2 ⟨rfl, hb⟩
  rw [decide_eq_false (by omega)]
  clear pX10 pX11 tX1
  have H1 : Hid (Sl W2 a1 n1 c1 l1) := H1.out.below hb (Nat.le_refl _)
  have X1 : Hid (Box W2 (w.heap.size) (.bool s1) (.slice a1 n1 c1)) := X1.out.below hb X1.out.lt
  have HB : Hid (Below w.heap.size w W2) := HB.out.trans (hb.mono HB.out.size)
  clear hb
  have pX10 := X1.out.z0
  have pX11 := X1.out.z1
  have tX1 := X1.out.lt
  go_wp2_with fail
  refine (awake_any _).mono ?_
  rintro e W3 ⟨rfl, hb⟩
  clear pX10 pX11 tX1
  have H1 : Hid (Sl W3 a1 n1 c1 l1) := H1.out.below hb (Nat.le_refl _)
  have X1 : Hid (Box W3 (w.heap.size) (.bool s1) (.slice a1 n1 c1)) := X1.out.below hb X1.out.lt
  have HB : Hid (Below w.heap.size w W3) := HB.out.trans (hb.mono HB.out.size)
  clear hb
  have pX10 := X1.out.z0
  have pX11 := X1.out.z1
  have tX1 := X1.out.lt
  go_wp2_with fail
  go_ret
  exact ⟨rfl, HB.out⟩
set_option maxHeartbeats 4000000 in
theorem smalls_in (v : Int) (s1 : Bool) (a1 : Option Addr) (n1 c1 : Nat) (l1 : List Nat) (w : World) (hv : (Lit.int .i64 v).wf = true) (h1 : Sl w a1 n1 c1 l1) (g1 : a1 = none → c1 = 0) (m1 : n1 ≤ 40) :
    Calls Tryd.prog 7 #[.int .i64 v, .agg #[.bool s1, .slice a1 n1 c1]] w fun e w' => e = .returned (.bool true) ∧ Below w.heap.size w w' := by
  have q1 := h1.mx
  have r1 := h1.lec
  obtain ⟨hv0, hv1⟩ := int_in hv
  have Z1 : Hid (a1 = none → c1 = 0) := g1
  have H1 : Hid (Sl w a1 n1 c1 l1) := h1
  clear h1 g1 hv
  have HB : Hid (Below w.heap.size w w) := Below.refl _ _
  obtain ⟨y, YV⟩ : ∃ y, Hid (smV s1 (vl 4294967296 l1) = y) := ⟨_, rfl⟩
  obtain ⟨f, FV⟩ : ∃ f, Hid (smB s1 (vl 4294967296 l1) = f) := ⟨_, rfl⟩
  obtain ⟨sv, SV⟩ : ∃ sv, Hid (sgB (decide (v < 0)) v.natAbs = sv) := ⟨_, rfl⟩
  go_enter Tryd.func7, Tryd.ntmps7
  go_wp2_with fail
  generalize hW : (World.alloc _ _) = W1
  obtain ⟨x1, hb, hz⟩ := boxes1 w (.bool s1) (.slice a1 n1 c1) 24 hW
  clear hW hz
  have H1 : Hid (Sl W1 a1 n1 c1 l1) := H1.out.below hb (Nat.le_refl _)
  have HB : Hid (Below w.heap.size w W1) := HB.out.trans (hb.mono HB.out.size)
  clear hb
  have X1 : Hid (Box W1 (w.heap.size) (.bool s1) (.slice a1 n1 c1)) := x1
  clear x1
  have pX10 := X1.out.z0
  have pX11 := X1.out.z1
  have tX1 := X1.out.lt
  refine (in_any s1 a1 n1 c1 _ (by omega)).mono ?_
  rintro e W2 ⟨rfl, hb⟩
  rw [decide_eq_true (by omega)]
  clear pX10 pX11 tX1
  have H1 : Hid (Sl W2 a1 n1 c1 l1) := H1.out.below hb (Nat.le_refl _)
  have X1 : Hid (Box W2 (w.heap.size) (.bool s1) (.slice a1 n1 c1)) := X1.out.below hb X1.out.lt
  have HB : Hid (Below w.heap.size w W2) := HB.out.trans (hb.mono HB.out.size)
  clear hb
  have pX10 := X1.out.z0
  have pX11 := X1.out.z1
  have tX1 := X1.out.lt
  go_wp2_with fail
  refine (of_any v _ hv0 hv1).mono ?_
  rintro e W3 ⟨xo, rfl, ho, hb⟩
  rw [SV.out] at ho
  clear pX10 pX11 tX1
  have H1 : Hid (Sl W3 a1 n1 c1 l1) := H1.out.below hb (Nat.le_refl _)
  have X1 : Hid (Box W3 (w.heap.size) (.bool s1) (.slice a1 n1 c1)) := X1.out.below hb X1.out.lt
  have HB : Hid (Below w.heap.size w W3) := HB.out.trans (hb.mono HB.out.size)
  clear hb
  have pX10 := X1.out.z0
  have pX11 := X1.out.z1
  have tX1 := X1.out.lt
  have Io : Hid (IntR W3 W2.heap.size xo sv v.natAbs) := ho
  clear ho
  obtain ⟨ao, no, co, lo, rfl, hs, hv2, mo⟩ := Io.out.open (small_lt (by omega))
  have Ho : Hid (Sl W3 ao no co lo) := hs
  have EO : Hid (vl 4294967296 lo = v.natAbs) := hv2
  clear hs hv2
  go_wp2_with fail
  refine (small_any sv ao no co lo _ Ho.out).mono ?_
  rintro e W4 ⟨rfl, hb⟩
  rw [EO.out, ← SV.out, (sm_of v hv0 hv1).1, (sm_of v hv0 hv1).2]
  clear pX10 pX11 tX1
  have H1 : Hid (Sl W4 a1 n1 c1 l1) := H1.out.below hb (Nat.le_refl _)
  have X1 : Hid (Box W4 (w.heap.size) (.bool s1) (.slice a1 n1 c1)) := X1.out.below hb X1.out.lt
  have Io : Hid (IntR W4 W2.heap.size (.agg #[.bool sv, .slice ao no co]) sv v.natAbs) := Io.out.below hb (Nat.le_refl _)
  have Ho : Hid (Sl W4 ao no co lo) := Ho.out.below hb (Nat.le_refl _)
  have HB : Hid (Below w.heap.size w W4) := HB.out.trans (hb.mono HB.out.size)
  clear hb
  have pX10 := X1.out.z0
  have pX11 := X1.out.z1
  have tX1 := X1.out.lt
  go_wp2_with fail
  refine (small_any s1 a1 n1 c1 l1 _ H1.out).mono ?_
  rintro e W5 ⟨rfl, hb⟩
  rw [YV.out, FV.out]
  clear pX10 pX11 tX1
  have H1 : Hid (Sl W5 a1 n1 c1 l1) := H1.out.below hb (Nat.le_refl _)
  have X1 : Hid (Box W5 (w.heap.size) (.bool s1) (.slice a1 n1 c1)) := X1.out.below hb X1.out.lt
  have Io : Hid (IntR W5 W2.heap.size (.agg #[.bool sv, .slice ao no co]) sv v.natAbs) := Io.out.below hb (Nat.le_refl _)
  have Ho : Hid (Sl W5 ao no co lo) := Ho.out.below hb (Nat.le_refl _)
  have HB : Hid (Below w.heap.size w W5) := HB.out.trans (hb.mono HB.out.size)
  clear hb
  have pX10 := X1.out.z0
  have pX11 := X1.out.z1
  have tX1 := X1.out.lt
  go_wp2_with fail
  refine (rsmall_any s1 a1 n1 c1 l1 _ H1.out Z1.out (by omega)).mono ?_
  rintro e W6 ⟨rfl, hb⟩
  rw [YV.out, FV.out]
  clear pX10 pX11 tX1
  have H1 : Hid (Sl W6 a1 n1 c1 l1) := H1.out.below hb (Nat.le_refl _)
  have X1 : Hid (Box W6 (w.heap.size) (.bool s1) (.slice a1 n1 c1)) := X1.out.below hb X1.out.lt
  have Io : Hid (IntR W6 W2.heap.size (.agg #[.bool sv, .slice ao no co]) sv v.natAbs) := Io.out.below hb (Nat.le_refl _)
  have Ho : Hid (Sl W6 ao no co lo) := Ho.out.below hb (Nat.le_refl _)
  have HB : Hid (Below w.heap.size w W6) := HB.out.trans (hb.mono HB.out.size)
  clear hb
  have pX10 := X1.out.z0
  have pX11 := X1.out.z1
  have tX1 := X1.out.lt
  go_wp2_with fail
  have hb : Below W6.heap.size W6 W6.drew := (Below.refl _ _).drew
  clear pX10 pX11 tX1
  have H1 : Hid (Sl W6.drew a1 n1 c1 l1) := H1.out.below hb (Nat.le_refl _)
  have X1 : Hid (Box W6.drew (w.heap.size) (.bool s1) (.slice a1 n1 c1)) := X1.out.below hb X1.out.lt
  have Io : Hid (IntR W6.drew W2.heap.size (.agg #[.bool sv, .slice ao no co]) sv v.natAbs) := Io.out.below hb (Nat.le_refl _)
  have Ho : Hid (Sl W6.drew ao no co lo) := Ho.out.below hb (Nat.le_refl _)
  have HB : Hid (Below w.heap.size w W6.drew) := HB.out.trans (hb.mono HB.out.size)
  clear hb
  have kS : W6.drew.cell? ⟨w.heap.size, 0, none⟩ = some (.bool s1) ∧ W6.drew.cell? ⟨w.heap.size, 1, none⟩ = some (.slice a1 n1 c1) := ⟨X1.out.z0, X1.out.z1⟩
  refine wp_region_held_drew (S := fun w' => w'.cell? ⟨w.heap.size, 0, none⟩ = some (.bool s1) ∧ w'.cell? ⟨w.heap.size, 1, none⟩ = some (.slice a1 n1 c1)) (by kernel_rfl) (by exact kS) (fun hHeld => ?_)
  clear hHeld
  refine wpAnyH_take (i := 0) (oi := { dst := some 31, op := Op.move (Operand.tmp 5), type := 3, pos := "law.go:89", after := #[], guard := none }) (v := ?_) rfl (by kernel_rfl) (by kernel_rfl) (by kernel_rfl) (fun _ _ _ h => h) (Or.inl ⟨by rfl, ?_⟩) (by exact kS) ?_
  rotate_left
  · intro w hSw; (try dsimp only at hSw); (go_simp <;> with_reducible rfl)
  try simp only [Act.put, List.setIfInBounds_toArray, List.set_cons_zero, List.set_cons_succ]
  refine wpAnyH_take (i := 1) (oi := { dst := some 32, op := Op.move (Operand.tmp 0), type := 3, pos := "law.go:89", after := #[], guard := none }) (v := ?_) rfl (by kernel_rfl) (by kernel_rfl) (by kernel_rfl) (fun _ _ _ h => h) (Or.inl ⟨by rfl, ?_⟩) (by exact kS) ?_
  rotate_left
  · intro w hSw; (try dsimp only at hSw); (go_simp <;> with_reducible rfl)
  try simp only [Act.put, List.setIfInBounds_toArray, List.set_cons_zero, List.set_cons_succ]
  refine wpAnyH_take (i := 2) (oi := { dst := some 33, op := Op.binOp BinOp.eql 3 (Operand.tmp 31) (Operand.tmp 32) 3, type := 4, pos := "law.go:89", after := #[{ on := 0, ground := Ground.data }, { on := 1, ground := Ground.data }], guard := none }) (v := ?_) rfl (by kernel_rfl) (by kernel_rfl) (by kernel_rfl) (fun _ _ _ h => h) (Or.inl ⟨by rfl, ?_⟩) (by exact kS) ?_
  rotate_left
  · intro w hSw; (try dsimp only at hSw); (go_simp <;> with_reducible rfl)
  try simp only [Act.put, List.setIfInBounds_toArray, List.set_cons_zero, List.set_cons_succ]
  refine wpAnyH_take (i := 3) (oi := { dst := some 34, op := Op.move (Operand.tmp 33), type := 4, pos := "law.go:89", after := #[{ on := 2, ground := Ground.data }], guard := none }) (v := ?_) rfl (by kernel_rfl) (by kernel_rfl) (by kernel_rfl) (fun _ _ _ h => h) (Or.inl ⟨by rfl, ?_⟩) (by exact kS) ?_
  rotate_left
  · intro w hSw; (try dsimp only at hSw); (go_simp <;> with_reducible rfl)
  try simp only [Act.put, List.setIfInBounds_toArray, List.set_cons_zero, List.set_cons_succ]
  refine wpAnyH_take (i := 4) (oi := { dst := some 35, op := Op.move (Operand.tmp 6), type := 4, pos := "law.go:89", after := #[{ on := 3, ground := Ground.guard }], guard := some (3, true) }) (v := ?_) rfl (by kernel_rfl) (by kernel_rfl) (by kernel_rfl) (fun _ _ _ h => h) (Or.inl ⟨by rfl, ?_⟩) (by exact kS) ?_
  rotate_left
  · intro w hSw; (try dsimp only at hSw); (go_simp <;> with_reducible rfl)
  try simp only [Act.put, List.setIfInBounds_toArray, List.set_cons_zero, List.set_cons_succ]
  refine wpAnyH_take (i := 5) (oi := { dst := some 36, op := Op.pick (Operand.tmp 34) (Operand.tmp 35) (Operand.const (Value.bool false)), type := 4, pos := "law.go:89", after := #[{ on := 3, ground := Ground.data }, { on := 4, ground := Ground.data }], guard := none }) (v := ?_) rfl (by kernel_rfl) (by kernel_rfl) (by kernel_rfl) (fun _ _ _ h => h) (Or.inl ⟨by rfl, ?_⟩) (by exact kS) ?_
  rotate_left
  · intro w hSw; (try dsimp only at hSw); (go_simp <;> with_reducible rfl)
  try simp only [Act.put, List.setIfInBounds_toArray, List.set_cons_zero, List.set_cons_succ]
  refine wpAnyH_take (i := 6) (oi := { dst := some 37, op := Op.move (Operand.tmp 36), type := 4, pos := "law.go:89", after := #[{ on := 5, ground := Ground.data }, { on := 3, ground := Ground.chain }], guard := none }) (v := ?_) rfl (by kernel_rfl) (by kernel_rfl) (by kernel_rfl) (fun _ _ _ h => h) (Or.inl ⟨by rfl, ?_⟩) (by exact kS) ?_
  rotate_left
  · intro w hSw; (try dsimp only at hSw); (go_simp <;> with_reducible rfl)
  try simp only [Act.put, List.setIfInBounds_toArray, List.set_cons_zero, List.set_cons_succ]
  refine wpAnyH_take (i := 7) (oi := { dst := some 38, op := Op.move (Operand.tmp 7), type := 3, pos := "law.go:89", after := #[{ on := 6, ground := Ground.guard }], guard := some (6, true) }) (v := ?_) rfl (by kernel_rfl) (by kernel_rfl) (by kernel_rfl) (fun _ _ _ h => h) (Or.inl ⟨by rfl, ?_⟩) (by exact kS) ?_
  rotate_left
  · intro w hSw; (try dsimp only at hSw); (go_simp <;> with_reducible rfl)
  try simp only [Act.put, List.setIfInBounds_toArray, List.set_cons_zero, List.set_cons_succ]
  refine wpAnyH_take (i := 8) (oi := { dst := some 39, op := Op.move (Operand.tmp 9), type := 3, pos := "law.go:89", after := #[{ on := 6, ground := Ground.guard }], guard := some (6, true) }) (v := ?_) rfl (by kernel_rfl) (by kernel_rfl) (by kernel_rfl) (fun _ _ _ h => h) (Or.inl ⟨by rfl, ?_⟩) (by exact kS) ?_
  rotate_left
  · intro w hSw; (try dsimp only at hSw); (go_simp <;> with_reducible rfl)
  try simp only [Act.put, List.setIfInBounds_toArray, List.set_cons_zero, List.set_cons_succ]
  refine wpAnyH_take (i := 9) (oi := { dst := some 40, op := Op.binOp BinOp.eql 3 (Operand.tmp 38) (Operand.tmp 39) 3, type := 4, pos := "law.go:89", after := #[{ on := 7, ground := Ground.data }, { on := 8, ground := Ground.data }, { on := 6, ground := Ground.guard }], guard := some (6, true) }) (v := ?_) rfl (by kernel_rfl) (by kernel_rfl) (by kernel_rfl) (fun _ _ _ h => h) (Or.inl ⟨by rfl, ?_⟩) (by exact kS) ?_
  rotate_left
  · intro w hSw; (try dsimp only at hSw); (go_simp <;> with_reducible rfl)
  try simp only [Act.put, List.setIfInBounds_toArray, List.set_cons_zero, List.set_cons_succ]
  refine wpAnyH_take (i := 10) (oi := { dst := some 41, op := Op.pick (Operand.tmp 37) (Operand.tmp 40) (Operand.const (Value.bool false)), type := 4, pos := "law.go:89", after := #[{ on := 6, ground := Ground.data }, { on := 9, ground := Ground.data }], guard := none }) (v := ?_) rfl (by kernel_rfl) (by kernel_rfl) (by kernel_rfl) (fun _ _ _ h => h) (Or.inl ⟨by rfl, ?_⟩) (by exact kS) ?_
  rotate_left
  · intro w hSw; (try dsimp only at hSw); (go_simp <;> with_reducible rfl)
  try simp only [Act.put, List.setIfInBounds_toArray, List.set_cons_zero, List.set_cons_succ]
  refine wpAnyH_take (i := 11) (oi := { dst := some 42, op := Op.move (Operand.tmp 41), type := 4, pos := "law.go:89", after := #[{ on := 10, ground := Ground.data }, { on := 6, ground := Ground.chain }], guard := none }) (v := ?_) rfl (by kernel_rfl) (by kernel_rfl) (by kernel_rfl) (fun _ _ _ h => h) (Or.inl ⟨by rfl, ?_⟩) (by exact kS) ?_
  rotate_left
  · intro w hSw; (try dsimp only at hSw); (go_simp <;> with_reducible rfl)
  try simp only [Act.put, List.setIfInBounds_toArray, List.set_cons_zero, List.set_cons_succ]
  refine wpAnyH_take (i := 12) (oi := { dst := some 43, op := Op.move (Operand.tmp 8), type := 4, pos := "law.go:89", after := #[{ on := 11, ground := Ground.guard }], guard := some (11, true) }) (v := ?_) rfl (by kernel_rfl) (by kernel_rfl) (by kernel_rfl) (fun _ _ _ h => h) (Or.inl ⟨by rfl, ?_⟩) (by exact kS) ?_
  rotate_left
  · intro w hSw; (try dsimp only at hSw); (go_simp <;> with_reducible rfl)
  try simp only [Act.put, List.setIfInBounds_toArray, List.set_cons_zero, List.set_cons_succ]
  refine wpAnyH_take (i := 13) (oi := { dst := some 44, op := Op.move (Operand.tmp 10), type := 4, pos := "law.go:89", after := #[{ on := 11, ground := Ground.guard }], guard := some (11, true) }) (v := ?_) rfl (by kernel_rfl) (by kernel_rfl) (by kernel_rfl) (fun _ _ _ h => h) (Or.inl ⟨by rfl, ?_⟩) (by exact kS) ?_
  rotate_left
  · intro w hSw; (try dsimp only at hSw); (go_simp <;> with_reducible rfl)
  try simp only [Act.put, List.setIfInBounds_toArray, List.set_cons_zero, List.set_cons_succ]
  refine wpAnyH_take (i := 14) (oi := { dst := some 45, op := Op.binOp BinOp.eql 4 (Operand.tmp 43) (Operand.tmp 44) 4, type := 4, pos := "law.go:89", after := #[{ on := 12, ground := Ground.data }, { on := 13, ground := Ground.data }, { on := 11, ground := Ground.guard }], guard := some (11, true) }) (v := ?_) rfl (by kernel_rfl) (by kernel_rfl) (by kernel_rfl) (fun _ _ _ h => h) (Or.inl ⟨by rfl, ?_⟩) (by exact kS) ?_
  rotate_left
  · intro w hSw; (try dsimp only at hSw); (go_simp <;> with_reducible rfl)
  try simp only [Act.put, List.setIfInBounds_toArray, List.set_cons_zero, List.set_cons_succ]
  refine wpAnyH_take (i := 15) (oi := { dst := some 46, op := Op.pick (Operand.tmp 42) (Operand.tmp 45) (Operand.const (Value.bool false)), type := 4, pos := "law.go:89", after := #[{ on := 11, ground := Ground.data }, { on := 14, ground := Ground.data }], guard := none }) (v := ?_) rfl (by kernel_rfl) (by kernel_rfl) (by kernel_rfl) (fun _ _ _ h => h) (Or.inl ⟨by rfl, ?_⟩) (by exact kS) ?_
  rotate_left
  · intro w hSw; (try dsimp only at hSw); (go_simp <;> with_reducible rfl)
  try simp only [Act.put, List.setIfInBounds_toArray, List.set_cons_zero, List.set_cons_succ]
  refine wpAnyH_take (i := 16) (oi := { dst := some 47, op := Op.move (Operand.tmp 46), type := 4, pos := "law.go:89", after := #[{ on := 15, ground := Ground.data }, { on := 11, ground := Ground.chain }], guard := none }) (v := ?_) rfl (by kernel_rfl) (by kernel_rfl) (by kernel_rfl) (fun _ _ _ h => h) (Or.inl ⟨by rfl, ?_⟩) (by exact kS) ?_
  rotate_left
  · intro w hSw; (try dsimp only at hSw); (go_simp <;> with_reducible rfl)
  try simp only [Act.put, List.setIfInBounds_toArray, List.set_cons_zero, List.set_cons_succ]
  refine wpAnyH_take (i := 17) (oi := { dst := some 48, op := Op.move (Operand.tmp 0), type := 3, pos := "law.go:89", after := #[{ on := 16, ground := Ground.guard }], guard := some (16, true) }) (v := ?_) rfl (by kernel_rfl) (by kernel_rfl) (by kernel_rfl) (fun _ _ _ h => h) (Or.inl ⟨by rfl, ?_⟩) (by exact kS) ?_
  rotate_left
  · intro w hSw; (try dsimp only at hSw); (go_simp <;> with_reducible rfl)
  try simp only [Act.put, List.setIfInBounds_toArray, List.set_cons_zero, List.set_cons_succ]
  refine wpAnyH_take (i := 19) (oi := { dst := some 50, op := Op.move (Operand.tmp 0), type := 3, pos := "law.go:89", after := #[{ on := 16, ground := Ground.guard }], guard := some (16, true) }) (v := ?_) rfl (by kernel_rfl) (by kernel_rfl) (by kernel_rfl) (fun _ _ _ h => h) (Or.inl ⟨by rfl, ?_⟩) (by exact kS) ?_
  rotate_left
  · intro w hSw; (try dsimp only at hSw); (go_simp <;> with_reducible rfl)
  try simp only [Act.put, List.setIfInBounds_toArray, List.set_cons_zero, List.set_cons_succ]
  refine wpAnyH_ready (rs := [18]) (by kernel_rfl) (by simp) ?_
  refine AllReadyH.cons (o := { dst := some 49, op := Op.call { callee := Callee.value (Operand.func 30), args := #[Operand.tmp 48], argTypes := #[3] }, type := 24, pos := "law.go:89", after := #[{ on := 17, ground := Ground.data }, { on := 16, ground := Ground.chain }, { on := 16, ground := Ground.guard }], guard := some (16, true) }) rfl (fun K hK => ?_) AllReadyH.nil
  go_simp
  refine (of_any v _ hv0 hv1).mono ?_
  rintro e W7 ⟨xa, rfl, hi, hb⟩
  have H1 : Hid (Sl W7 a1 n1 c1 l1) := H1.out.below hb (Nat.le_refl _)
  have X1 : Hid (Box W7 (w.heap.size) (.bool s1) (.slice a1 n1 c1)) := X1.out.below hb X1.out.lt
  have Io : Hid (IntR W7 W2.heap.size (.agg #[.bool sv, .slice ao no co]) sv v.natAbs) := Io.out.below hb (Nat.le_refl _)
  have Ho : Hid (Sl W7 ao no co lo) := Ho.out.below hb (Nat.le_refl _)
  have HB : Hid (Below w.heap.size w W7) := HB.out.trans (hb.mono HB.out.size)
  clear hb
  have IA : Hid (IntR W7 _ xa (sgB (decide (v < 0)) v.natAbs) v.natAbs) := hi
  clear hi
  clear kS
  have kS : W7.cell? ⟨w.heap.size, 0, none⟩ = some (.bool s1) ∧ W7.cell? ⟨w.heap.size, 1, none⟩ = some (.slice a1 n1 c1) := ⟨X1.out.z0, X1.out.z1⟩
  go_wp2_with fail
  refine hK.out _ _ (by exact kS) (fun hHeld => ?_)
  clear hK K hHeld
  try simp only [Act.put, List.setIfInBounds_toArray, List.set_cons_zero, List.set_cons_succ]
  refine wpAnyH_ready (rs := [20]) (by kernel_rfl) (by simp) ?_
  refine AllReadyH.cons (o := { dst := some 51, op := Op.call { callee := Callee.value (Operand.func 32), args := #[Operand.tmp 50], argTypes := #[3] }, type := 24, pos := "law.go:89", after := #[{ on := 19, ground := Ground.data }, { on := 18, ground := Ground.chain }, { on := 16, ground := Ground.guard }], guard := some (16, true) }) rfl (fun K hK => ?_) AllReadyH.nil
  go_simp
  refine (rof_any v _ hv0 hv1).mono ?_
  rintro e W8 ⟨xb, rfl, hi, hb⟩
  have H1 : Hid (Sl W8 a1 n1 c1 l1) := H1.out.below hb (Nat.le_refl _)
  have X1 : Hid (Box W8 (w.heap.size) (.bool s1) (.slice a1 n1 c1)) := X1.out.below hb X1.out.lt
  have Io : Hid (IntR W8 W2.heap.size (.agg #[.bool sv, .slice ao no co]) sv v.natAbs) := Io.out.below hb (Nat.le_refl _)
  have Ho : Hid (Sl W8 ao no co lo) := Ho.out.below hb (Nat.le_refl _)
  have IA : Hid (IntR W8 _ xa (sgB (decide (v < 0)) v.natAbs) v.natAbs) := IA.out.below hb (Nat.le_refl _)
  have HB : Hid (Below w.heap.size w W8) := HB.out.trans (hb.mono HB.out.size)
  clear hb
  have IB : Hid (IntR W8 _ xb (sgB (decide (v < 0)) v.natAbs) v.natAbs) := hi
  clear hi
  clear kS
  have kS : W8.cell? ⟨w.heap.size, 0, none⟩ = some (.bool s1) ∧ W8.cell? ⟨w.heap.size, 1, none⟩ = some (.slice a1 n1 c1) := ⟨X1.out.z0, X1.out.z1⟩
  go_wp2_with fail
  refine hK.out _ _ (by exact kS) (fun hHeld => ?_)
  clear hK K hHeld
  try simp only [Act.put, List.setIfInBounds_toArray, List.set_cons_zero, List.set_cons_succ]
  refine wpAnyH_ready (rs := [21]) (by kernel_rfl) (by simp) ?_
  refine AllReadyH.cons (o := { dst := some 52, op := Op.call { callee := Callee.value (Operand.func 16), args := #[Operand.tmp 49, Operand.tmp 51], argTypes := #[24, 24] }, type := 4, pos := "law.go:89", after := #[{ on := 18, ground := Ground.data }, { on := 20, ground := Ground.data }, { on := 20, ground := Ground.chain }, { on := 16, ground := Ground.guard }], guard := some (16, true) }) rfl (fun K hK => ?_) AllReadyH.nil
  go_simp
  refine (whole_any IA.out IB.out).mono ?_
  rintro e W9 ⟨rfl, hb⟩
  have H1 : Hid (Sl W9 a1 n1 c1 l1) := H1.out.below hb (Nat.le_refl _)
  have X1 : Hid (Box W9 (w.heap.size) (.bool s1) (.slice a1 n1 c1)) := X1.out.below hb X1.out.lt
  have Io : Hid (IntR W9 W2.heap.size (.agg #[.bool sv, .slice ao no co]) sv v.natAbs) := Io.out.below hb (Nat.le_refl _)
  have Ho : Hid (Sl W9 ao no co lo) := Ho.out.below hb (Nat.le_refl _)
  have IA : Hid (IntR W9 _ xa (sgB (decide (v < 0)) v.natAbs) v.natAbs) := IA.out.below hb (Nat.le_refl _)
  have IB : Hid (IntR W9 _ xb (sgB (decide (v < 0)) v.natAbs) v.natAbs) := IB.out.below hb (Nat.le_refl _)
  have HB : Hid (Below w.heap.size w W9) := HB.out.trans (hb.mono HB.out.size)
  clear hb
  clear kS
  have kS : W9.cell? ⟨w.heap.size, 0, none⟩ = some (.bool s1) ∧ W9.cell? ⟨w.heap.size, 1, none⟩ = some (.slice a1 n1 c1) := ⟨X1.out.z0, X1.out.z1⟩
  go_wp2_with fail
  refine hK.out _ _ (by exact kS) (fun hHeld => ?_)
  clear hK K hHeld
  try simp only [Act.put, List.setIfInBounds_toArray, List.set_cons_zero, List.set_cons_succ]
  refine wpAnyH_take (i := 22) (oi := { dst := some 53, op := Op.pick (Operand.tmp 47) (Operand.tmp 52) (Operand.const (Value.bool false)), type := 4, pos := "law.go:89", after := #[{ on := 16, ground := Ground.data }, { on := 21, ground := Ground.data }], guard := none }) (v := ?_) rfl (by kernel_rfl) (by kernel_rfl) (by kernel_rfl) (fun _ _ _ h => h) (Or.inl ⟨by rfl, ?_⟩) (by exact kS) ?_
  rotate_left
  · intro w hSw; (try dsimp only at hSw); (go_simp <;> with_reducible rfl)
  try simp only [Act.put, List.setIfInBounds_toArray, List.set_cons_zero, List.set_cons_succ]
  refine wpAnyH_take (i := 23) (oi := { dst := some 54, op := Op.move (Operand.tmp 53), type := 4, pos := "law.go:89", after := #[{ on := 22, ground := Ground.data }, { on := 21, ground := Ground.chain }], guard := none }) (v := ?_) rfl (by kernel_rfl) (by kernel_rfl) (by kernel_rfl) (fun _ _ _ h => h) (Or.inl ⟨by rfl, ?_⟩) (by exact kS) ?_
  rotate_left
  · intro w hSw; (try dsimp only at hSw); (go_simp <;> with_reducible rfl)
  try simp only [Act.put, List.setIfInBounds_toArray, List.set_cons_zero, List.set_cons_succ]
  refine wpAnyH_take (i := 24) (oi := { dst := some 55, op := Op.load 24 (Operand.tmp 3), type := 24, pos := "law.go:89", after := #[{ on := 23, ground := Ground.guard }], guard := some (23, true) }) (v := ?_) rfl (by kernel_rfl) (by kernel_rfl) (by kernel_rfl) (fun _ _ _ h => h) (Or.inl ⟨by rfl, ?_⟩) (by exact kS) ?_
  rotate_left
  · intro w hSw; (try dsimp only at hSw); (go_simp <;> with_reducible rfl)
  try simp only [Act.put, List.setIfInBounds_toArray, List.set_cons_zero, List.set_cons_succ]
  refine wpAnyH_take (i := 26) (oi := { dst := some 57, op := Op.load 24 (Operand.tmp 3), type := 24, pos := "law.go:89", after := #[{ on := 23, ground := Ground.guard }], guard := some (23, true) }) (v := ?_) rfl (by kernel_rfl) (by kernel_rfl) (by kernel_rfl) (fun _ _ _ h => h) (Or.inl ⟨by rfl, ?_⟩) (by exact kS) ?_
  rotate_left
  · intro w hSw; (try dsimp only at hSw); (go_simp <;> with_reducible rfl)
  try simp only [Act.put, List.setIfInBounds_toArray, List.set_cons_zero, List.set_cons_succ]
  refine wpAnyH_ready (rs := [25]) (by kernel_rfl) (by simp) ?_
  refine AllReadyH.cons (o := { dst := some 56, op := Op.call { callee := Callee.value (Operand.func 28), args := #[Operand.tmp 55], argTypes := #[24] }, type := 9, pos := "law.go:89", after := #[{ on := 24, ground := Ground.data }, { on := 23, ground := Ground.chain }, { on := 23, ground := Ground.guard }], guard := some (23, true) }) rfl (fun K hK => ?_) AllReadyH.nil
  go_simp
  refine (text_any s1 a1 n1 c1 l1 _ H1.out (by omega)).mono ?_
  rintro e W10 ⟨tt, rfl, ht, hb⟩
  have TT : Hid (decT s1 (vl 4294967296 l1) tt) := ht
  clear ht
  have H1 : Hid (Sl W10 a1 n1 c1 l1) := H1.out.below hb (Nat.le_refl _)
  have X1 : Hid (Box W10 (w.heap.size) (.bool s1) (.slice a1 n1 c1)) := X1.out.below hb X1.out.lt
  have Io : Hid (IntR W10 W2.heap.size (.agg #[.bool sv, .slice ao no co]) sv v.natAbs) := Io.out.below hb (Nat.le_refl _)
  have Ho : Hid (Sl W10 ao no co lo) := Ho.out.below hb (Nat.le_refl _)
  have IA : Hid (IntR W10 _ xa (sgB (decide (v < 0)) v.natAbs) v.natAbs) := IA.out.below hb (Nat.le_refl _)
  have IB : Hid (IntR W10 _ xb (sgB (decide (v < 0)) v.natAbs) v.natAbs) := IB.out.below hb (Nat.le_refl _)
  have HB : Hid (Below w.heap.size w W10) := HB.out.trans (hb.mono HB.out.size)
  clear hb
  clear kS
  have kS : W10.cell? ⟨w.heap.size, 0, none⟩ = some (.bool s1) ∧ W10.cell? ⟨w.heap.size, 1, none⟩ = some (.slice a1 n1 c1) := ⟨X1.out.z0, X1.out.z1⟩
  go_wp2_with fail
  refine hK.out _ _ (by exact kS) (fun hHeld => ?_)
  clear hK K hHeld
  try simp only [Act.put, List.setIfInBounds_toArray, List.set_cons_zero, List.set_cons_succ]
  refine wpAnyH_ready (rs := [27]) (by kernel_rfl) (by simp) ?_
  refine AllReadyH.cons (o := { dst := some 58, op := Op.call { callee := Callee.value (Operand.func 33), args := #[Operand.tmp 57], argTypes := #[24] }, type := 9, pos := "law.go:89", after := #[{ on := 26, ground := Ground.data }, { on := 25, ground := Ground.chain }, { on := 23, ground := Ground.guard }], guard := some (23, true) }) rfl (fun K hK => ?_) AllReadyH.nil
  go_simp
  refine (rtext_any s1 a1 n1 c1 l1 _ H1.out Z1.out (by omega)).mono ?_
  rintro e W11 ⟨tu, rfl, ht, hb⟩
  obtain rfl := decT_same ht TT.out
  clear ht
  have H1 : Hid (Sl W11 a1 n1 c1 l1) := H1.out.below hb (Nat.le_refl _)
  have X1 : Hid (Box W11 (w.heap.size) (.bool s1) (.slice a1 n1 c1)) := X1.out.below hb X1.out.lt
  have Io : Hid (IntR W11 W2.heap.size (.agg #[.bool sv, .slice ao no co]) sv v.natAbs) := Io.out.below hb (Nat.le_refl _)
  have Ho : Hid (Sl W11 ao no co lo) := Ho.out.below hb (Nat.le_refl _)
  have IA : Hid (IntR W11 _ xa (sgB (decide (v < 0)) v.natAbs) v.natAbs) := IA.out.below hb (Nat.le_refl _)
  have IB : Hid (IntR W11 _ xb (sgB (decide (v < 0)) v.natAbs) v.natAbs) := IB.out.below hb (Nat.le_refl _)
  have HB : Hid (Below w.heap.size w W11) := HB.out.trans (hb.mono HB.out.size)
  clear hb
  clear kS
  have kS : W11.cell? ⟨w.heap.size, 0, none⟩ = some (.bool s1) ∧ W11.cell? ⟨w.heap.size, 1, none⟩ = some (.slice a1 n1 c1) := ⟨X1.out.z0, X1.out.z1⟩
  go_wp2_with fail
  refine hK.out _ _ (by exact kS) (fun hHeld => ?_)
  clear hK K hHeld
  try simp only [Act.put, List.setIfInBounds_toArray, List.set_cons_zero, List.set_cons_succ]
  refine wpAnyH_take (i := 28) (oi := { dst := some 59, op := Op.binOp BinOp.eql 9 (Operand.tmp 56) (Operand.tmp 58) 9, type := 4, pos := "law.go:89", after := #[{ on := 25, ground := Ground.data }, { on := 27, ground := Ground.data }, { on := 23, ground := Ground.guard }], guard := some (23, true) }) (v := ?_) rfl (by kernel_rfl) (by kernel_rfl) (by kernel_rfl) (fun _ _ _ h => h) (Or.inl ⟨by rfl, ?_⟩) (by exact kS) ?_
  rotate_left
  · intro w hSw; (try dsimp only at hSw); (go_simp <;> with_reducible rfl)
  try simp only [Act.put, List.setIfInBounds_toArray, List.set_cons_zero, List.set_cons_succ]
  refine wpAnyH_take (i := 29) (oi := { dst := some 60, op := Op.pick (Operand.tmp 54) (Operand.tmp 59) (Operand.const (Value.bool false)), type := 4, pos := "law.go:89", after := #[{ on := 23, ground := Ground.data }, { on := 28, ground := Ground.data }], guard := none }) (v := ?_) rfl (by kernel_rfl) (by kernel_rfl) (by kernel_rfl) (fun _ _ _ h => h) (Or.inl ⟨by rfl, ?_⟩) (by exact kS) ?_
  rotate_left
  · intro w hSw; (try dsimp only at hSw); (go_simp <;> with_reducible rfl)
  try simp only [Act.put, List.setIfInBounds_toArray, List.set_cons_zero, List.set_cons_succ]
  refine wpAnyH_take (i := 30) (oi := { dst := some 61, op := Op.move (Operand.tmp 60), type := 4, pos := "law.go:89", after := #[{ on := 29, ground := Ground.data }, { on := 27, ground := Ground.chain }], guard := none }) (v := ?_) rfl (by kernel_rfl) (by kernel_rfl) (by kernel_rfl) (fun _ _ _ h => h) (Or.inl ⟨by rfl, ?_⟩) (by exact kS) ?_
  rotate_left
  · intro w hSw; (try dsimp only at hSw); (go_simp <;> with_reducible rfl)
  try simp only [Act.put, List.setIfInBounds_toArray, List.set_cons_zero, List.set_cons_succ]
  refine wpAnyH_ready (rs := [31]) (by kernel_rfl) (by simp) ?_
  refine AllReadyH.cons (o := { dst := some 62, op := Op.call { callee := Callee.value (Operand.func 10), args := #[], argTypes := #[] }, type := 4, pos := "law.go:89", after := #[{ on := 30, ground := Ground.chain }, { on := 30, ground := Ground.guard }], guard := some (30, true) }) rfl (fun K hK => ?_) AllReadyH.nil
  go_simp
  refine (awake_any _).mono ?_
  rintro e W12 ⟨rfl, hb⟩
  have H1 : Hid (Sl W12 a1 n1 c1 l1) := H1.out.below hb (Nat.le_refl _)
  have X1 : Hid (Box W12 (w.heap.size) (.bool s1) (.slice a1 n1 c1)) := X1.out.below hb X1.out.lt
  have Io : Hid (IntR W12 W2.heap.size (.agg #[.bool sv, .slice ao no co]) sv v.natAbs) := Io.out.below hb (Nat.le_refl _)
  have Ho : Hid (Sl W12 ao no co lo) := Ho.out.below hb (Nat.le_refl _)
  have IA : Hid (IntR W12 _ xa (sgB (decide (v < 0)) v.natAbs) v.natAbs) := IA.out.below hb (Nat.le_refl _)
  have IB : Hid (IntR W12 _ xb (sgB (decide (v < 0)) v.natAbs) v.natAbs) := IB.out.below hb (Nat.le_refl _)
  have HB : Hid (Below w.heap.size w W12) := HB.out.trans (hb.mono HB.out.size)
  clear hb
  clear kS
  have kS : W12.cell? ⟨w.heap.size, 0, none⟩ = some (.bool s1) ∧ W12.cell? ⟨w.heap.size, 1, none⟩ = some (.slice a1 n1 c1) := ⟨X1.out.z0, X1.out.z1⟩
  go_wp2_with fail
  refine hK.out _ _ (by exact kS) (fun hHeld => ?_)
  clear hK K hHeld
  try simp only [Act.put, List.setIfInBounds_toArray, List.set_cons_zero, List.set_cons_succ]
  refine wpAnyH_take (i := 32) (oi := { dst := some 63, op := Op.pick (Operand.tmp 61) (Operand.tmp 62) (Operand.const (Value.bool false)), type := 4, pos := "law.go:89", after := #[{ on := 30, ground := Ground.data }, { on := 31, ground := Ground.data }], guard := none }) (v := ?_) rfl (by kernel_rfl) (by kernel_rfl) (by kernel_rfl) (fun _ _ _ h => h) (Or.inl ⟨by rfl, ?_⟩) (by exact kS) ?_
  rotate_left
  · intro w hSw; (try dsimp only at hSw); (go_simp <;> with_reducible rfl)
  try simp only [Act.put, List.setIfInBounds_toArray, List.set_cons_zero, List.set_cons_succ]
  refine wpAnyH_take (i := 33) (oi := { dst := some 4, op := Op.assign (Operand.tmp 63), type := 4, pos := "law.go:89", after := #[{ on := 32, ground := Ground.data }, { on := 31, ground := Ground.chain }, { on := 0, ground := Ground.phase }, { on := 1, ground := Ground.phase }, { on := 2, ground := Ground.phase }, { on := 3, ground := Ground.phase }, { on := 4, ground := Ground.phase }, { on := 5, ground := Ground.phase }, { on := 6, ground := Ground.phase }, { on := 7, ground := Ground.phase }, { on := 8, ground := Ground.phase }, { on := 9, ground := Ground.phase }, { on := 10, ground := Ground.phase }, { on := 11, ground := Ground.phase }, { on := 12, ground := Ground.phase }, { on := 13, ground := Ground.phase }, { on := 14, ground := Ground.phase }, { on := 15, ground := Ground.phase }, { on := 16, ground := Ground.phase }, { on := 17, ground := Ground.phase }, { on := 18, ground := Ground.phase }, { on := 19, ground := Ground.phase }, { on := 20, ground := Ground.phase }, { on := 21, ground := Ground.phase }, { on := 22, ground := Ground.phase }, { on := 23, ground := Ground.phase }, { on := 24, ground := Ground.phase }, { on := 25, ground := Ground.phase }, { on := 26, ground := Ground.phase }, { on := 27, ground := Ground.phase }, { on := 28, ground := Ground.phase }, { on := 29, ground := Ground.phase }, { on := 30, ground := Ground.phase }, { on := 31, ground := Ground.phase }, { on := 32, ground := Ground.phase }], guard := none }) (v := ?_) rfl (by kernel_rfl) (by kernel_rfl) (by kernel_rfl) (fun _ _ _ h => h) (Or.inl ⟨by rfl, ?_⟩) (by exact kS) ?_
  rotate_left
  · intro w hSw; (try dsimp only at hSw); (go_simp <;> with_reducible rfl)
  try simp only [Act.put, List.setIfInBounds_toArray, List.set_cons_zero, List.set_cons_succ]
  refine wpAnyH_done (by kernel_rfl) ?_ _
  go_wp2_with fail
  go_ret
  exact ⟨rfl, HB.out⟩
theorem smalls_any (v : Int) (s1 : Bool) (a1 : Option Addr) (n1 c1 : Nat) (l1 : List Nat) (w : World) (hv : (Lit.int .i64 v).wf = true) (h1 : Sl w a1 n1 c1 l1) (g1 : a1 = none → c1 = 0) :
    Calls Tryd.prog 7 #[.int .i64 v, .agg #[.bool s1, .slice a1 n1 c1]] w fun e w' => e = .returned (.bool true) ∧ Below w.heap.size w w' := by
  by_cases b1 : 40 < n1
  · exact smalls_out v s1 a1 n1 c1 l1 w hv h1 g1 b1
  exact smalls_in v s1 a1 n1 c1 l1 w hv h1 g1 (by omega)
end Go.Proofs.YtimjafgaadafdaaDoor
