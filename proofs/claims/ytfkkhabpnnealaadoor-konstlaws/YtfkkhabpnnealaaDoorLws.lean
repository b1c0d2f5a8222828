/-
  KonstLaws: for all constants the law answers true.
-/
import Derived.Test.YtfkkhabpnnealaaDoorKpG
import Derived.Deep.RegionHeld3
namespace Go.Proofs.YtfkkhabpnnealaaDoor
open Go.RowKit
attribute [local go_sem ↓] Go.wp_at_zero Go.wp_at_succ
set_option maxRecDepth 100000 in
set_option maxHeartbeats 8000000 in
theorem lw_ne (k1 k2 : Int) (s1 s2 : Bool) (a1 a2 : Option Addr) (n1 n2 c1 c2 : Nat) (t1 t2 : ByteArray) (b1 b2 : Bool) (w : World)
    (hi1 : ∀ W, Calls Tryd.prog 7 #[cnV k1 s1 a1 n1 c1 t1 b1] W fun e w' => e = .returned (.bool true) ∧ Below W.heap.size W w')
    (hi2 : ∀ W, Calls Tryd.prog 7 #[cnV k2 s2 a2 n2 c2 t2 b2] W fun e w' => e = .returned (.bool true) ∧ Below W.heap.size W w')
    (hk1 : ∀ W, Below w.heap.size w W → Calls Tryd.prog 9 #[.string ⟨#[61, 61]⟩, cnV k1 s1 a1 n1 c1 t1 b1, cnV k2 s2 a2 n2 c2 t2 b2] W (AnsQ W ⟨0, false, 0, ⟨#[]⟩, false, 6⟩))
    (hk2 : ∀ W, Below w.heap.size w W → Calls Tryd.prog 9 #[.string ⟨#[33, 61]⟩, cnV k1 s1 a1 n1 c1 t1 b1, cnV k2 s2 a2 n2 c2 t2 b2] W (AnsQ W ⟨0, false, 0, ⟨#[]⟩, false, 6⟩))
    (hk3 : ∀ W, Below w.heap.size w W → Calls Tryd.prog 9 #[.string ⟨#[60]⟩, cnV k1 s1 a1 n1 c1 t1 b1, cnV k2 s2 a2 n2 c2 t2 b2] W (AnsQ W ⟨0, false, 0, ⟨#[]⟩, false, 6⟩))
    (hk4 : ∀ W, Below w.heap.size w W → Calls Tryd.prog 9 #[.string ⟨#[62]⟩, cnV k1 s1 a1 n1 c1 t1 b1, cnV k2 s2 a2 n2 c2 t2 b2] W (AnsQ W ⟨0, false, 0, ⟨#[]⟩, false, 6⟩))
    (heq : ∀ W, Below w.heap.size w W → Calls Tryd.prog 13 #[cnV k1 s1 a1 n1 c1 t1 b1, cnV k2 s2 a2 n2 c2 t2 b2] W fun e w' => e = .returned (.bool false) ∧ Below W.heap.size W w') :
    Calls Tryd.prog 5 #[cnV k1 s1 a1 n1 c1 t1 b1, cnV k2 s2 a2 n2 c2 t2 b2] w fun e w' => e = .returned (.bool true) ∧ Below w.heap.size w w' := by
  have HI1 : Hid (∀ W, Calls Tryd.prog 7 #[cnV k1 s1 a1 n1 c1 t1 b1] W fun e w' => e = .returned (.bool true) ∧ Below W.heap.size W w') := hi1
  have HI2 : Hid (∀ W, Calls Tryd.prog 7 #[cnV k2 s2 a2 n2 c2 t2 b2] W fun e w' => e = .returned (.bool true) ∧ Below W.heap.size W w') := hi2
  have HK1 : Hid (∀ W, Below w.heap.size w W → Calls Tryd.prog 9 #[.string ⟨#[61, 61]⟩, cnV k1 s1 a1 n1 c1 t1 b1, cnV k2 s2 a2 n2 c2 t2 b2] W (AnsQ W ⟨0, false, 0, ⟨#[]⟩, false, 6⟩)) := hk1
  have HK2 : Hid (∀ W, Below w.heap.size w W → Calls Tryd.prog 9 #[.string ⟨#[33, 61]⟩, cnV k1 s1 a1 n1 c1 t1 b1, cnV k2 s2 a2 n2 c2 t2 b2] W (AnsQ W ⟨0, false, 0, ⟨#[]⟩, false, 6⟩)) := hk2
  have HK3 : Hid (∀ W, Below w.heap.size w W → Calls Tryd.prog 9 #[.string ⟨#[60]⟩, cnV k1 s1 a1 n1 c1 t1 b1, cnV k2 s2 a2 n2 c2 t2 b2] W (AnsQ W ⟨0, false, 0, ⟨#[]⟩, false, 6⟩)) := hk3
  have HK4 : Hid (∀ W, Below w.heap.size w W → Calls Tryd.prog 9 #[.string ⟨#[62]⟩, cnV k1 s1 a1 n1 c1 t1 b1, cnV k2 s2 a2 n2 c2 t2 b2] W (AnsQ W ⟨0, false, 0, ⟨#[]⟩, false, 6⟩)) := hk4
  have HEQ : Hid (∀ W, Below w.heap.size w W → Calls Tryd.prog 13 #[cnV k1 s1 a1 n1 c1 t1 b1, cnV k2 s2 a2 n2 c2 t2 b2] W fun e w' => e = .returned (.bool false) ∧ Below W.heap.size W w') := heq
  have HB2 : Hid (Below w.heap.size w ((w.alloc (.cells #[.int .i64 k1, .bool s1, .slice a1 n1 c1, .string t1, .bool b1] 26)).alloc (.cells #[.int .i64 k2, .bool s2, .slice a2 n2 c2, .string t2, .bool b2] 26))) := two_below w _ _
  have HA2 : Hid (((w.alloc (.cells #[.int .i64 k1, .bool s1, .slice a1 n1 c1, .string t1, .bool b1] 26)).alloc (.cells #[.int .i64 k2, .bool s2, .slice a2 n2 c2, .string t2, .bool b2] 26)).heap[w.heap.size]? = some (.cells #[.int .i64 k1, .bool s1, .slice a1 n1 c1, .string t1, .bool b1] 26 (0, 0)) ∧ ((w.alloc (.cells #[.int .i64 k1, .bool s1, .slice a1 n1 c1, .string t1, .bool b1] 26)).alloc (.cells #[.int .i64 k2, .bool s2, .slice a2 n2 c2, .string t2, .bool b2] 26)).heap[w.heap.size + 1]? = some (.cells #[.int .i64 k2, .bool s2, .slice a2 n2 c2, .string t2, .bool b2] 26 (0, 0))) := ⟨kept5 ((Below.refl _ _).alloc (Nat.le_refl _) _) (new_blk w _), two_new _ _⟩
  clear hi1 hi2 hk1 hk2 hk3 hk4 heq
  go_enter Tryd.func5, Tryd.ntmps5
  go_wp2_with fail
  refine (HI1.out _).mono ?_
  rintro e x1 ⟨rfl, hb⟩
  have HBA : Hid (Below w.heap.size w x1) := HB2.out.trans (hb.mono HB2.out.size)
  have H0A : Hid (x1.heap[w.heap.size]? = some (.cells #[.int .i64 k1, .bool s1, .slice a1 n1 c1, .string t1, .bool b1] 26 (0, 0))) := kept5 hb HA2.out.1
  have H1A : Hid (x1.heap[w.heap.size + 1]? = some (.cells #[.int .i64 k2, .bool s2, .slice a2 n2 c2, .string t2, .bool b2] 26 (0, 0))) := kept5 hb HA2.out.2
  clear hb
  have c5 := bx5 H1A.out
  go_wp2_with fail
  refine (HI2.out _).mono ?_
  rintro e x2 ⟨rfl, hb⟩
  have HBB : Hid (Below w.heap.size w x2) := HBA.out.trans (hb.mono HBA.out.size)
  have H0B : Hid (x2.heap[w.heap.size]? = some (.cells #[.int .i64 k1, .bool s1, .slice a1 n1 c1, .string t1, .bool b1] 26 (0, 0))) := kept5 hb H0A.out
  have H1B : Hid (x2.heap[w.heap.size + 1]? = some (.cells #[.int .i64 k2, .bool s2, .slice a2 n2 c2, .string t2, .bool b2] 26 (0, 0))) := kept5 hb H1A.out
  clear hb c5 H0A H1A HBA HI1 HI2 HA2 HB2
  have a5 := bx5 H0B.out
  have c5 := bx5 H1B.out
  go_wp2_with fail
  refine (HK1.out _ HBB.out).mono ?_
  rintro e yp ⟨⟨v, rfl, aqp, nqp, cqp, rfl, hi⟩, hb⟩
  dsimp only
  clear hi
  have hq := hb.trans (((Below.refl yp.heap.size yp).alloc (Nat.le_refl _) (.cells #[.int .i64 0, .bool false, .slice aqp nqp cqp, .string ⟨#[]⟩, .bool false] 26)).mono hb.size)
  have H0Bp : Hid ((yp.alloc (.cells #[.int .i64 0, .bool false, .slice aqp nqp cqp, .string ⟨#[]⟩, .bool false] 26)).heap[w.heap.size]? = some (.cells #[.int .i64 k1, .bool s1, .slice a1 n1 c1, .string t1, .bool b1] 26 (0, 0))) := kept5 hq H0B.out
  have H1Bp : Hid ((yp.alloc (.cells #[.int .i64 0, .bool false, .slice aqp nqp cqp, .string ⟨#[]⟩, .bool false] 26)).heap[w.heap.size + 1]? = some (.cells #[.int .i64 k2, .bool s2, .slice a2 n2 c2, .string t2, .bool b2] 26 (0, 0))) := kept5 hq H1B.out
  have HNp : Hid ((yp.alloc (.cells #[.int .i64 0, .bool false, .slice aqp nqp cqp, .string ⟨#[]⟩, .bool false] 26)).heap[yp.heap.size]? = some (.cells #[.int .i64 0, .bool false, .slice aqp nqp cqp, .string ⟨#[]⟩, .bool false] 26 (0, 0))) := new_blk yp _
  have HBp : Hid (Below w.heap.size w (yp.alloc (.cells #[.int .i64 0, .bool false, .slice aqp nqp cqp, .string ⟨#[]⟩, .bool false] 26))) := HBB.out.trans (hq.mono HBB.out.size)
  clear hb hq HK1 HBB H0B H1B a5 c5
  have a5 := bx5 H0Bp.out
  have c5 := bx5 H1Bp.out
  have r05 := bx5 HNp.out
  go_wp2_with fail
  refine (HK2.out _ HBp.out).mono ?_
  rintro e yq ⟨⟨v, rfl, aqq, nqq, cqq, rfl, hi⟩, hb⟩
  dsimp only
  clear hi
  have hq := hb.trans (((Below.refl yq.heap.size yq).alloc (Nat.le_refl _) (.cells #[.int .i64 0, .bool false, .slice aqq nqq cqq, .string ⟨#[]⟩, .bool false] 26)).mono hb.size)
  have H0Bpq : Hid ((yq.alloc (.cells #[.int .i64 0, .bool false, .slice aqq nqq cqq, .string ⟨#[]⟩, .bool false] 26)).heap[w.heap.size]? = some (.cells #[.int .i64 k1, .bool s1, .slice a1 n1 c1, .string t1, .bool b1] 26 (0, 0))) := kept5 hq H0Bp.out
  have H1Bpq : Hid ((yq.alloc (.cells #[.int .i64 0, .bool false, .slice aqq nqq cqq, .string ⟨#[]⟩, .bool false] 26)).heap[w.heap.size + 1]? = some (.cells #[.int .i64 k2, .bool s2, .slice a2 n2 c2, .string t2, .bool b2] 26 (0, 0))) := kept5 hq H1Bp.out
  have HNpq : Hid ((yq.alloc (.cells #[.int .i64 0, .bool false, .slice aqq nqq cqq, .string ⟨#[]⟩, .bool false] 26)).heap[yp.heap.size]? = some (.cells #[.int .i64 0, .bool false, .slice aqp nqp cqp, .string ⟨#[]⟩, .bool false] 26 (0, 0))) := kept5 hq HNp.out
  have HNq : Hid ((yq.alloc (.cells #[.int .i64 0, .bool false, .slice aqq nqq cqq, .string ⟨#[]⟩, .bool false] 26)).heap[yq.heap.size]? = some (.cells #[.int .i64 0, .bool false, .slice aqq nqq cqq, .string ⟨#[]⟩, .bool false] 26 (0, 0))) := new_blk yq _
  have HBq : Hid (Below w.heap.size w (yq.alloc (.cells #[.int .i64 0, .bool false, .slice aqq nqq cqq, .string ⟨#[]⟩, .bool false] 26))) := HBp.out.trans (hq.mono HBp.out.size)
  clear hb hq HK2 HBp H0Bp H1Bp HNp a5 c5 r05
  have a5 := bx5 H0Bpq.out
  have c5 := bx5 H1Bpq.out
  have r05 := bx5 HNpq.out
  have r15 := bx5 HNq.out
  go_wp2_with fail
  obtain ⟨wr, hwr⟩ : ∃ wr, (yq.alloc (.cells #[.int .i64 0, .bool false, .slice aqq nqq cqq, .string ⟨#[]⟩, .bool false] 26)) = wr := ⟨_, rfl⟩
  rw [hwr] at H0Bpq H1Bpq HNpq HNq HBq ⊢
  clear a5 c5 r05 r15 hwr
  have HKP : Hid (∀ W', Below wr.heap.size wr W' → W'.cell? ⟨w.heap.size, 0, none⟩ = some (.int .i64 k1) ∧ W'.cell? ⟨w.heap.size, 1, none⟩ = some (.bool s1) ∧ W'.cell? ⟨w.heap.size, 2, none⟩ = some (.slice a1 n1 c1) ∧ W'.cell? ⟨w.heap.size, 3, none⟩ = some (.string t1) ∧ W'.cell? ⟨w.heap.size, 4, none⟩ = some (.bool b1) ∧ W'.cell? ⟨w.heap.size + 1, 0, none⟩ = some (.int .i64 k2) ∧ W'.cell? ⟨w.heap.size + 1, 1, none⟩ = some (.bool s2) ∧ W'.cell? ⟨w.heap.size + 1, 2, none⟩ = some (.slice a2 n2 c2) ∧ W'.cell? ⟨w.heap.size + 1, 3, none⟩ = some (.string t2) ∧ W'.cell? ⟨w.heap.size + 1, 4, none⟩ = some (.bool b2) ∧ W'.cell? ⟨yp.heap.size, 0, none⟩ = some (.int .i64 0) ∧ W'.cell? ⟨yp.heap.size, 1, none⟩ = some (.bool false) ∧ W'.cell? ⟨yp.heap.size, 2, none⟩ = some (.slice aqp nqp cqp) ∧ W'.cell? ⟨yp.heap.size, 3, none⟩ = some (.string ⟨#[]⟩) ∧ W'.cell? ⟨yp.heap.size, 4, none⟩ = some (.bool false) ∧ W'.cell? ⟨yq.heap.size, 0, none⟩ = some (.int .i64 0) ∧ W'.cell? ⟨yq.heap.size, 1, none⟩ = some (.bool false) ∧ W'.cell? ⟨yq.heap.size, 2, none⟩ = some (.slice aqq nqq cqq) ∧ W'.cell? ⟨yq.heap.size, 3, none⟩ = some (.string ⟨#[]⟩) ∧ W'.cell? ⟨yq.heap.size, 4, none⟩ = some (.bool false)) := fun W' hb => by
    obtain ⟨p00, p01, p02, p03, p04⟩ := bx5 (kept5 hb H0Bpq.out)
    obtain ⟨p10, p11, p12, p13, p14⟩ := bx5 (kept5 hb H1Bpq.out)
    obtain ⟨p20, p21, p22, p23, p24⟩ := bx5 (kept5 hb HNpq.out)
    obtain ⟨p30, p31, p32, p33, p34⟩ := bx5 (kept5 hb HNq.out)
    exact ⟨p00, p01, p02, p03, p04, p10, p11, p12, p13, p14, p20, p21, p22, p23, p24, p30, p31, p32, p33, p34⟩
  have kS := HKP.out wr (Below.refl _ _)
  refine wp_region_held_drew (S := fun w' => w'.cell? ⟨w.heap.size, 0, none⟩ = some (.int .i64 k1) ∧ w'.cell? ⟨w.heap.size, 1, none⟩ = some (.bool s1) ∧ w'.cell? ⟨w.heap.size, 2, none⟩ = some (.slice a1 n1 c1) ∧ w'.cell? ⟨w.heap.size, 3, none⟩ = some (.string t1) ∧ w'.cell? ⟨w.heap.size, 4, none⟩ = some (.bool b1) ∧ w'.cell? ⟨w.heap.size + 1, 0, none⟩ = some (.int .i64 k2) ∧ w'.cell? ⟨w.heap.size + 1, 1, none⟩ = some (.bool s2) ∧ w'.cell? ⟨w.heap.size + 1, 2, none⟩ = some (.slice a2 n2 c2) ∧ w'.cell? ⟨w.heap.size + 1, 3, none⟩ = some (.string t2) ∧ w'.cell? ⟨w.heap.size + 1, 4, none⟩ = some (.bool b2) ∧ w'.cell? ⟨yp.heap.size, 0, none⟩ = some (.int .i64 0) ∧ w'.cell? ⟨yp.heap.size, 1, none⟩ = some (.bool false) ∧ w'.cell? ⟨yp.heap.size, 2, none⟩ = some (.slice aqp nqp cqp) ∧ w'.cell? ⟨yp.heap.size, 3, none⟩ = some (.string ⟨#[]⟩) ∧ w'.cell? ⟨yp.heap.size, 4, none⟩ = some (.bool false) ∧ w'.cell? ⟨yq.heap.size, 0, none⟩ = some (.int .i64 0) ∧ w'.cell? ⟨yq.heap.size, 1, none⟩ = some (.bool false) ∧ w'.cell? ⟨yq.heap.size, 2, none⟩ = some (.slice aqq nqq cqq) ∧ w'.cell? ⟨yq.heap.size, 3, none⟩ = some (.string ⟨#[]⟩) ∧ w'.cell? ⟨yq.heap.size, 4, none⟩ = some (.bool false)) (by kernel_rfl) (by exact kS) (fun hHeld => ?_)
  clear hHeld
  refine wpAnyH_take (i := 0) (oi := { dst := some 35, op := Op.move (Operand.tmp 6), type := 29, pos := "law.go:62", after := #[], guard := none }) (v := ?_) rfl (by kernel_rfl) (by kernel_rfl) (by kernel_rfl) (fun _ _ _ h => h) (Or.inl ⟨by rfl, ?_⟩) (by exact kS) ?_
  rotate_left
  · intro w hSw; (try dsimp only at hSw); (go_simp <;> with_reducible rfl)
  try simp only [Act.put, List.setIfInBounds_toArray, List.set_cons_zero, List.set_cons_succ]
  refine wpAnyH_take (i := 1) (oi := { dst := some 36, op := Op.move (Operand.tmp 8), type := 29, pos := "law.go:62", after := #[], guard := none }) (v := ?_) rfl (by kernel_rfl) (by kernel_rfl) (by kernel_rfl) (fun _ _ _ h => h) (Or.inl ⟨by rfl, ?_⟩) (by exact kS) ?_
  rotate_left
  · intro w hSw; (try dsimp only at hSw); (go_simp <;> with_reducible rfl)
  try simp only [Act.put, List.setIfInBounds_toArray, List.set_cons_zero, List.set_cons_succ]
  refine wpAnyH_take (i := 2) (oi := { dst := some 37, op := Op.binOp BinOp.neq 29 (Operand.tmp 35) (Operand.tmp 36) 29, type := 4, pos := "law.go:62", after := #[{ on := 0, ground := Ground.data }, { on := 1, ground := Ground.data }], guard := none }) (v := ?_) rfl (by kernel_rfl) (by kernel_rfl) (by kernel_rfl) (fun _ _ _ h => h) (Or.inl ⟨by rfl, ?_⟩) (by exact kS) ?_
  rotate_left
  · intro w hSw; (try dsimp only at hSw); (go_simp <;> with_reducible rfl)
  try simp only [Act.put, List.setIfInBounds_toArray, List.set_cons_zero, List.set_cons_succ]
  refine wpAnyH_take (i := 3) (oi := { dst := some 38, op := Op.move (Operand.tmp 37), type := 4, pos := "law.go:62", after := #[{ on := 2, ground := Ground.data }], guard := none }) (v := ?_) rfl (by kernel_rfl) (by kernel_rfl) (by kernel_rfl) (fun _ _ _ h => h) (Or.inl ⟨by rfl, ?_⟩) (by exact kS) ?_
  rotate_left
  · intro w hSw; (try dsimp only at hSw); (go_simp <;> with_reducible rfl)
  try simp only [Act.put, List.setIfInBounds_toArray, List.set_cons_zero, List.set_cons_succ]
  refine wpAnyH_take (i := 4) (oi := { dst := some 39, op := Op.move (Operand.tmp 6), type := 29, pos := "law.go:62", after := #[{ on := 3, ground := Ground.guard }], guard := some (3, false) }) (v := ?_) rfl (by kernel_rfl) (by kernel_rfl) (by kernel_rfl) (fun _ _ _ h => h) (Or.inl ⟨by rfl, ?_⟩) (by exact kS) ?_
  rotate_left
  · intro w hSw; (try dsimp only at hSw); (go_simp <;> with_reducible rfl)
  try simp only [Act.put, List.setIfInBounds_toArray, List.set_cons_zero, List.set_cons_succ]
  refine wpAnyH_take (i := 5) (oi := { dst := some 40, op := Op.binOp BinOp.eql 29 (Operand.tmp 39) (Operand.const (Value.int IntKind.i64 0)) 29, type := 4, pos := "law.go:62", after := #[{ on := 4, ground := Ground.data }, { on := 3, ground := Ground.guard }], guard := some (3, false) }) (v := ?_) rfl (by kernel_rfl) (by kernel_rfl) (by kernel_rfl) (fun _ _ _ h => h) (Or.inl ⟨by rfl, ?_⟩) (by exact kS) ?_
  rotate_left
  · intro w hSw; (try dsimp only at hSw); (go_simp <;> with_reducible rfl)
  try simp only [Act.put, List.setIfInBounds_toArray, List.set_cons_zero, List.set_cons_succ]
  refine wpAnyH_take (i := 6) (oi := { dst := some 41, op := Op.move (Operand.tmp 40), type := 4, pos := "law.go:62", after := #[{ on := 5, ground := Ground.data }, { on := 3, ground := Ground.chain }, { on := 3, ground := Ground.guard }], guard := some (3, false) }) (v := ?_) rfl (by kernel_rfl) (by kernel_rfl) (by kernel_rfl) (fun _ _ _ h => h) (Or.inl ⟨by rfl, ?_⟩) (by exact kS) ?_
  rotate_left
  · intro w hSw; (try dsimp only at hSw); (go_simp <;> with_reducible rfl)
  try simp only [Act.put, List.setIfInBounds_toArray, List.set_cons_zero, List.set_cons_succ]
  refine wpAnyH_take (i := 7) (oi := { dst := some 42, op := Op.fieldAddr 26 (Operand.tmp 5) 3, type := 0, pos := "law.go:62", after := #[{ on := 6, ground := Ground.guard }], guard := some (6, true) }) (v := undef) rfl (by kernel_rfl) (by kernel_rfl) (by kernel_rfl) (fun _ _ _ h => h) (Or.inr ⟨by rfl, rfl⟩) (by exact kS) ?_
  try simp only [Act.put, List.setIfInBounds_toArray, List.set_cons_zero, List.set_cons_succ]
  refine wpAnyH_take (i := 8) (oi := { dst := some 43, op := Op.load 4 (Operand.tmp 42), type := 4, pos := "law.go:62", after := #[{ on := 7, ground := Ground.data }, { on := 6, ground := Ground.guard }], guard := some (6, true) }) (v := undef) rfl (by kernel_rfl) (by kernel_rfl) (by kernel_rfl) (fun _ _ _ h => h) (Or.inr ⟨by rfl, rfl⟩) (by exact kS) ?_
  try simp only [Act.put, List.setIfInBounds_toArray, List.set_cons_zero, List.set_cons_succ]
  refine wpAnyH_take (i := 9) (oi := { dst := some 44, op := Op.fieldAddr 26 (Operand.tmp 7) 3, type := 0, pos := "law.go:62", after := #[{ on := 6, ground := Ground.guard }], guard := some (6, true) }) (v := undef) rfl (by kernel_rfl) (by kernel_rfl) (by kernel_rfl) (fun _ _ _ h => h) (Or.inr ⟨by rfl, rfl⟩) (by exact kS) ?_
  try simp only [Act.put, List.setIfInBounds_toArray, List.set_cons_zero, List.set_cons_succ]
  refine wpAnyH_take (i := 10) (oi := { dst := some 45, op := Op.load 4 (Operand.tmp 44), type := 4, pos := "law.go:62", after := #[{ on := 9, ground := Ground.data }, { on := 6, ground := Ground.guard }], guard := some (6, true) }) (v := undef) rfl (by kernel_rfl) (by kernel_rfl) (by kernel_rfl) (fun _ _ _ h => h) (Or.inr ⟨by rfl, rfl⟩) (by exact kS) ?_
  try simp only [Act.put, List.setIfInBounds_toArray, List.set_cons_zero, List.set_cons_succ]
  refine wpAnyH_take (i := 11) (oi := { dst := some 46, op := Op.binOp BinOp.eql 4 (Operand.tmp 43) (Operand.tmp 45) 4, type := 4, pos := "law.go:62", after := #[{ on := 8, ground := Ground.data }, { on := 10, ground := Ground.data }, { on := 6, ground := Ground.guard }], guard := some (6, true) }) (v := undef) rfl (by kernel_rfl) (by kernel_rfl) (by kernel_rfl) (fun _ _ _ h => h) (Or.inr ⟨by rfl, rfl⟩) (by exact kS) ?_
  try simp only [Act.put, List.setIfInBounds_toArray, List.set_cons_zero, List.set_cons_succ]
  refine wpAnyH_take (i := 12) (oi := { dst := some 47, op := Op.move (Operand.tmp 46), type := 4, pos := "law.go:62", after := #[{ on := 11, ground := Ground.data }, { on := 6, ground := Ground.chain }, { on := 6, ground := Ground.guard }], guard := some (6, true) }) (v := undef) rfl (by kernel_rfl) (by kernel_rfl) (by kernel_rfl) (fun _ _ _ h => h) (Or.inr ⟨by rfl, rfl⟩) (by exact kS) ?_
  try simp only [Act.put, List.setIfInBounds_toArray, List.set_cons_zero, List.set_cons_succ]
  refine wpAnyH_take (i := 13) (oi := { dst := some 48, op := Op.fieldAddr 26 (Operand.tmp 5) 3, type := 0, pos := "law.go:62", after := #[{ on := 12, ground := Ground.guard }], guard := some (12, false) }) (v := undef) rfl (by kernel_rfl) (by kernel_rfl) (by kernel_rfl) (fun _ _ _ h => h) (Or.inr ⟨by rfl, rfl⟩) (by exact kS) ?_
  try simp only [Act.put, List.setIfInBounds_toArray, List.set_cons_zero, List.set_cons_succ]
  refine wpAnyH_take (i := 14) (oi := { dst := some 49, op := Op.load 4 (Operand.tmp 48), type := 4, pos := "law.go:62", after := #[{ on := 13, ground := Ground.data }, { on := 12, ground := Ground.guard }], guard := some (12, false) }) (v := undef) rfl (by kernel_rfl) (by kernel_rfl) (by kernel_rfl) (fun _ _ _ h => h) (Or.inr ⟨by rfl, rfl⟩) (by exact kS) ?_
  try simp only [Act.put, List.setIfInBounds_toArray, List.set_cons_zero, List.set_cons_succ]
  refine wpAnyH_take (i := 15) (oi := { dst := some 50, op := Op.load 26 (Operand.tmp 2), type := 26, pos := "law.go:62", after := #[{ on := 12, ground := Ground.guard }], guard := some (12, false) }) (v := undef) rfl (by kernel_rfl) (by kernel_rfl) (by kernel_rfl) (fun _ _ _ h => h) (Or.inr ⟨by rfl, rfl⟩) (by exact kS) ?_
  try simp only [Act.put, List.setIfInBounds_toArray, List.set_cons_zero, List.set_cons_succ]
  refine wpAnyH_take (i := 16) (oi := { dst := some 51, op := Op.load 26 (Operand.tmp 3), type := 26, pos := "law.go:62", after := #[{ on := 12, ground := Ground.guard }], guard := some (12, false) }) (v := undef) rfl (by kernel_rfl) (by kernel_rfl) (by kernel_rfl) (fun _ _ _ h => h) (Or.inr ⟨by rfl, rfl⟩) (by exact kS) ?_
  try simp only [Act.put, List.setIfInBounds_toArray, List.set_cons_zero, List.set_cons_succ]
  refine wpAnyH_ready (rs := [17]) (by kernel_rfl) (by simp) ?_
  refine AllReadyH.cons (o := { dst := some 52, op := Op.call { callee := Callee.value (Operand.func 13), args := #[Operand.tmp 50, Operand.tmp 51], argTypes := #[26, 26] }, type := 4, pos := "law.go:62", after := #[{ on := 15, ground := Ground.data }, { on := 16, ground := Ground.data }, { on := 12, ground := Ground.chain }, { on := 12, ground := Ground.guard }], guard := some (12, false) }) rfl (fun K hK => ?_) AllReadyH.nil
  go_simp
  refine hK.out _ _ (by exact kS) (fun hHeld => ?_)
  clear hK K hHeld
  try simp only [Act.put, List.setIfInBounds_toArray, List.set_cons_zero, List.set_cons_succ]
  refine wpAnyH_take (i := 18) (oi := { dst := some 53, op := Op.binOp BinOp.neq 4 (Operand.tmp 49) (Operand.tmp 52) 4, type := 4, pos := "law.go:62", after := #[{ on := 14, ground := Ground.data }, { on := 17, ground := Ground.data }, { on := 12, ground := Ground.guard }], guard := some (12, false) }) (v := undef) rfl (by kernel_rfl) (by kernel_rfl) (by kernel_rfl) (fun _ _ _ h => h) (Or.inr ⟨by rfl, rfl⟩) (by exact kS) ?_
  try simp only [Act.put, List.setIfInBounds_toArray, List.set_cons_zero, List.set_cons_succ]
  refine wpAnyH_take (i := 19) (oi := { dst := some 54, op := Op.pick (Operand.tmp 47) (Operand.const (Value.bool true)) (Operand.tmp 53), type := 4, pos := "law.go:62", after := #[{ on := 12, ground := Ground.data }, { on := 18, ground := Ground.data }, { on := 6, ground := Ground.guard }], guard := some (6, true) }) (v := undef) rfl (by kernel_rfl) (by kernel_rfl) (by kernel_rfl) (fun _ _ _ h => h) (Or.inr ⟨by rfl, rfl⟩) (by exact kS) ?_
  try simp only [Act.put, List.setIfInBounds_toArray, List.set_cons_zero, List.set_cons_succ]
  refine wpAnyH_take (i := 20) (oi := { dst := some 55, op := Op.pick (Operand.tmp 41) (Operand.tmp 54) (Operand.const (Value.bool false)), type := 4, pos := "law.go:62", after := #[{ on := 6, ground := Ground.data }, { on := 19, ground := Ground.data }, { on := 3, ground := Ground.guard }], guard := some (3, false) }) (v := ?_) rfl (by kernel_rfl) (by kernel_rfl) (by kernel_rfl) (fun _ _ _ h => h) (Or.inl ⟨by rfl, ?_⟩) (by exact kS) ?_
  rotate_left
  · intro w hSw; (try dsimp only at hSw); (go_simp <;> with_reducible rfl)
  try simp only [Act.put, List.setIfInBounds_toArray, List.set_cons_zero, List.set_cons_succ]
  refine wpAnyH_take (i := 21) (oi := { dst := some 56, op := Op.pick (Operand.tmp 38) (Operand.const (Value.bool true)) (Operand.tmp 55), type := 4, pos := "law.go:62", after := #[{ on := 3, ground := Ground.data }, { on := 20, ground := Ground.data }], guard := none }) (v := ?_) rfl (by kernel_rfl) (by kernel_rfl) (by kernel_rfl) (fun _ _ _ h => h) (Or.inl ⟨by rfl, ?_⟩) (by exact kS) ?_
  rotate_left
  · intro w hSw; (try dsimp only at hSw); (go_simp <;> with_reducible rfl)
  try simp only [Act.put, List.setIfInBounds_toArray, List.set_cons_zero, List.set_cons_succ]
  refine wpAnyH_done (by kernel_rfl) ?_ _
  clear kS
  have GH0Bpq : Hid (wr.drew.heap[w.heap.size]? = some (.cells #[.int .i64 k1, .bool s1, .slice a1 n1 c1, .string t1, .bool b1] 26 (0, 0))) := kept5 (Below.refl wr.heap.size wr).drew H0Bpq.out
  have GH1Bpq : Hid (wr.drew.heap[w.heap.size + 1]? = some (.cells #[.int .i64 k2, .bool s2, .slice a2 n2 c2, .string t2, .bool b2] 26 (0, 0))) := kept5 (Below.refl wr.heap.size wr).drew H1Bpq.out
  have GHNpq : Hid (wr.drew.heap[yp.heap.size]? = some (.cells #[.int .i64 0, .bool false, .slice aqp nqp cqp, .string ⟨#[]⟩, .bool false] 26 (0, 0))) := kept5 (Below.refl wr.heap.size wr).drew HNpq.out
  have GHNq : Hid (wr.drew.heap[yq.heap.size]? = some (.cells #[.int .i64 0, .bool false, .slice aqq nqq cqq, .string ⟨#[]⟩, .bool false] 26 (0, 0))) := kept5 (Below.refl wr.heap.size wr).drew HNq.out
  have HBG : Hid (Below w.heap.size w wr.drew) := HBq.out.trans ((Below.refl wr.heap.size wr).drew.mono HBq.out.size)
  clear HKP H0Bpq H1Bpq HNpq HNq HBq
  have a5 := bx5 GH0Bpq.out
  have c5 := bx5 GH1Bpq.out
  have r05 := bx5 GHNpq.out
  have r15 := bx5 GHNq.out
  go_wp2_with fail
  refine (HK3.out _ HBG.out).mono ?_
  rintro e yr ⟨⟨v, rfl, aqr, nqr, cqr, rfl, hi⟩, hb⟩
  dsimp only
  clear hi
  have hq := hb.trans (((Below.refl yr.heap.size yr).alloc (Nat.le_refl _) (.cells #[.int .i64 0, .bool false, .slice aqr nqr cqr, .string ⟨#[]⟩, .bool false] 26)).mono hb.size)
  have GH0Bpqr : Hid ((yr.alloc (.cells #[.int .i64 0, .bool false, .slice aqr nqr cqr, .string ⟨#[]⟩, .bool false] 26)).heap[w.heap.size]? = some (.cells #[.int .i64 k1, .bool s1, .slice a1 n1 c1, .string t1, .bool b1] 26 (0, 0))) := kept5 hq GH0Bpq.out
  have GH1Bpqr : Hid ((yr.alloc (.cells #[.int .i64 0, .bool false, .slice aqr nqr cqr, .string ⟨#[]⟩, .bool false] 26)).heap[w.heap.size + 1]? = some (.cells #[.int .i64 k2, .bool s2, .slice a2 n2 c2, .string t2, .bool b2] 26 (0, 0))) := kept5 hq GH1Bpq.out
  have GHNpqr : Hid ((yr.alloc (.cells #[.int .i64 0, .bool false, .slice aqr nqr cqr, .string ⟨#[]⟩, .bool false] 26)).heap[yp.heap.size]? = some (.cells #[.int .i64 0, .bool false, .slice aqp nqp cqp, .string ⟨#[]⟩, .bool false] 26 (0, 0))) := kept5 hq GHNpq.out
  have GHNqr : Hid ((yr.alloc (.cells #[.int .i64 0, .bool false, .slice aqr nqr cqr, .string ⟨#[]⟩, .bool false] 26)).heap[yq.heap.size]? = some (.cells #[.int .i64 0, .bool false, .slice aqq nqq cqq, .string ⟨#[]⟩, .bool false] 26 (0, 0))) := kept5 hq GHNq.out
  have HNr : Hid ((yr.alloc (.cells #[.int .i64 0, .bool false, .slice aqr nqr cqr, .string ⟨#[]⟩, .bool false] 26)).heap[yr.heap.size]? = some (.cells #[.int .i64 0, .bool false, .slice aqr nqr cqr, .string ⟨#[]⟩, .bool false] 26 (0, 0))) := new_blk yr _
  have HBr : Hid (Below w.heap.size w (yr.alloc (.cells #[.int .i64 0, .bool false, .slice aqr nqr cqr, .string ⟨#[]⟩, .bool false] 26))) := HBG.out.trans (hq.mono HBG.out.size)
  clear hb hq HK3 HBG GH0Bpq GH1Bpq GHNpq GHNq a5 c5 r05 r15
  have a5 := bx5 GH0Bpqr.out
  have c5 := bx5 GH1Bpqr.out
  have r05 := bx5 GHNpqr.out
  have r15 := bx5 GHNqr.out
  have r25 := bx5 HNr.out
  go_wp2_with fail
  refine (HK4.out _ HBr.out).mono ?_
  rintro e ys ⟨⟨v, rfl, aqs, nqs, cqs, rfl, hi⟩, hb⟩
  dsimp only
  clear hi
  have hq := hb.trans (((Below.refl ys.heap.size ys).alloc (Nat.le_refl _) (.cells #[.int .i64 0, .bool false, .slice aqs nqs cqs, .string ⟨#[]⟩, .bool false] 26)).mono hb.size)
  have GH0Bpqrs : Hid ((ys.alloc (.cells #[.int .i64 0, .bool false, .slice aqs nqs cqs, .string ⟨#[]⟩, .bool false] 26)).heap[w.heap.size]? = some (.cells #[.int .i64 k1, .bool s1, .slice a1 n1 c1, .string t1, .bool b1] 26 (0, 0))) := kept5 hq GH0Bpqr.out
  have GH1Bpqrs : Hid ((ys.alloc (.cells #[.int .i64 0, .bool false, .slice aqs nqs cqs, .string ⟨#[]⟩, .bool false] 26)).heap[w.heap.size + 1]? = some (.cells #[.int .i64 k2, .bool s2, .slice a2 n2 c2, .string t2, .bool b2] 26 (0, 0))) := kept5 hq GH1Bpqr.out
  have GHNpqrs : Hid ((ys.alloc (.cells #[.int .i64 0, .bool false, .slice aqs nqs cqs, .string ⟨#[]⟩, .bool false] 26)).heap[yp.heap.size]? = some (.cells #[.int .i64 0, .bool false, .slice aqp nqp cqp, .string ⟨#[]⟩, .bool false] 26 (0, 0))) := kept5 hq GHNpqr.out
  have GHNqrs : Hid ((ys.alloc (.cells #[.int .i64 0, .bool false, .slice aqs nqs cqs, .string ⟨#[]⟩, .bool false] 26)).heap[yq.heap.size]? = some (.cells #[.int .i64 0, .bool false, .slice aqq nqq cqq, .string ⟨#[]⟩, .bool false] 26 (0, 0))) := kept5 hq GHNqr.out
  have HNrs : Hid ((ys.alloc (.cells #[.int .i64 0, .bool false, .slice aqs nqs cqs, .string ⟨#[]⟩, .bool false] 26)).heap[yr.heap.size]? = some (.cells #[.int .i64 0, .bool false, .slice aqr nqr cqr, .string ⟨#[]⟩, .bool false] 26 (0, 0))) := kept5 hq HNr.out
  have HNs : Hid ((ys.alloc (.cells #[.int .i64 0, .bool false, .slice aqs nqs cqs, .string ⟨#[]⟩, .bool false] 26)).heap[ys.heap.size]? = some (.cells #[.int .i64 0, .bool false, .slice aqs nqs cqs, .string ⟨#[]⟩, .bool false] 26 (0, 0))) := new_blk ys _
  have HBs : Hid (Below w.heap.size w (ys.alloc (.cells #[.int .i64 0, .bool false, .slice aqs nqs cqs, .string ⟨#[]⟩, .bool false] 26))) := HBr.out.trans (hq.mono HBr.out.size)
  clear hb hq HK4 HBr GH0Bpqr GH1Bpqr GHNpqr GHNqr HNr a5 c5 r05 r15 r25
  have a5 := bx5 GH0Bpqrs.out
  have c5 := bx5 GH1Bpqrs.out
  have r05 := bx5 GHNpqrs.out
  have r15 := bx5 GHNqrs.out
  have r25 := bx5 HNrs.out
  have r35 := bx5 HNs.out
  go_wp2_with (go_at_call 8; refine (awake_any _).mono ?_; rintro e z9 ⟨rfl, hb⟩; have HBZ : Hid (Below w.heap.size w z9) := HBs.out.trans (hb.mono HBs.out.size); clear hb)
  go_ret
  exact ⟨rfl, HBZ.out⟩
set_option maxRecDepth 100000 in
set_option maxHeartbeats 8000000 in
theorem lw_3t (k1 k2 : Int) (s1 s2 : Bool) (a1 a2 : Option Addr) (n1 n2 c1 c2 : Nat) (t1 t2 : ByteArray) (b1 b2 : Bool) (w : World)
    (hi1 : ∀ W, Calls Tryd.prog 7 #[cnV k1 s1 a1 n1 c1 t1 b1] W fun e w' => e = .returned (.bool true) ∧ Below W.heap.size W w')
    (hi2 : ∀ W, Calls Tryd.prog 7 #[cnV k2 s2 a2 n2 c2 t2 b2] W fun e w' => e = .returned (.bool true) ∧ Below W.heap.size W w')
    (hk1 : ∀ W, Below w.heap.size w W → Calls Tryd.prog 9 #[.string ⟨#[61, 61]⟩, cnV k1 s1 a1 n1 c1 t1 b1, cnV k2 s2 a2 n2 c2 t2 b2] W (AnsQ W ⟨3, false, 0, ⟨#[]⟩, true, 0⟩))
    (hk2 : ∀ W, Below w.heap.size w W → Calls Tryd.prog 9 #[.string ⟨#[33, 61]⟩, cnV k1 s1 a1 n1 c1 t1 b1, cnV k2 s2 a2 n2 c2 t2 b2] W (AnsQ W ⟨3, false, 0, ⟨#[]⟩, false, 0⟩))
    (hk3 : ∀ W, Below w.heap.size w W → Calls Tryd.prog 9 #[.string ⟨#[60]⟩, cnV k1 s1 a1 n1 c1 t1 b1, cnV k2 s2 a2 n2 c2 t2 b2] W (AnsQ W ⟨0, false, 0, ⟨#[]⟩, false, 6⟩))
    (hk4 : ∀ W, Below w.heap.size w W → Calls Tryd.prog 9 #[.string ⟨#[62]⟩, cnV k1 s1 a1 n1 c1 t1 b1, cnV k2 s2 a2 n2 c2 t2 b2] W (AnsQ W ⟨0, false, 0, ⟨#[]⟩, false, 6⟩))
    (heq : ∀ W, Below w.heap.size w W → Calls Tryd.prog 13 #[cnV k1 s1 a1 n1 c1 t1 b1, cnV k2 s2 a2 n2 c2 t2 b2] W fun e w' => e = .returned (.bool true) ∧ Below W.heap.size W w') :
    Calls Tryd.prog 5 #[cnV k1 s1 a1 n1 c1 t1 b1, cnV k2 s2 a2 n2 c2 t2 b2] w fun e w' => e = .returned (.bool true) ∧ Below w.heap.size w w' := by
  have HI1 : Hid (∀ W, Calls Tryd.prog 7 #[cnV k1 s1 a1 n1 c1 t1 b1] W fun e w' => e = .returned (.bool true) ∧ Below W.heap.size W w') := hi1
  have HI2 : Hid (∀ W, Calls Tryd.prog 7 #[cnV k2 s2 a2 n2 c2 t2 b2] W fun e w' => e = .returned (.bool true) ∧ Below W.heap.size W w') := hi2
  have HK1 : Hid (∀ W, Below w.heap.size w W → Calls Tryd.prog 9 #[.string ⟨#[61, 61]⟩, cnV k1 s1 a1 n1 c1 t1 b1, cnV k2 s2 a2 n2 c2 t2 b2] W (AnsQ W ⟨3, false, 0, ⟨#[]⟩, true, 0⟩)) := hk1
  have HK2 : Hid (∀ W, Below w.heap.size w W → Calls Tryd.prog 9 #[.string ⟨#[33, 61]⟩, cnV k1 s1 a1 n1 c1 t1 b1, cnV k2 s2 a2 n2 c2 t2 b2] W (AnsQ W ⟨3, false, 0, ⟨#[]⟩, false, 0⟩)) := hk2
  have HK3 : Hid (∀ W, Below w.heap.size w W → Calls Tryd.prog 9 #[.string ⟨#[60]⟩, cnV k1 s1 a1 n1 c1 t1 b1, cnV k2 s2 a2 n2 c2 t2 b2] W (AnsQ W ⟨0, false, 0, ⟨#[]⟩, false, 6⟩)) := hk3
  have HK4 : Hid (∀ W, Below w.heap.size w W → Calls Tryd.prog 9 #[.string ⟨#[62]⟩, cnV k1 s1 a1 n1 c1 t1 b1, cnV k2 s2 a2 n2 c2 t2 b2] W (AnsQ W ⟨0, false, 0, ⟨#[]⟩, false, 6⟩)) := hk4
  have HEQ : Hid (∀ W, Below w.heap.size w W → Calls Tryd.prog 13 #[cnV k1 s1 a1 n1 c1 t1 b1, cnV k2 s2 a2 n2 c2 t2 b2] W fun e w' => e = .returned (.bool true) ∧ Below W.heap.size W w') := heq
  have HB2 : Hid (Below w.heap.size w ((w.alloc (.cells #[.int .i64 k1, .bool s1, .slice a1 n1 c1, .string t1, .bool b1] 26)).alloc (.cells #[.int .i64 k2, .bool s2, .slice a2 n2 c2, .string t2, .bool b2] 26))) := two_below w _ _
  have HA2 : Hid (((w.alloc (.cells #[.int .i64 k1, .bool s1, .slice a1 n1 c1, .string t1, .bool b1] 26)).alloc (.cells #[.int .i64 k2, .bool s2, .slice a2 n2 c2, .string t2, .bool b2] 26)).heap[w.heap.size]? = some (.cells #[.int .i64 k1, .bool s1, .slice a1 n1 c1, .string t1, .bool b1] 26 (0, 0)) ∧ ((w.alloc (.cells #[.int .i64 k1, .bool s1, .slice a1 n1 c1, .string t1, .bool b1] 26)).alloc (.cells #[.int .i64 k2, .bool s2, .slice a2 n2 c2, .string t2, .bool b2] 26)).heap[w.heap.size + 1]? = some (.cells #[.int .i64 k2, .bool s2, .slice a2 n2 c2, .string t2, .bool b2] 26 (0, 0))) := ⟨kept5 ((Below.refl _ _).alloc (Nat.le_refl _) _) (new_blk w _), two_new _ _⟩
  clear hi1 hi2 hk1 hk2 hk3 hk4 heq
  go_enter Tryd.func5, Tryd.ntmps5
  go_wp2_with fail
  refine (HI1.out _).mono ?_
  rintro e x1 ⟨rfl, hb⟩
  have HBA : Hid (Below w.heap.size w x1) := HB2.out.trans (hb.mono HB2.out.size)
  have H0A : Hid (x1.heap[w.heap.size]? = some (.cells #[.int .i64 k1, .bool s1, .slice a1 n1 c1, .string t1, .bool b1] 26 (0, 0))) := kept5 hb HA2.out.1
  have H1A : Hid (x1.heap[w.heap.size + 1]? = some (.cells #[.int .i64 k2, .bool s2, .slice a2 n2 c2, .string t2, .bool b2] 26 (0, 0))) := kept5 hb HA2.out.2
  clear hb
  have c5 := bx5 H1A.out
  go_wp2_with fail
  refine (HI2.out _).mono ?_
  rintro e x2 ⟨rfl, hb⟩
  have HBB : Hid (Below w.heap.size w x2) := HBA.out.trans (hb.mono HBA.out.size)
  have H0B : Hid (x2.heap[w.heap.size]? = some (.cells #[.int .i64 k1, .bool s1, .slice a1 n1 c1, .string t1, .bool b1] 26 (0, 0))) := kept5 hb H0A.out
  have H1B : Hid (x2.heap[w.heap.size + 1]? = some (.cells #[.int .i64 k2, .bool s2, .slice a2 n2 c2, .string t2, .bool b2] 26 (0, 0))) := kept5 hb H1A.out
  clear hb c5 H0A H1A HBA HI1 HI2 HA2 HB2
  have a5 := bx5 H0B.out
  have c5 := bx5 H1B.out
  go_wp2_with fail
  refine (HK1.out _ HBB.out).mono ?_
  rintro e yp ⟨⟨v, rfl, aqp, nqp, cqp, rfl, hi⟩, hb⟩
  dsimp only
  clear hi
  have hq := hb.trans (((Below.refl yp.heap.size yp).alloc (Nat.le_refl _) (.cells #[.int .i64 3, .bool false, .slice aqp nqp cqp, .string ⟨#[]⟩, .bool true] 26)).mono hb.size)
  have H0Bp : Hid ((yp.alloc (.cells #[.int .i64 3, .bool false, .slice aqp nqp cqp, .string ⟨#[]⟩, .bool true] 26)).heap[w.heap.size]? = some (.cells #[.int .i64 k1, .bool s1, .slice a1 n1 c1, .string t1, .bool b1] 26 (0, 0))) := kept5 hq H0B.out
  have H1Bp : Hid ((yp.alloc (.cells #[.int .i64 3, .bool false, .slice aqp nqp cqp, .string ⟨#[]⟩, .bool true] 26)).heap[w.heap.size + 1]? = some (.cells #[.int .i64 k2, .bool s2, .slice a2 n2 c2, .string t2, .bool b2] 26 (0, 0))) := kept5 hq H1B.out
  have HNp : Hid ((yp.alloc (.cells #[.int .i64 3, .bool false, .slice aqp nqp cqp, .string ⟨#[]⟩, .bool true] 26)).heap[yp.heap.size]? = some (.cells #[.int .i64 3, .bool false, .slice aqp nqp cqp, .string ⟨#[]⟩, .bool true] 26 (0, 0))) := new_blk yp _
  have HBp : Hid (Below w.heap.size w (yp.alloc (.cells #[.int .i64 3, .bool false, .slice aqp nqp cqp, .string ⟨#[]⟩, .bool true] 26))) := HBB.out.trans (hq.mono HBB.out.size)
  clear hb hq HK1 HBB H0B H1B a5 c5
  have a5 := bx5 H0Bp.out
  have c5 := bx5 H1Bp.out
  have r05 := bx5 HNp.out
  go_wp2_with fail
  refine (HK2.out _ HBp.out).mono ?_
  rintro e yq ⟨⟨v, rfl, aqq, nqq, cqq, rfl, hi⟩, hb⟩
  dsimp only
  clear hi
  have hq := hb.trans (((Below.refl yq.heap.size yq).alloc (Nat.le_refl _) (.cells #[.int .i64 3, .bool false, .slice aqq nqq cqq, .string ⟨#[]⟩, .bool false] 26)).mono hb.size)
  have H0Bpq : Hid ((yq.alloc (.cells #[.int .i64 3, .bool false, .slice aqq nqq cqq, .string ⟨#[]⟩, .bool false] 26)).heap[w.heap.size]? = some (.cells #[.int .i64 k1, .bool s1, .slice a1 n1 c1, .string t1, .bool b1] 26 (0, 0))) := kept5 hq H0Bp.out
  have H1Bpq : Hid ((yq.alloc (.cells #[.int .i64 3, .bool false, .slice aqq nqq cqq, .string ⟨#[]⟩, .bool false] 26)).heap[w.heap.size + 1]? = some (.cells #[.int .i64 k2, .bool s2, .slice a2 n2 c2, .string t2, .bool b2] 26 (0, 0))) := kept5 hq H1Bp.out
  have HNpq : Hid ((yq.alloc (.cells #[.int .i64 3, .bool false, .slice aqq nqq cqq, .string ⟨#[]⟩, .bool false] 26)).heap[yp.heap.size]? = some (.cells #[.int .i64 3, .bool false, .slice aqp nqp cqp, .string ⟨#[]⟩, .bool true] 26 (0, 0))) := kept5 hq HNp.out
  have HNq : Hid ((yq.alloc (.cells #[.int .i64 3, .bool false, .slice aqq nqq cqq, .string ⟨#[]⟩, .bool false] 26)).heap[yq.heap.size]? = some (.cells #[.int .i64 3, .bool false, .slice aqq nqq cqq, .string ⟨#[]⟩, .bool false] 26 (0, 0))) := new_blk yq _
  have HBq : Hid (Below w.heap.size w (yq.alloc (.cells #[.int .i64 3, .bool false, .slice aqq nqq cqq, .string ⟨#[]⟩, .bool false] 26))) := HBp.out.trans (hq.mono HBp.out.size)
  clear hb hq HK2 HBp H0Bp H1Bp HNp a5 c5 r05
  have a5 := bx5 H0Bpq.out
  have c5 := bx5 H1Bpq.out
  have r05 := bx5 HNpq.out
  have r15 := bx5 HNq.out
  go_wp2_with fail
  obtain ⟨wr, hwr⟩ : ∃ wr, (yq.alloc (.cells #[.int .i64 3, .bool false, .slice aqq nqq cqq, .string ⟨#[]⟩, .bool false] 26)) = wr := ⟨_, rfl⟩
  rw [hwr] at H0Bpq H1Bpq HNpq HNq HBq ⊢
  clear a5 c5 r05 r15 hwr
  have HKP : Hid (∀ W', Below wr.heap.size wr W' → W'.cell? ⟨w.heap.size, 0, none⟩ = some (.int .i64 k1) ∧ W'.cell? ⟨w.heap.size, 1, none⟩ = some (.bool s1) ∧ W'.cell? ⟨w.heap.size, 2, none⟩ = some (.slice a1 n1 c1) ∧ W'.cell? ⟨w.heap.size, 3, none⟩ = some (.string t1) ∧ W'.cell? ⟨w.heap.size, 4, none⟩ = some (.bool b1) ∧ W'.cell? ⟨w.heap.size + 1, 0, none⟩ = some (.int .i64 k2) ∧ W'.cell? ⟨w.heap.size + 1, 1, none⟩ = some (.bool s2) ∧ W'.cell? ⟨w.heap.size + 1, 2, none⟩ = some (.slice a2 n2 c2) ∧ W'.cell? ⟨w.heap.size + 1, 3, none⟩ = some (.string t2) ∧ W'.cell? ⟨w.heap.size + 1, 4, none⟩ = some (.bool b2) ∧ W'.cell? ⟨yp.heap.size, 0, none⟩ = some (.int .i64 3) ∧ W'.cell? ⟨yp.heap.size, 1, none⟩ = some (.bool false) ∧ W'.cell? ⟨yp.heap.size, 2, none⟩ = some (.slice aqp nqp cqp) ∧ W'.cell? ⟨yp.heap.size, 3, none⟩ = some (.string ⟨#[]⟩) ∧ W'.cell? ⟨yp.heap.size, 4, none⟩ = some (.bool true) ∧ W'.cell? ⟨yq.heap.size, 0, none⟩ = some (.int .i64 3) ∧ W'.cell? ⟨yq.heap.size, 1, none⟩ = some (.bool false) ∧ W'.cell? ⟨yq.heap.size, 2, none⟩ = some (.slice aqq nqq cqq) ∧ W'.cell? ⟨yq.heap.size, 3, none⟩ = some (.string ⟨#[]⟩) ∧ W'.cell? ⟨yq.heap.size, 4, none⟩ = some (.bool false)) := fun W' hb => by
    obtain ⟨p00, p01, p02, p03, p04⟩ := bx5 (kept5 hb H0Bpq.out)
    obtain ⟨p10, p11, p12, p13, p14⟩ := bx5 (kept5 hb H1Bpq.out)
    obtain ⟨p20, p21, p22, p23, p24⟩ := bx5 (kept5 hb HNpq.out)
    obtain ⟨p30, p31, p32, p33, p34⟩ := bx5 (kept5 hb HNq.out)
    exact ⟨p00, p01, p02, p03, p04, p10, p11, p12, p13, p14, p20, p21, p22, p23, p24, p30, p31, p32, p33, p34⟩
  have kS := HKP.out wr (Below.refl _ _)
  refine wp_region_held_drew (S := fun w' => w'.cell? ⟨w.heap.size, 0, none⟩ = some (.int .i64 k1) ∧ w'.cell? ⟨w.heap.size, 1, none⟩ = some (.bool s1) ∧ w'.cell? ⟨w.heap.size, 2, none⟩ = some (.slice a1 n1 c1) ∧ w'.cell? ⟨w.heap.size, 3, none⟩ = some (.string t1) ∧ w'.cell? ⟨w.heap.size, 4, none⟩ = some (.bool b1) ∧ w'.cell? ⟨w.heap.size + 1, 0, none⟩ = some (.int .i64 k2) ∧ w'.cell? ⟨w.heap.size + 1, 1, none⟩ = some (.bool s2) ∧ w'.cell? ⟨w.heap.size + 1, 2, none⟩ = some (.slice a2 n2 c2) ∧ w'.cell? ⟨w.heap.size + 1, 3, none⟩ = some (.string t2) ∧ w'.cell? ⟨w.heap.size + 1, 4, none⟩ = some (.bool b2) ∧ w'.cell? ⟨yp.heap.size, 0, none⟩ = some (.int .i64 3) ∧ w'.cell? ⟨yp.heap.size, 1, none⟩ = some (.bool false) ∧ w'.cell? ⟨yp.heap.size, 2, none⟩ = some (.slice aqp nqp cqp) ∧ w'.cell? ⟨yp.heap.size, 3, none⟩ = some (.string ⟨#[]⟩) ∧ w'.cell? ⟨yp.heap.size, 4, none⟩ = some (.bool true) ∧ w'.cell? ⟨yq.heap.size, 0, none⟩ = some (.int .i64 3) ∧ w'.cell? ⟨yq.heap.size, 1, none⟩ = some (.bool false) ∧ w'.cell? ⟨yq.heap.size, 2, none⟩ = some (.slice aqq nqq cqq) ∧ w'.cell? ⟨yq.heap.size, 3, none⟩ = some (.string ⟨#[]⟩) ∧ w'.cell? ⟨yq.heap.size, 4, none⟩ = some (.bool false)) (by kernel_rfl) (by exact kS) (fun hHeld => ?_)
  clear hHeld
  refine wpAnyH_take (i := 0) (oi := { dst := some 35, op := Op.move (Operand.tmp 6), type := 29, pos := "law.go:62", after := #[], guard := none }) (v := ?_) rfl (by kernel_rfl) (by kernel_rfl) (by kernel_rfl) (fun _ _ _ h => h) (Or.inl ⟨by rfl, ?_⟩) (by exact kS) ?_
  rotate_left
  · intro w hSw; (try dsimp only at hSw); (go_simp <;> with_reducible rfl)
  try simp only [Act.put, List.setIfInBounds_toArray, List.set_cons_zero, List.set_cons_succ]
  refine wpAnyH_take (i := 1) (oi := { dst := some 36, op := Op.move (Operand.tmp 8), type := 29, pos := "law.go:62", after := #[], guard := none }) (v := ?_) rfl (by kernel_rfl) (by kernel_rfl) (by kernel_rfl) (fun _ _ _ h => h) (Or.inl ⟨by rfl, ?_⟩) (by exact kS) ?_
  rotate_left
  · intro w hSw; (try dsimp only at hSw); (go_simp <;> with_reducible rfl)
  try simp only [Act.put, List.setIfInBounds_toArray, List.set_cons_zero, List.set_cons_succ]
  refine wpAnyH_take (i := 2) (oi := { dst := some 37, op := Op.binOp BinOp.neq 29 (Operand.tmp 35) (Operand.tmp 36) 29, type := 4, pos := "law.go:62", after := #[{ on := 0, ground := Ground.data }, { on := 1, ground := Ground.data }], guard := none }) (v := ?_) rfl (by kernel_rfl) (by kernel_rfl) (by kernel_rfl) (fun _ _ _ h => h) (Or.inl ⟨by rfl, ?_⟩) (by exact kS) ?_
  rotate_left
  · intro w hSw; (try dsimp only at hSw); (go_simp <;> with_reducible rfl)
  try simp only [Act.put, List.setIfInBounds_toArray, List.set_cons_zero, List.set_cons_succ]
  refine wpAnyH_take (i := 3) (oi := { dst := some 38, op := Op.move (Operand.tmp 37), type := 4, pos := "law.go:62", after := #[{ on := 2, ground := Ground.data }], guard := none }) (v := ?_) rfl (by kernel_rfl) (by kernel_rfl) (by kernel_rfl) (fun _ _ _ h => h) (Or.inl ⟨by rfl, ?_⟩) (by exact kS) ?_
  rotate_left
  · intro w hSw; (try dsimp only at hSw); (go_simp <;> with_reducible rfl)
  try simp only [Act.put, List.setIfInBounds_toArray, List.set_cons_zero, List.set_cons_succ]
  refine wpAnyH_take (i := 4) (oi := { dst := some 39, op := Op.move (Operand.tmp 6), type := 29, pos := "law.go:62", after := #[{ on := 3, ground := Ground.guard }], guard := some (3, false) }) (v := ?_) rfl (by kernel_rfl) (by kernel_rfl) (by kernel_rfl) (fun _ _ _ h => h) (Or.inl ⟨by rfl, ?_⟩) (by exact kS) ?_
  rotate_left
  · intro w hSw; (try dsimp only at hSw); (go_simp <;> with_reducible rfl)
  try simp only [Act.put, List.setIfInBounds_toArray, List.set_cons_zero, List.set_cons_succ]
  refine wpAnyH_take (i := 5) (oi := { dst := some 40, op := Op.binOp BinOp.eql 29 (Operand.tmp 39) (Operand.const (Value.int IntKind.i64 0)) 29, type := 4, pos := "law.go:62", after := #[{ on := 4, ground := Ground.data }, { on := 3, ground := Ground.guard }], guard := some (3, false) }) (v := ?_) rfl (by kernel_rfl) (by kernel_rfl) (by kernel_rfl) (fun _ _ _ h => h) (Or.inl ⟨by rfl, ?_⟩) (by exact kS) ?_
  rotate_left
  · intro w hSw; (try dsimp only at hSw); (go_simp <;> with_reducible rfl)
  try simp only [Act.put, List.setIfInBounds_toArray, List.set_cons_zero, List.set_cons_succ]
  refine wpAnyH_take (i := 6) (oi := { dst := some 41, op := Op.move (Operand.tmp 40), type := 4, pos := "law.go:62", after := #[{ on := 5, ground := Ground.data }, { on := 3, ground := Ground.chain }, { on := 3, ground := Ground.guard }], guard := some (3, false) }) (v := ?_) rfl (by kernel_rfl) (by kernel_rfl) (by kernel_rfl) (fun _ _ _ h => h) (Or.inl ⟨by rfl, ?_⟩) (by exact kS) ?_
  rotate_left
  · intro w hSw; (try dsimp only at hSw); (go_simp <;> with_reducible rfl)
  try simp only [Act.put, List.setIfInBounds_toArray, List.set_cons_zero, List.set_cons_succ]
  refine wpAnyH_take (i := 7) (oi := { dst := some 42, op := Op.fieldAddr 26 (Operand.tmp 5) 3, type := 0, pos := "law.go:62", after := #[{ on := 6, ground := Ground.guard }], guard := some (6, true) }) (v := ?_) rfl (by kernel_rfl) (by kernel_rfl) (by kernel_rfl) (fun _ _ _ h => h) (Or.inl ⟨by rfl, ?_⟩) (by exact kS) ?_
  rotate_left
  · intro w hSw; (try dsimp only at hSw); (go_simp <;> with_reducible rfl)
  try simp only [Act.put, List.setIfInBounds_toArray, List.set_cons_zero, List.set_cons_succ]
  refine wpAnyH_take (i := 8) (oi := { dst := some 43, op := Op.load 4 (Operand.tmp 42), type := 4, pos := "law.go:62", after := #[{ on := 7, ground := Ground.data }, { on := 6, ground := Ground.guard }], guard := some (6, true) }) (v := ?_) rfl (by kernel_rfl) (by kernel_rfl) (by kernel_rfl) (fun _ _ _ h => h) (Or.inl ⟨by rfl, ?_⟩) (by exact kS) ?_
  rotate_left
  · intro w hSw; (try dsimp only at hSw); (go_simp <;> with_reducible rfl)
  try simp only [Act.put, List.setIfInBounds_toArray, List.set_cons_zero, List.set_cons_succ]
  refine wpAnyH_take (i := 9) (oi := { dst := some 44, op := Op.fieldAddr 26 (Operand.tmp 7) 3, type := 0, pos := "law.go:62", after := #[{ on := 6, ground := Ground.guard }], guard := some (6, true) }) (v := ?_) rfl (by kernel_rfl) (by kernel_rfl) (by kernel_rfl) (fun _ _ _ h => h) (Or.inl ⟨by rfl, ?_⟩) (by exact kS) ?_
  rotate_left
  · intro w hSw; (try dsimp only at hSw); (go_simp <;> with_reducible rfl)
  try simp only [Act.put, List.setIfInBounds_toArray, List.set_cons_zero, List.set_cons_succ]
  refine wpAnyH_take (i := 10) (oi := { dst := some 45, op := Op.load 4 (Operand.tmp 44), type := 4, pos := "law.go:62", after := #[{ on := 9, ground := Ground.data }, { on := 6, ground := Ground.guard }], guard := some (6, true) }) (v := ?_) rfl (by kernel_rfl) (by kernel_rfl) (by kernel_rfl) (fun _ _ _ h => h) (Or.inl ⟨by rfl, ?_⟩) (by exact kS) ?_
  rotate_left
  · intro w hSw; (try dsimp only at hSw); (go_simp <;> with_reducible rfl)
  try simp only [Act.put, List.setIfInBounds_toArray, List.set_cons_zero, List.set_cons_succ]
  refine wpAnyH_take (i := 11) (oi := { dst := some 46, op := Op.binOp BinOp.eql 4 (Operand.tmp 43) (Operand.tmp 45) 4, type := 4, pos := "law.go:62", after := #[{ on := 8, ground := Ground.data }, { on := 10, ground := Ground.data }, { on := 6, ground := Ground.guard }], guard := some (6, true) }) (v := ?_) rfl (by kernel_rfl) (by kernel_rfl) (by kernel_rfl) (fun _ _ _ h => h) (Or.inl ⟨by rfl, ?_⟩) (by exact kS) ?_
  rotate_left
  · intro w hSw; (try dsimp only at hSw); (go_simp <;> with_reducible rfl)
  try simp only [Act.put, List.setIfInBounds_toArray, List.set_cons_zero, List.set_cons_succ]
  refine wpAnyH_take (i := 12) (oi := { dst := some 47, op := Op.move (Operand.tmp 46), type := 4, pos := "law.go:62", after := #[{ on := 11, ground := Ground.data }, { on := 6, ground := Ground.chain }, { on := 6, ground := Ground.guard }], guard := some (6, true) }) (v := ?_) rfl (by kernel_rfl) (by kernel_rfl) (by kernel_rfl) (fun _ _ _ h => h) (Or.inl ⟨by rfl, ?_⟩) (by exact kS) ?_
  rotate_left
  · intro w hSw; (try dsimp only at hSw); (go_simp <;> with_reducible rfl)
  try simp only [Act.put, List.setIfInBounds_toArray, List.set_cons_zero, List.set_cons_succ]
  refine wpAnyH_take (i := 13) (oi := { dst := some 48, op := Op.fieldAddr 26 (Operand.tmp 5) 3, type := 0, pos := "law.go:62", after := #[{ on := 12, ground := Ground.guard }], guard := some (12, false) }) (v := ?_) rfl (by kernel_rfl) (by kernel_rfl) (by kernel_rfl) (fun _ _ _ h => h) (Or.inl ⟨by rfl, ?_⟩) (by exact kS) ?_
  rotate_left
  · intro w hSw; (try dsimp only at hSw); (go_simp <;> with_reducible rfl)
  try simp only [Act.put, List.setIfInBounds_toArray, List.set_cons_zero, List.set_cons_succ]
  refine wpAnyH_take (i := 14) (oi := { dst := some 49, op := Op.load 4 (Operand.tmp 48), type := 4, pos := "law.go:62", after := #[{ on := 13, ground := Ground.data }, { on := 12, ground := Ground.guard }], guard := some (12, false) }) (v := ?_) rfl (by kernel_rfl) (by kernel_rfl) (by kernel_rfl) (fun _ _ _ h => h) (Or.inl ⟨by rfl, ?_⟩) (by exact kS) ?_
  rotate_left
  · intro w hSw; (try dsimp only at hSw); (go_simp <;> with_reducible rfl)
  try simp only [Act.put, List.setIfInBounds_toArray, List.set_cons_zero, List.set_cons_succ]
  refine wpAnyH_take (i := 15) (oi := { dst := some 50, op := Op.load 26 (Operand.tmp 2), type := 26, pos := "law.go:62", after := #[{ on := 12, ground := Ground.guard }], guard := some (12, false) }) (v := ?_) rfl (by kernel_rfl) (by kernel_rfl) (by kernel_rfl) (fun _ _ _ h => h) (Or.inl ⟨by rfl, ?_⟩) (by exact kS) ?_
  rotate_left
  · intro w hSw; (try dsimp only at hSw); (go_simp <;> with_reducible rfl)
  try simp only [Act.put, List.setIfInBounds_toArray, List.set_cons_zero, List.set_cons_succ]
  refine wpAnyH_take (i := 16) (oi := { dst := some 51, op := Op.load 26 (Operand.tmp 3), type := 26, pos := "law.go:62", after := #[{ on := 12, ground := Ground.guard }], guard := some (12, false) }) (v := ?_) rfl (by kernel_rfl) (by kernel_rfl) (by kernel_rfl) (fun _ _ _ h => h) (Or.inl ⟨by rfl, ?_⟩) (by exact kS) ?_
  rotate_left
  · intro w hSw; (try dsimp only at hSw); (go_simp <;> with_reducible rfl)
  try simp only [Act.put, List.setIfInBounds_toArray, List.set_cons_zero, List.set_cons_succ]
  refine wpAnyH_ready (rs := [17]) (by kernel_rfl) (by simp) ?_
  refine AllReadyH.cons (o := { dst := some 52, op := Op.call { callee := Callee.value (Operand.func 13), args := #[Operand.tmp 50, Operand.tmp 51], argTypes := #[26, 26] }, type := 4, pos := "law.go:62", after := #[{ on := 15, ground := Ground.data }, { on := 16, ground := Ground.data }, { on := 12, ground := Ground.chain }, { on := 12, ground := Ground.guard }], guard := some (12, false) }) rfl (fun K hK => ?_) AllReadyH.nil
  go_simp
  go_at_call 13; refine (HEQ.out _ (HBq.out.trans ((Below.refl _ wr).drew.mono HBq.out.size))).mono ?_; rintro e z1 ⟨rfl, hb⟩; have HBE : Hid (Below wr.heap.size wr z1) := (Below.refl _ wr).drew.trans hb; have kS := HKP.out z1 HBE.out; clear hb
  go_wp2_with fail
  refine hK.out _ _ (by exact kS) (fun hHeld => ?_)
  clear hK K hHeld
  try simp only [Act.put, List.setIfInBounds_toArray, List.set_cons_zero, List.set_cons_succ]
  refine wpAnyH_take (i := 18) (oi := { dst := some 53, op := Op.binOp BinOp.neq 4 (Operand.tmp 49) (Operand.tmp 52) 4, type := 4, pos := "law.go:62", after := #[{ on := 14, ground := Ground.data }, { on := 17, ground := Ground.data }, { on := 12, ground := Ground.guard }], guard := some (12, false) }) (v := ?_) rfl (by kernel_rfl) (by kernel_rfl) (by kernel_rfl) (fun _ _ _ h => h) (Or.inl ⟨by rfl, ?_⟩) (by exact kS) ?_
  rotate_left
  · intro w hSw; (try dsimp only at hSw); (go_simp <;> with_reducible rfl)
  try simp only [Act.put, List.setIfInBounds_toArray, List.set_cons_zero, List.set_cons_succ]
  refine wpAnyH_take (i := 19) (oi := { dst := some 54, op := Op.pick (Operand.tmp 47) (Operand.const (Value.bool true)) (Operand.tmp 53), type := 4, pos := "law.go:62", after := #[{ on := 12, ground := Ground.data }, { on := 18, ground := Ground.data }, { on := 6, ground := Ground.guard }], guard := some (6, true) }) (v := ?_) rfl (by kernel_rfl) (by kernel_rfl) (by kernel_rfl) (fun _ _ _ h => h) (Or.inl ⟨by rfl, ?_⟩) (by exact kS) ?_
  rotate_left
  · intro w hSw; (try dsimp only at hSw); (go_simp <;> with_reducible rfl)
  try simp only [Act.put, List.setIfInBounds_toArray, List.set_cons_zero, List.set_cons_succ]
  refine wpAnyH_take (i := 20) (oi := { dst := some 55, op := Op.pick (Operand.tmp 41) (Operand.tmp 54) (Operand.const (Value.bool false)), type := 4, pos := "law.go:62", after := #[{ on := 6, ground := Ground.data }, { on := 19, ground := Ground.data }, { on := 3, ground := Ground.guard }], guard := some (3, false) }) (v := ?_) rfl (by kernel_rfl) (by kernel_rfl) (by kernel_rfl) (fun _ _ _ h => h) (Or.inl ⟨by rfl, ?_⟩) (by exact kS) ?_
  rotate_left
  · intro w hSw; (try dsimp only at hSw); (go_simp <;> with_reducible rfl)
  try simp only [Act.put, List.setIfInBounds_toArray, List.set_cons_zero, List.set_cons_succ]
  refine wpAnyH_take (i := 21) (oi := { dst := some 56, op := Op.pick (Operand.tmp 38) (Operand.const (Value.bool true)) (Operand.tmp 55), type := 4, pos := "law.go:62", after := #[{ on := 3, ground := Ground.data }, { on := 20, ground := Ground.data }], guard := none }) (v := ?_) rfl (by kernel_rfl) (by kernel_rfl) (by kernel_rfl) (fun _ _ _ h => h) (Or.inl ⟨by rfl, ?_⟩) (by exact kS) ?_
  rotate_left
  · intro w hSw; (try dsimp only at hSw); (go_simp <;> with_reducible rfl)
  try simp only [Act.put, List.setIfInBounds_toArray, List.set_cons_zero, List.set_cons_succ]
  refine wpAnyH_done (by kernel_rfl) ?_ _
  clear kS
  have GH0Bpq : Hid (z1.heap[w.heap.size]? = some (.cells #[.int .i64 k1, .bool s1, .slice a1 n1 c1, .string t1, .bool b1] 26 (0, 0))) := kept5 HBE.out H0Bpq.out
  have GH1Bpq : Hid (z1.heap[w.heap.size + 1]? = some (.cells #[.int .i64 k2, .bool s2, .slice a2 n2 c2, .string t2, .bool b2] 26 (0, 0))) := kept5 HBE.out H1Bpq.out
  have GHNpq : Hid (z1.heap[yp.heap.size]? = some (.cells #[.int .i64 3, .bool false, .slice aqp nqp cqp, .string ⟨#[]⟩, .bool true] 26 (0, 0))) := kept5 HBE.out HNpq.out
  have GHNq : Hid (z1.heap[yq.heap.size]? = some (.cells #[.int .i64 3, .bool false, .slice aqq nqq cqq, .string ⟨#[]⟩, .bool false] 26 (0, 0))) := kept5 HBE.out HNq.out
  have HBG : Hid (Below w.heap.size w z1) := HBq.out.trans (HBE.out.mono HBq.out.size)
  clear HKP H0Bpq H1Bpq HNpq HNq HBq HBE
  have a5 := bx5 GH0Bpq.out
  have c5 := bx5 GH1Bpq.out
  have r05 := bx5 GHNpq.out
  have r15 := bx5 GHNq.out
  go_wp2_with fail
  refine (HK3.out _ HBG.out).mono ?_
  rintro e yr ⟨⟨v, rfl, aqr, nqr, cqr, rfl, hi⟩, hb⟩
  dsimp only
  clear hi
  have hq := hb.trans (((Below.refl yr.heap.size yr).alloc (Nat.le_refl _) (.cells #[.int .i64 0, .bool false, .slice aqr nqr cqr, .string ⟨#[]⟩, .bool false] 26)).mono hb.size)
  have GH0Bpqr : Hid ((yr.alloc (.cells #[.int .i64 0, .bool false, .slice aqr nqr cqr, .string ⟨#[]⟩, .bool false] 26)).heap[w.heap.size]? = some (.cells #[.int .i64 k1, .bool s1, .slice a1 n1 c1, .string t1, .bool b1] 26 (0, 0))) := kept5 hq GH0Bpq.out
  have GH1Bpqr : Hid ((yr.alloc (.cells #[.int .i64 0, .bool false, .slice aqr nqr cqr, .string ⟨#[]⟩, .bool false] 26)).heap[w.heap.size + 1]? = some (.cells #[.int .i64 k2, .bool s2, .slice a2 n2 c2, .string t2, .bool b2] 26 (0, 0))) := kept5 hq GH1Bpq.out
  have GHNpqr : Hid ((yr.alloc (.cells #[.int .i64 0, .bool false, .slice aqr nqr cqr, .string ⟨#[]⟩, .bool false] 26)).heap[yp.heap.size]? = some (.cells #[.int .i64 3, .bool false, .slice aqp nqp cqp, .string ⟨#[]⟩, .bool true] 26 (0, 0))) := kept5 hq GHNpq.out
  have GHNqr : Hid ((yr.alloc (.cells #[.int .i64 0, .bool false, .slice aqr nqr cqr, .string ⟨#[]⟩, .bool false] 26)).heap[yq.heap.size]? = some (.cells #[.int .i64 3, .bool false, .slice aqq nqq cqq, .string ⟨#[]⟩, .bool false] 26 (0, 0))) := kept5 hq GHNq.out
  have HNr : Hid ((yr.alloc (.cells #[.int .i64 0, .bool false, .slice aqr nqr cqr, .string ⟨#[]⟩, .bool false] 26)).heap[yr.heap.size]? = some (.cells #[.int .i64 0, .bool false, .slice aqr nqr cqr, .string ⟨#[]⟩, .bool false] 26 (0, 0))) := new_blk yr _
  have HBr : Hid (Below w.heap.size w (yr.alloc (.cells #[.int .i64 0, .bool false, .slice aqr nqr cqr, .string ⟨#[]⟩, .bool false] 26))) := HBG.out.trans (hq.mono HBG.out.size)
  clear hb hq HK3 HBG GH0Bpq GH1Bpq GHNpq GHNq a5 c5 r05 r15
  have a5 := bx5 GH0Bpqr.out
  have c5 := bx5 GH1Bpqr.out
  have r05 := bx5 GHNpqr.out
  have r15 := bx5 GHNqr.out
  have r25 := bx5 HNr.out
  go_wp2_with fail
  refine (HK4.out _ HBr.out).mono ?_
  rintro e ys ⟨⟨v, rfl, aqs, nqs, cqs, rfl, hi⟩, hb⟩
  dsimp only
  clear hi
  have hq := hb.trans (((Below.refl ys.heap.size ys).alloc (Nat.le_refl _) (.cells #[.int .i64 0, .bool false, .slice aqs nqs cqs, .string ⟨#[]⟩, .bool false] 26)).mono hb.size)
  have GH0Bpqrs : Hid ((ys.alloc (.cells #[.int .i64 0, .bool false, .slice aqs nqs cqs, .string ⟨#[]⟩, .bool false] 26)).heap[w.heap.size]? = some (.cells #[.int .i64 k1, .bool s1, .slice a1 n1 c1, .string t1, .bool b1] 26 (0, 0))) := kept5 hq GH0Bpqr.out
  have GH1Bpqrs : Hid ((ys.alloc (.cells #[.int .i64 0, .bool false, .slice aqs nqs cqs, .string ⟨#[]⟩, .bool false] 26)).heap[w.heap.size + 1]? = some (.cells #[.int .i64 k2, .bool s2, .slice a2 n2 c2, .string t2, .bool b2] 26 (0, 0))) := kept5 hq GH1Bpqr.out
  have GHNpqrs : Hid ((ys.alloc (.cells #[.int .i64 0, .bool false, .slice aqs nqs cqs, .string ⟨#[]⟩, .bool false] 26)).heap[yp.heap.size]? = some (.cells #[.int .i64 3, .bool false, .slice aqp nqp cqp, .string ⟨#[]⟩, .bool true] 26 (0, 0))) := kept5 hq GHNpqr.out
  have GHNqrs : Hid ((ys.alloc (.cells #[.int .i64 0, .bool false, .slice aqs nqs cqs, .string ⟨#[]⟩, .bool false] 26)).heap[yq.heap.size]? = some (.cells #[.int .i64 3, .bool false, .slice aqq nqq cqq, .string ⟨#[]⟩, .bool false] 26 (0, 0))) := kept5 hq GHNqr.out
  have HNrs : Hid ((ys.alloc (.cells #[.int .i64 0, .bool false, .slice aqs nqs cqs, .string ⟨#[]⟩, .bool false] 26)).heap[yr.heap.size]? = some (.cells #[.int .i64 0, .bool false, .slice aqr nqr cqr, .string ⟨#[]⟩, .bool false] 26 (0, 0))) := kept5 hq HNr.out
  have HNs : Hid ((ys.alloc (.cells #[.int .i64 0, .bool false, .slice aqs nqs cqs, .string ⟨#[]⟩, .bool false] 26)).heap[ys.heap.size]? = some (.cells #[.int .i64 0, .bool false, .slice aqs nqs cqs, .string ⟨#[]⟩, .bool false] 26 (0, 0))) := new_blk ys _
  have HBs : Hid (Below w.heap.size w (ys.alloc (.cells #[.int .i64 0, .bool false, .slice aqs nqs cqs, .string ⟨#[]⟩, .bool false] 26))) := HBr.out.trans (hq.mono HBr.out.size)
  clear hb hq HK4 HBr GH0Bpqr GH1Bpqr GHNpqr GHNqr HNr a5 c5 r05 r15 r25
  have a5 := bx5 GH0Bpqrs.out
  have c5 := bx5 GH1Bpqrs.out
  have r05 := bx5 GHNpqrs.out
  have r15 := bx5 GHNqrs.out
  have r25 := bx5 HNrs.out
  have r35 := bx5 HNs.out
  go_wp2_with (go_at_call 8; refine (awake_any _).mono ?_; rintro e z9 ⟨rfl, hb⟩; have HBZ : Hid (Below w.heap.size w z9) := HBs.out.trans (hb.mono HBs.out.size); clear hb)
  go_ret
  exact ⟨rfl, HBZ.out⟩
set_option maxRecDepth 100000 in
set_option maxHeartbeats 8000000 in
theorem lw_3f (k1 k2 : Int) (s1 s2 : Bool) (a1 a2 : Option Addr) (n1 n2 c1 c2 : Nat) (t1 t2 : ByteArray) (b1 b2 : Bool) (w : World)
    (hi1 : ∀ W, Calls Tryd.prog 7 #[cnV k1 s1 a1 n1 c1 t1 b1] W fun e w' => e = .returned (.bool true) ∧ Below W.heap.size W w')
    (hi2 : ∀ W, Calls Tryd.prog 7 #[cnV k2 s2 a2 n2 c2 t2 b2] W fun e w' => e = .returned (.bool true) ∧ Below W.heap.size W w')
    (hk1 : ∀ W, Below w.heap.size w W → Calls Tryd.prog 9 #[.string ⟨#[61, 61]⟩, cnV k1 s1 a1 n1 c1 t1 b1, cnV k2 s2 a2 n2 c2 t2 b2] W (AnsQ W ⟨3, false, 0, ⟨#[]⟩, false, 0⟩))
    (hk2 : ∀ W, Below w.heap.size w W → Calls Tryd.prog 9 #[.string ⟨#[33, 61]⟩, cnV k1 s1 a1 n1 c1 t1 b1, cnV k2 s2 a2 n2 c2 t2 b2] W (AnsQ W ⟨3, false, 0, ⟨#[]⟩, true, 0⟩))
    (hk3 : ∀ W, Below w.heap.size w W → Calls Tryd.prog 9 #[.string ⟨#[60]⟩, cnV k1 s1 a1 n1 c1 t1 b1, cnV k2 s2 a2 n2 c2 t2 b2] W (AnsQ W ⟨0, false, 0, ⟨#[]⟩, false, 6⟩))
    (hk4 : ∀ W, Below w.heap.size w W → Calls Tryd.prog 9 #[.string ⟨#[62]⟩, cnV k1 s1 a1 n1 c1 t1 b1, cnV k2 s2 a2 n2 c2 t2 b2] W (AnsQ W ⟨0, false, 0, ⟨#[]⟩, false, 6⟩))
    (heq : ∀ W, Below w.heap.size w W → Calls Tryd.prog 13 #[cnV k1 s1 a1 n1 c1 t1 b1, cnV k2 s2 a2 n2 c2 t2 b2] W fun e w' => e = .returned (.bool false) ∧ Below W.heap.size W w') :
    Calls Tryd.prog 5 #[cnV k1 s1 a1 n1 c1 t1 b1, cnV k2 s2 a2 n2 c2 t2 b2] w fun e w' => e = .returned (.bool true) ∧ Below w.heap.size w w' := by
  have HI1 : Hid (∀ W, Calls Tryd.prog 7 #[cnV k1 s1 a1 n1 c1 t1 b1] W fun e w' => e = .returned (.bool true) ∧ Below W.heap.size W w') := hi1
  have HI2 : Hid (∀ W, Calls Tryd.prog 7 #[cnV k2 s2 a2 n2 c2 t2 b2] W fun e w' => e = .returned (.bool true) ∧ Below W.heap.size W w') := hi2
  have HK1 : Hid (∀ W, Below w.heap.size w W → Calls Tryd.prog 9 #[.string ⟨#[61, 61]⟩, cnV k1 s1 a1 n1 c1 t1 b1, cnV k2 s2 a2 n2 c2 t2 b2] W (AnsQ W ⟨3, false, 0, ⟨#[]⟩, false, 0⟩)) := hk1
  have HK2 : Hid (∀ W, Below w.heap.size w W → Calls Tryd.prog 9 #[.string ⟨#[33, 61]⟩, cnV k1 s1 a1 n1 c1 t1 b1, cnV k2 s2 a2 n2 c2 t2 b2] W (AnsQ W ⟨3, false, 0, ⟨#[]⟩, true, 0⟩)) := hk2
  have HK3 : Hid (∀ W, Below w.heap.size w W → Calls Tryd.prog 9 #[.string ⟨#[60]⟩, cnV k1 s1 a1 n1 c1 t1 b1, cnV k2 s2 a2 n2 c2 t2 b2] W (AnsQ W ⟨0, false, 0, ⟨#[]⟩, false, 6⟩)) := hk3
  have HK4 : Hid (∀ W, Below w.heap.size w W → Calls Tryd.prog 9 #[.string ⟨#[62]⟩, cnV k1 s1 a1 n1 c1 t1 b1, cnV k2 s2 a2 n2 c2 t2 b2] W (AnsQ W ⟨0, false, 0, ⟨#[]⟩, false, 6⟩)) := hk4
  have HEQ : Hid (∀ W, Below w.heap.size w W → Calls Tryd.prog 13 #[cnV k1 s1 a1 n1 c1 t1 b1, cnV k2 s2 a2 n2 c2 t2 b2] W fun e w' => e = .returned (.bool false) ∧ Below W.heap.size W w') := heq
  have HB2 : Hid (Below w.heap.size w ((w.alloc (.cells #[.int .i64 k1, .bool s1, .slice a1 n1 c1, .string t1, .bool b1] 26)).alloc (.cells #[.int .i64 k2, .bool s2, .slice a2 n2 c2, .string t2, .bool b2] 26))) := two_below w _ _
  have HA2 : Hid (((w.alloc (.cells #[.int .i64 k1, .bool s1, .slice a1 n1 c1, .string t1, .bool b1] 26)).alloc (.cells #[.int .i64 k2, .bool s2, .slice a2 n2 c2, .string t2, .bool b2] 26)).heap[w.heap.size]? = some (.cells #[.int .i64 k1, .bool s1, .slice a1 n1 c1, .string t1, .bool b1] 26 (0, 0)) ∧ ((w.alloc (.cells #[.int .i64 k1, .bool s1, .slice a1 n1 c1, .string t1, .bool b1] 26)).alloc (.cells #[.int .i64 k2, .bool s2, .slice a2 n2 c2, .string t2, .bool b2] 26)).heap[w.heap.size + 1]? = some (.cells #[.int .i64 k2, .bool s2, .slice a2 n2 c2, .string t2, .bool b2] 26 (0, 0))) := ⟨kept5 ((Below.refl _ _).alloc (Nat.le_refl _) _) (new_blk w _), two_new _ _⟩
  clear hi1 hi2 hk1 hk2 hk3 hk4 heq
  go_enter Tryd.func5, Tryd.ntmps5
  go_wp2_with fail
  refine (HI1.out _).mono ?_
  rintro e x1 ⟨rfl, hb⟩
  have HBA : Hid (Below w.heap.size w x1) := HB2.out.trans (hb.mono HB2.out.size)
  have H0A : Hid (x1.heap[w.heap.size]? = some (.cells #[.int .i64 k1, .bool s1, .slice a1 n1 c1, .string t1, .bool b1] 26 (0, 0))) := kept5 hb HA2.out.1
  have H1A : Hid (x1.heap[w.heap.size + 1]? = some (.cells #[.int .i64 k2, .bool s2, .slice a2 n2 c2, .string t2, .bool b2] 26 (0, 0))) := kept5 hb HA2.out.2
  clear hb
  have c5 := bx5 H1A.out
  go_wp2_with fail
  refine (HI2.out _).mono ?_
  rintro e x2 ⟨rfl, hb⟩
  have HBB : Hid (Below w.heap.size w x2) := HBA.out.trans (hb.mono HBA.out.size)
  have H0B : Hid (x2.heap[w.heap.size]? = some (.cells #[.int .i64 k1, .bool s1, .slice a1 n1 c1, .string t1, .bool b1] 26 (0, 0))) := kept5 hb H0A.out
  have H1B : Hid (x2.heap[w.heap.size + 1]? = some (.cells #[.int .i64 k2, .bool s2, .slice a2 n2 c2, .string t2, .bool b2] 26 (0, 0))) := kept5 hb H1A.out
  clear hb c5 H0A H1A HBA HI1 HI2 HA2 HB2
  have a5 := bx5 H0B.out
  have c5 := bx5 H1B.out
  go_wp2_with fail
  refine (HK1.out _ HBB.out).mono ?_
  rintro e yp ⟨⟨v, rfl, aqp, nqp, cqp, rfl, hi⟩, hb⟩
  dsimp only
  clear hi
  have hq := hb.trans (((Below.refl yp.heap.size yp).alloc (Nat.le_refl _) (.cells #[.int .i64 3, .bool false, .slice aqp nqp cqp, .string ⟨#[]⟩, .bool false] 26)).mono hb.size)
  have H0Bp : Hid ((yp.alloc (.cells #[.int .i64 3, .bool false, .slice aqp nqp cqp, .string ⟨#[]⟩, .bool false] 26)).heap[w.heap.size]? = some (.cells #[.int .i64 k1, .bool s1, .slice a1 n1 c1, .string t1, .bool b1] 26 (0, 0))) := kept5 hq H0B.out
  have H1Bp : Hid ((yp.alloc (.cells #[.int .i64 3, .bool false, .slice aqp nqp cqp, .string ⟨#[]⟩, .bool false] 26)).heap[w.heap.size + 1]? = some (.cells #[.int .i64 k2, .bool s2, .slice a2 n2 c2, .string t2, .bool b2] 26 (0, 0))) := kept5 hq H1B.out
  have HNp : Hid ((yp.alloc (.cells #[.int .i64 3, .bool false, .slice aqp nqp cqp, .string ⟨#[]⟩, .bool false] 26)).heap[yp.heap.size]? = some (.cells #[.int .i64 3, .bool false, .slice aqp nqp cqp, .string ⟨#[]⟩, .bool false] 26 (0, 0))) := new_blk yp _
  have HBp : Hid (Below w.heap.size w (yp.alloc (.cells #[.int .i64 3, .bool false, .slice aqp nqp cqp, .string ⟨#[]⟩, .bool false] 26))) := HBB.out.trans (hq.mono HBB.out.size)
  clear hb hq HK1 HBB H0B H1B a5 c5
  have a5 := bx5 H0Bp.out
  have c5 := bx5 H1Bp.out
  have r05 := bx5 HNp.out
  go_wp2_with fail
  refine (HK2.out _ HBp.out).mono ?_
  rintro e yq ⟨⟨v, rfl, aqq, nqq, cqq, rfl, hi⟩, hb⟩
  dsimp only
  clear hi
  have hq := hb.trans (((Below.refl yq.heap.size yq).alloc (Nat.le_refl _) (.cells #[.int .i64 3, .bool false, .slice aqq nqq cqq, .string ⟨#[]⟩, .bool true] 26)).mono hb.size)
  have H0Bpq : Hid ((yq.alloc (.cells #[.int .i64 3, .bool false, .slice aqq nqq cqq, .string ⟨#[]⟩, .bool true] 26)).heap[w.heap.size]? = some (.cells #[.int .i64 k1, .bool s1, .slice a1 n1 c1, .string t1, .bool b1] 26 (0, 0))) := kept5 hq H0Bp.out
  have H1Bpq : Hid ((yq.alloc (.cells #[.int .i64 3, .bool false, .slice aqq nqq cqq, .string ⟨#[]⟩, .bool true] 26)).heap[w.heap.size + 1]? = some (.cells #[.int .i64 k2, .bool s2, .slice a2 n2 c2, .string t2, .bool b2] 26 (0, 0))) := kept5 hq H1Bp.out
  have HNpq : Hid ((yq.alloc (.cells #[.int .i64 3, .bool false, .slice aqq nqq cqq, .string ⟨#[]⟩, .bool true] 26)).heap[yp.heap.size]? = some (.cells #[.int .i64 3, .bool false, .slice aqp nqp cqp, .string ⟨#[]⟩, .bool false] 26 (0, 0))) := kept5 hq HNp.out
  have HNq : Hid ((yq.alloc (.cells #[.int .i64 3, .bool false, .slice aqq nqq cqq, .string ⟨#[]⟩, .bool true] 26)).heap[yq.heap.size]? = some (.cells #[.int .i64 3, .bool false, .slice aqq nqq cqq, .string ⟨#[]⟩, .bool true] 26 (0, 0))) := new_blk yq _
  have HBq : Hid (Below w.heap.size w (yq.alloc (.cells #[.int .i64 3, .bool false, .slice aqq nqq cqq, .string ⟨#[]⟩, .bool true] 26))) := HBp.out.trans (hq.mono HBp.out.size)
  clear hb hq HK2 HBp H0Bp H1Bp HNp a5 c5 r05
  have a5 := bx5 H0Bpq.out
  have c5 := bx5 H1Bpq.out
  have r05 := bx5 HNpq.out
  have r15 := bx5 HNq.out
  go_wp2_with fail
  obtain ⟨wr, hwr⟩ : ∃ wr, (yq.alloc (.cells #[.int .i64 3, .bool false, .slice aqq nqq cqq, .string ⟨#[]⟩, .bool true] 26)) = wr := ⟨_, rfl⟩
  rw [hwr] at H0Bpq H1Bpq HNpq HNq HBq ⊢
  clear a5 c5 r05 r15 hwr
  have HKP : Hid (∀ W', Below wr.heap.size wr W' → W'.cell? ⟨w.heap.size, 0, none⟩ = some (.int .i64 k1) ∧ W'.cell? ⟨w.heap.size, 1, none⟩ = some (.bool s1) ∧ W'.cell? ⟨w.heap.size, 2, none⟩ = some (.slice a1 n1 c1) ∧ W'.cell? ⟨w.heap.size, 3, none⟩ = some (.string t1) ∧ W'.cell? ⟨w.heap.size, 4, none⟩ = some (.bool b1) ∧ W'.cell? ⟨w.heap.size + 1, 0, none⟩ = some (.int .i64 k2) ∧ W'.cell? ⟨w.heap.size + 1, 1, none⟩ = some (.bool s2) ∧ W'.cell? ⟨w.heap.size + 1, 2, none⟩ = some (.slice a2 n2 c2) ∧ W'.cell? ⟨w.heap.size + 1, 3, none⟩ = some (.string t2) ∧ W'.cell? ⟨w.heap.size + 1, 4, none⟩ = some (.bool b2) ∧ W'.cell? ⟨yp.heap.size, 0, none⟩ = some (.int .i64 3) ∧ W'.cell? ⟨yp.heap.size, 1, none⟩ = some (.bool false) ∧ W'.cell? ⟨yp.heap.size, 2, none⟩ = some (.slice aqp nqp cqp) ∧ W'.cell? ⟨yp.heap.size, 3, none⟩ = some (.string ⟨#[]⟩) ∧ W'.cell? ⟨yp.heap.size, 4, none⟩ = some (.bool false) ∧ W'.cell? ⟨yq.heap.size, 0, none⟩ = some (.int .i64 3) ∧ W'.cell? ⟨yq.heap.size, 1, none⟩ = some (.bool false) ∧ W'.cell? ⟨yq.heap.size, 2, none⟩ = some (.slice aqq nqq cqq) ∧ W'.cell? ⟨yq.heap.size, 3, none⟩ = some (.string ⟨#[]⟩) ∧ W'.cell? ⟨yq.heap.size, 4, none⟩ = some (.bool true)) := fun W' hb => by
    obtain ⟨p00, p01, p02, p03, p04⟩ := bx5 (kept5 hb H0Bpq.out)
    obtain ⟨p10, p11, p12, p13, p14⟩ := bx5 (kept5 hb H1Bpq.out)
    obtain ⟨p20, p21, p22, p23, p24⟩ := bx5 (kept5 hb HNpq.out)
    obtain ⟨p30, p31, p32, p33, p34⟩ := bx5 (kept5 hb HNq.out)
    exact ⟨p00, p01, p02, p03, p04, p10, p11, p12, p13, p14, p20, p21, p22, p23, p24, p30, p31, p32, p33, p34⟩
  have kS := HKP.out wr (Below.refl _ _)
  refine wp_region_held_drew (S := fun w' => w'.cell? ⟨w.heap.size, 0, none⟩ = some (.int .i64 k1) ∧ w'.cell? ⟨w.heap.size, 1, none⟩ = some (.bool s1) ∧ w'.cell? ⟨w.heap.size, 2, none⟩ = some (.slice a1 n1 c1) ∧ w'.cell? ⟨w.heap.size, 3, none⟩ = some (.string t1) ∧ w'.cell? ⟨w.heap.size, 4, none⟩ = some (.bool b1) ∧ w'.cell? ⟨w.heap.size + 1, 0, none⟩ = some (.int .i64 k2) ∧ w'.cell? ⟨w.heap.size + 1, 1, none⟩ = some (.bool s2) ∧ w'.cell? ⟨w.heap.size + 1, 2, none⟩ = some (.slice a2 n2 c2) ∧ w'.cell? ⟨w.heap.size + 1, 3, none⟩ = some (.string t2) ∧ w'.cell? ⟨w.heap.size + 1, 4, none⟩ = some (.bool b2) ∧ w'.cell? ⟨yp.heap.size, 0, none⟩ = some (.int .i64 3) ∧ w'.cell? ⟨yp.heap.size, 1, none⟩ = some (.bool false) ∧ w'.cell? ⟨yp.heap.size, 2, none⟩ = some (.slice aqp nqp cqp) ∧ w'.cell? ⟨yp.heap.size, 3, none⟩ = some (.string ⟨#[]⟩) ∧ w'.cell? ⟨yp.heap.size, 4, none⟩ = some (.bool false) ∧ w'.cell? ⟨yq.heap.size, 0, none⟩ = some (.int .i64 3) ∧ w'.cell? ⟨yq.heap.size, 1, none⟩ = some (.bool false) ∧ w'.cell? ⟨yq.heap.size, 2, none⟩ = some (.slice aqq nqq cqq) ∧ w'.cell? ⟨yq.heap.size, 3, none⟩ = some (.string ⟨#[]⟩) ∧ w'.cell? ⟨yq.heap.size, 4, none⟩ = some (.bool true)) (by kernel_rfl) (by exact kS) (fun hHeld => ?_)
  clear hHeld
  refine wpAnyH_take (i := 0) (oi := { dst := some 35, op := Op.move (Operand.tmp 6), type := 29, pos := "law.go:62", after := #[], guard := none }) (v := ?_) rfl (by kernel_rfl) (by kernel_rfl) (by kernel_rfl) (fun _ _ _ h => h) (Or.inl ⟨by rfl, ?_⟩) (by exact kS) ?_
  rotate_left
  · intro w hSw; (try dsimp only at hSw); (go_simp <;> with_reducible rfl)
  try simp only [Act.put, List.setIfInBounds_toArray, List.set_cons_zero, List.set_cons_succ]
  refine wpAnyH_take (i := 1) (oi := { dst := some 36, op := Op.move (Operand.tmp 8), type := 29, pos := "law.go:62", after := #[], guard := none }) (v := ?_) rfl (by kernel_rfl) (by kernel_rfl) (by kernel_rfl) (fun _ _ _ h => h) (Or.inl ⟨by rfl, ?_⟩) (by exact kS) ?_
  rotate_left
  · intro w hSw; (try dsimp only at hSw); (go_simp <;> with_reducible rfl)
  try simp only [Act.put, List.setIfInBounds_toArray, List.set_cons_zero, List.set_cons_succ]
  refine wpAnyH_take (i := 2) (oi := { dst := some 37, op := Op.binOp BinOp.neq 29 (Operand.tmp 35) (Operand.tmp 36) 29, type := 4, pos := "law.go:62", after := #[{ on := 0, ground := Ground.data }, { on := 1, ground := Ground.data }], guard := none }) (v := ?_) rfl (by kernel_rfl) (by kernel_rfl) (by kernel_rfl) (fun _ _ _ h => h) (Or.inl ⟨by rfl, ?_⟩) (by exact kS) ?_
  rotate_left
  · intro w hSw; (try dsimp only at hSw); (go_simp <;> with_reducible rfl)
  try simp only [Act.put, List.setIfInBounds_toArray, List.set_cons_zero, List.set_cons_succ]
  refine wpAnyH_take (i := 3) (oi := { dst := some 38, op := Op.move (Operand.tmp 37), type := 4, pos := "law.go:62", after := #[{ on := 2, ground := Ground.data }], guard := none }) (v := ?_) rfl (by kernel_rfl) (by kernel_rfl) (by kernel_rfl) (fun _ _ _ h => h) (Or.inl ⟨by rfl, ?_⟩) (by exact kS) ?_
  rotate_left
  · intro w hSw; (try dsimp only at hSw); (go_simp <;> with_reducible rfl)
  try simp only [Act.put, List.setIfInBounds_toArray, List.set_cons_zero, List.set_cons_succ]
  refine wpAnyH_take (i := 4) (oi := { dst := some 39, op := Op.move (Operand.tmp 6), type := 29, pos := "law.go:62", after := #[{ on := 3, ground := Ground.guard }], guard := some (3, false) }) (v := ?_) rfl (by kernel_rfl) (by kernel_rfl) (by kernel_rfl) (fun _ _ _ h => h) (Or.inl ⟨by rfl, ?_⟩) (by exact kS) ?_
  rotate_left
  · intro w hSw; (try dsimp only at hSw); (go_simp <;> with_reducible rfl)
  try simp only [Act.put, List.setIfInBounds_toArray, List.set_cons_zero, List.set_cons_succ]
  refine wpAnyH_take (i := 5) (oi := { dst := some 40, op := Op.binOp BinOp.eql 29 (Operand.tmp 39) (Operand.const (Value.int IntKind.i64 0)) 29, type := 4, pos := "law.go:62", after := #[{ on := 4, ground := Ground.data }, { on := 3, ground := Ground.guard }], guard := some (3, false) }) (v := ?_) rfl (by kernel_rfl) (by kernel_rfl) (by kernel_rfl) (fun _ _ _ h => h) (Or.inl ⟨by rfl, ?_⟩) (by exact kS) ?_
  rotate_left
  · intro w hSw; (try dsimp only at hSw); (go_simp <;> with_reducible rfl)
  try simp only [Act.put, List.setIfInBounds_toArray, List.set_cons_zero, List.set_cons_succ]
  refine wpAnyH_take (i := 6) (oi := { dst := some 41, op := Op.move (Operand.tmp 40), type := 4, pos := "law.go:62", after := #[{ on := 5, ground := Ground.data }, { on := 3, ground := Ground.chain }, { on := 3, ground := Ground.guard }], guard := some (3, false) }) (v := ?_) rfl (by kernel_rfl) (by kernel_rfl) (by kernel_rfl) (fun _ _ _ h => h) (Or.inl ⟨by rfl, ?_⟩) (by exact kS) ?_
  rotate_left
  · intro w hSw; (try dsimp only at hSw); (go_simp <;> with_reducible rfl)
  try simp only [Act.put, List.setIfInBounds_toArray, List.set_cons_zero, List.set_cons_succ]
  refine wpAnyH_take (i := 7) (oi := { dst := some 42, op := Op.fieldAddr 26 (Operand.tmp 5) 3, type := 0, pos := "law.go:62", after := #[{ on := 6, ground := Ground.guard }], guard := some (6, true) }) (v := ?_) rfl (by kernel_rfl) (by kernel_rfl) (by kernel_rfl) (fun _ _ _ h => h) (Or.inl ⟨by rfl, ?_⟩) (by exact kS) ?_
  rotate_left
  · intro w hSw; (try dsimp only at hSw); (go_simp <;> with_reducible rfl)
  try simp only [Act.put, List.setIfInBounds_toArray, List.set_cons_zero, List.set_cons_succ]
  refine wpAnyH_take (i := 8) (oi := { dst := some 43, op := Op.load 4 (Operand.tmp 42), type := 4, pos := "law.go:62", after := #[{ on := 7, ground := Ground.data }, { on := 6, ground := Ground.guard }], guard := some (6, true) }) (v := ?_) rfl (by kernel_rfl) (by kernel_rfl) (by kernel_rfl) (fun _ _ _ h => h) (Or.inl ⟨by rfl, ?_⟩) (by exact kS) ?_
  rotate_left
  · intro w hSw; (try dsimp only at hSw); (go_simp <;> with_reducible rfl)
  try simp only [Act.put, List.setIfInBounds_toArray, List.set_cons_zero, List.set_cons_succ]
  refine wpAnyH_take (i := 9) (oi := { dst := some 44, op := Op.fieldAddr 26 (Operand.tmp 7) 3, type := 0, pos := "law.go:62", after := #[{ on := 6, ground := Ground.guard }], guard := some (6, true) }) (v := ?_) rfl (by kernel_rfl) (by kernel_rfl) (by kernel_rfl) (fun _ _ _ h => h) (Or.inl ⟨by rfl, ?_⟩) (by exact kS) ?_
  rotate_left
  · intro w hSw; (try dsimp only at hSw); (go_simp <;> with_reducible rfl)
  try simp only [Act.put, List.setIfInBounds_toArray, List.set_cons_zero, List.set_cons_succ]
  refine wpAnyH_take (i := 10) (oi := { dst := some 45, op := Op.load 4 (Operand.tmp 44), type := 4, pos := "law.go:62", after := #[{ on := 9, ground := Ground.data }, { on := 6, ground := Ground.guard }], guard := some (6, true) }) (v := ?_) rfl (by kernel_rfl) (by kernel_rfl) (by kernel_rfl) (fun _ _ _ h => h) (Or.inl ⟨by rfl, ?_⟩) (by exact kS) ?_
  rotate_left
  · intro w hSw; (try dsimp only at hSw); (go_simp <;> with_reducible rfl)
  try simp only [Act.put, List.setIfInBounds_toArray, List.set_cons_zero, List.set_cons_succ]
  refine wpAnyH_take (i := 11) (oi := { dst := some 46, op := Op.binOp BinOp.eql 4 (Operand.tmp 43) (Operand.tmp 45) 4, type := 4, pos := "law.go:62", after := #[{ on := 8, ground := Ground.data }, { on := 10, ground := Ground.data }, { on := 6, ground := Ground.guard }], guard := some (6, true) }) (v := ?_) rfl (by kernel_rfl) (by kernel_rfl) (by kernel_rfl) (fun _ _ _ h => h) (Or.inl ⟨by rfl, ?_⟩) (by exact kS) ?_
  rotate_left
  · intro w hSw; (try dsimp only at hSw); (go_simp <;> with_reducible rfl)
  try simp only [Act.put, List.setIfInBounds_toArray, List.set_cons_zero, List.set_cons_succ]
  refine wpAnyH_take (i := 12) (oi := { dst := some 47, op := Op.move (Operand.tmp 46), type := 4, pos := "law.go:62", after := #[{ on := 11, ground := Ground.data }, { on := 6, ground := Ground.chain }, { on := 6, ground := Ground.guard }], guard := some (6, true) }) (v := ?_) rfl (by kernel_rfl) (by kernel_rfl) (by kernel_rfl) (fun _ _ _ h => h) (Or.inl ⟨by rfl, ?_⟩) (by exact kS) ?_
  rotate_left
  · intro w hSw; (try dsimp only at hSw); (go_simp <;> with_reducible rfl)
  try simp only [Act.put, List.setIfInBounds_toArray, List.set_cons_zero, List.set_cons_succ]
  refine wpAnyH_take (i := 13) (oi := { dst := some 48, op := Op.fieldAddr 26 (Operand.tmp 5) 3, type := 0, pos := "law.go:62", after := #[{ on := 12, ground := Ground.guard }], guard := some (12, false) }) (v := ?_) rfl (by kernel_rfl) (by kernel_rfl) (by kernel_rfl) (fun _ _ _ h => h) (Or.inl ⟨by rfl, ?_⟩) (by exact kS) ?_
  rotate_left
  · intro w hSw; (try dsimp only at hSw); (go_simp <;> with_reducible rfl)
  try simp only [Act.put, List.setIfInBounds_toArray, List.set_cons_zero, List.set_cons_succ]
  refine wpAnyH_take (i := 14) (oi := { dst := some 49, op := Op.load 4 (Operand.tmp 48), type := 4, pos := "law.go:62", after := #[{ on := 13, ground := Ground.data }, { on := 12, ground := Ground.guard }], guard := some (12, false) }) (v := ?_) rfl (by kernel_rfl) (by kernel_rfl) (by kernel_rfl) (fun _ _ _ h => h) (Or.inl ⟨by rfl, ?_⟩) (by exact kS) ?_
  rotate_left
  · intro w hSw; (try dsimp only at hSw); (go_simp <;> with_reducible rfl)
  try simp only [Act.put, List.setIfInBounds_toArray, List.set_cons_zero, List.set_cons_succ]
  refine wpAnyH_take (i := 15) (oi := { dst := some 50, op := Op.load 26 (Operand.tmp 2), type := 26, pos := "law.go:62", after := #[{ on := 12, ground := Ground.guard }], guard := some (12, false) }) (v := ?_) rfl (by kernel_rfl) (by kernel_rfl) (by kernel_rfl) (fun _ _ _ h => h) (Or.inl ⟨by rfl, ?_⟩) (by exact kS) ?_
  rotate_left
  · intro w hSw; (try dsimp only at hSw); (go_simp <;> with_reducible rfl)
  try simp only [Act.put, List.setIfInBounds_toArray, List.set_cons_zero, List.set_cons_succ]
  refine wpAnyH_take (i := 16) (oi := { dst := some 51, op := Op.load 26 (Operand.tmp 3), type := 26, pos := "law.go:62", after := #[{ on := 12, ground := Ground.guard }], guard := some (12, false) }) (v := ?_) rfl (by kernel_rfl) (by kernel_rfl) (by kernel_rfl) (fun _ _ _ h => h) (Or.inl ⟨by rfl, ?_⟩) (by exact kS) ?_
  rotate_left
  · intro w hSw; (try dsimp only at hSw); (go_simp <;> with_reducible rfl)
  try simp only [Act.put, List.setIfInBounds_toArray, List.set_cons_zero, List.set_cons_succ]
  refine wpAnyH_ready (rs := [17]) (by kernel_rfl) (by simp) ?_
  refine AllReadyH.cons (o := { dst := some 52, op := Op.call { callee := Callee.value (Operand.func 13), args := #[Operand.tmp 50, Operand.tmp 51], argTypes := #[26, 26] }, type := 4, pos := "law.go:62", after := #[{ on := 15, ground := Ground.data }, { on := 16, ground := Ground.data }, { on := 12, ground := Ground.chain }, { on := 12, ground := Ground.guard }], guard := some (12, false) }) rfl (fun K hK => ?_) AllReadyH.nil
  go_simp
  go_at_call 13; refine (HEQ.out _ (HBq.out.trans ((Below.refl _ wr).drew.mono HBq.out.size))).mono ?_; rintro e z1 ⟨rfl, hb⟩; have HBE : Hid (Below wr.heap.size wr z1) := (Below.refl _ wr).drew.trans hb; have kS := HKP.out z1 HBE.out; clear hb
  go_wp2_with fail
  refine hK.out _ _ (by exact kS) (fun hHeld => ?_)
  clear hK K hHeld
  try simp only [Act.put, List.setIfInBounds_toArray, List.set_cons_zero, List.set_cons_succ]
  refine wpAnyH_take (i := 18) (oi := { dst := some 53, op := Op.binOp BinOp.neq 4 (Operand.tmp 49) (Operand.tmp 52) 4, type := 4, pos := "law.go:62", after := #[{ on := 14, ground := Ground.data }, { on := 17, ground := Ground.data }, { on := 12, ground := Ground.guard }], guard := some (12, false) }) (v := ?_) rfl (by kernel_rfl) (by kernel_rfl) (by kernel_rfl) (fun _ _ _ h => h) (Or.inl ⟨by rfl, ?_⟩) (by exact kS) ?_
  rotate_left
  · intro w hSw; (try dsimp only at hSw); (go_simp <;> with_reducible rfl)
  try simp only [Act.put, List.setIfInBounds_toArray, List.set_cons_zero, List.set_cons_succ]
  refine wpAnyH_take (i := 19) (oi := { dst := some 54, op := Op.pick (Operand.tmp 47) (Operand.const (Value.bool true)) (Operand.tmp 53), type := 4, pos := "law.go:62", after := #[{ on := 12, ground := Ground.data }, { on := 18, ground := Ground.data }, { on := 6, ground := Ground.guard }], guard := some (6, true) }) (v := ?_) rfl (by kernel_rfl) (by kernel_rfl) (by kernel_rfl) (fun _ _ _ h => h) (Or.inl ⟨by rfl, ?_⟩) (by exact kS) ?_
  rotate_left
  · intro w hSw; (try dsimp only at hSw); (go_simp <;> with_reducible rfl)
  try simp only [Act.put, List.setIfInBounds_toArray, List.set_cons_zero, List.set_cons_succ]
  refine wpAnyH_take (i := 20) (oi := { dst := some 55, op := Op.pick (Operand.tmp 41) (Operand.tmp 54) (Operand.const (Value.bool false)), type := 4, pos := "law.go:62", after := #[{ on := 6, ground := Ground.data }, { on := 19, ground := Ground.data }, { on := 3, ground := Ground.guard }], guard := some (3, false) }) (v := ?_) rfl (by kernel_rfl) (by kernel_rfl) (by kernel_rfl) (fun _ _ _ h => h) (Or.inl ⟨by rfl, ?_⟩) (by exact kS) ?_
  rotate_left
  · intro w hSw; (try dsimp only at hSw); (go_simp <;> with_reducible rfl)
  try simp only [Act.put, List.setIfInBounds_toArray, List.set_cons_zero, List.set_cons_succ]
  refine wpAnyH_take (i := 21) (oi := { dst := some 56, op := Op.pick (Operand.tmp 38) (Operand.const (Value.bool true)) (Operand.tmp 55), type := 4, pos := "law.go:62", after := #[{ on := 3, ground := Ground.data }, { on := 20, ground := Ground.data }], guard := none }) (v := ?_) rfl (by kernel_rfl) (by kernel_rfl) (by kernel_rfl) (fun _ _ _ h => h) (Or.inl ⟨by rfl, ?_⟩) (by exact kS) ?_
  rotate_left
  · intro w hSw; (try dsimp only at hSw); (go_simp <;> with_reducible rfl)
  try simp only [Act.put, List.setIfInBounds_toArray, List.set_cons_zero, List.set_cons_succ]
  refine wpAnyH_done (by kernel_rfl) ?_ _
  clear kS
  have GH0Bpq : Hid (z1.heap[w.heap.size]? = some (.cells #[.int .i64 k1, .bool s1, .slice a1 n1 c1, .string t1, .bool b1] 26 (0, 0))) := kept5 HBE.out H0Bpq.out
  have GH1Bpq : Hid (z1.heap[w.heap.size + 1]? = some (.cells #[.int .i64 k2, .bool s2, .slice a2 n2 c2, .string t2, .bool b2] 26 (0, 0))) := kept5 HBE.out H1Bpq.out
  have GHNpq : Hid (z1.heap[yp.heap.size]? = some (.cells #[.int .i64 3, .bool false, .slice aqp nqp cqp, .string ⟨#[]⟩, .bool false] 26 (0, 0))) := kept5 HBE.out HNpq.out
  have GHNq : Hid (z1.heap[yq.heap.size]? = some (.cells #[.int .i64 3, .bool false, .slice aqq nqq cqq, .string ⟨#[]⟩, .bool true] 26 (0, 0))) := kept5 HBE.out HNq.out
  have HBG : Hid (Below w.heap.size w z1) := HBq.out.trans (HBE.out.mono HBq.out.size)
  clear HKP H0Bpq H1Bpq HNpq HNq HBq HBE
  have a5 := bx5 GH0Bpq.out
  have c5 := bx5 GH1Bpq.out
  have r05 := bx5 GHNpq.out
  have r15 := bx5 GHNq.out
  go_wp2_with fail
  refine (HK3.out _ HBG.out).mono ?_
  rintro e yr ⟨⟨v, rfl, aqr, nqr, cqr, rfl, hi⟩, hb⟩
  dsimp only
  clear hi
  have hq := hb.trans (((Below.refl yr.heap.size yr).alloc (Nat.le_refl _) (.cells #[.int .i64 0, .bool false, .slice aqr nqr cqr, .string ⟨#[]⟩, .bool false] 26)).mono hb.size)
  have GH0Bpqr : Hid ((yr.alloc (.cells #[.int .i64 0, .bool false, .slice aqr nqr cqr, .string ⟨#[]⟩, .bool false] 26)).heap[w.heap.size]? = some (.cells #[.int .i64 k1, .bool s1, .slice a1 n1 c1, .string t1, .bool b1] 26 (0, 0))) := kept5 hq GH0Bpq.out
  have GH1Bpqr : Hid ((yr.alloc (.cells #[.int .i64 0, .bool false, .slice aqr nqr cqr, .string ⟨#[]⟩, .bool false] 26)).heap[w.heap.size + 1]? = some (.cells #[.int .i64 k2, .bool s2, .slice a2 n2 c2, .string t2, .bool b2] 26 (0, 0))) := kept5 hq GH1Bpq.out
  have GHNpqr : Hid ((yr.alloc (.cells #[.int .i64 0, .bool false, .slice aqr nqr cqr, .string ⟨#[]⟩, .bool false] 26)).heap[yp.heap.size]? = some (.cells #[.int .i64 3, .bool false, .slice aqp nqp cqp, .string ⟨#[]⟩, .bool false] 26 (0, 0))) := kept5 hq GHNpq.out
  have GHNqr : Hid ((yr.alloc (.cells #[.int .i64 0, .bool false, .slice aqr nqr cqr, .string ⟨#[]⟩, .bool false] 26)).heap[yq.heap.size]? = some (.cells #[.int .i64 3, .bool false, .slice aqq nqq cqq, .string ⟨#[]⟩, .bool true] 26 (0, 0))) := kept5 hq GHNq.out
  have HNr : Hid ((yr.alloc (.cells #[.int .i64 0, .bool false, .slice aqr nqr cqr, .string ⟨#[]⟩, .bool false] 26)).heap[yr.heap.size]? = some (.cells #[.int .i64 0, .bool false, .slice aqr nqr cqr, .string ⟨#[]⟩, .bool false] 26 (0, 0))) := new_blk yr _
  have HBr : Hid (Below w.heap.size w (yr.alloc (.cells #[.int .i64 0, .bool false, .slice aqr nqr cqr, .string ⟨#[]⟩, .bool false] 26))) := HBG.out.trans (hq.mono HBG.out.size)
  clear hb hq HK3 HBG GH0Bpq GH1Bpq GHNpq GHNq a5 c5 r05 r15
  have a5 := bx5 GH0Bpqr.out
  have c5 := bx5 GH1Bpqr.out
  have r05 := bx5 GHNpqr.out
  have r15 := bx5 GHNqr.out
  have r25 := bx5 HNr.out
  go_wp2_with fail
  refine (HK4.out _ HBr.out).mono ?_
  rintro e ys ⟨⟨v, rfl, aqs, nqs, cqs, rfl, hi⟩, hb⟩
  dsimp only
  clear hi
  have hq := hb.trans (((Below.refl ys.heap.size ys).alloc (Nat.le_refl _) (.cells #[.int .i64 0, .bool false, .slice aqs nqs cqs, .string ⟨#[]⟩, .bool false] 26)).mono hb.size)
  have GH0Bpqrs : Hid ((ys.alloc (.cells #[.int .i64 0, .bool false, .slice aqs nqs cqs, .string ⟨#[]⟩, .bool false] 26)).heap[w.heap.size]? = some (.cells #[.int .i64 k1, .bool s1, .slice a1 n1 c1, .string t1, .bool b1] 26 (0, 0))) := kept5 hq GH0Bpqr.out
  have GH1Bpqrs : Hid ((ys.alloc (.cells #[.int .i64 0, .bool false, .slice aqs nqs cqs, .string ⟨#[]⟩, .bool false] 26)).heap[w.heap.size + 1]? = some (.cells #[.int .i64 k2, .bool s2, .slice a2 n2 c2, .string t2, .bool b2] 26 (0, 0))) := kept5 hq GH1Bpqr.out
  have GHNpqrs : Hid ((ys.alloc (.cells #[.int .i64 0, .bool false, .slice aqs nqs cqs, .string ⟨#[]⟩, .bool false] 26)).heap[yp.heap.size]? = some (.cells #[.int .i64 3, .bool false, .slice aqp nqp cqp, .string ⟨#[]⟩, .bool false] 26 (0, 0))) := kept5 hq GHNpqr.out
  have GHNqrs : Hid ((ys.alloc (.cells #[.int .i64 0, .bool false, .slice aqs nqs cqs, .string ⟨#[]⟩, .bool false] 26)).heap[yq.heap.size]? = some (.cells #[.int .i64 3, .bool false, .slice aqq nqq cqq, .string ⟨#[]⟩, .bool true] 26 (0, 0))) := kept5 hq GHNqr.out
  have HNrs : Hid ((ys.alloc (.cells #[.int .i64 0, .bool false, .slice aqs nqs cqs, .string ⟨#[]⟩, .bool false] 26)).heap[yr.heap.size]? = some (.cells #[.int .i64 0, .bool false, .slice aqr nqr cqr, .string ⟨#[]⟩, .bool false] 26 (0, 0))) := kept5 hq HNr.out
  have HNs : Hid ((ys.alloc (.cells #[.int .i64 0, .bool false, .slice aqs nqs cqs, .string ⟨#[]⟩, .bool false] 26)).heap[ys.heap.size]? = some (.cells #[.int .i64 0, .bool false, .slice aqs nqs cqs, .string ⟨#[]⟩, .bool false] 26 (0, 0))) := new_blk ys _
  have HBs : Hid (Below w.heap.size w (ys.alloc (.cells #[.int .i64 0, .bool false, .slice aqs nqs cqs, .string ⟨#[]⟩, .bool false] 26))) := HBr.out.trans (hq.mono HBr.out.size)
  clear hb hq HK4 HBr GH0Bpqr GH1Bpqr GHNpqr GHNqr HNr a5 c5 r05 r15 r25
  have a5 := bx5 GH0Bpqrs.out
  have c5 := bx5 GH1Bpqrs.out
  have r05 := bx5 GHNpqrs.out
  have r15 := bx5 GHNqrs.out
  have r25 := bx5 HNrs.out
  have r35 := bx5 HNs.out
  go_wp2_with (go_at_call 8; refine (awake_any _).mono ?_; rintro e z9 ⟨rfl, hb⟩; have HBZ : Hid (Below w.heap.size w z9) := HBs.out.trans (hb.mono HBs.out.size); clear hb)
  go_ret
  exact ⟨rfl, HBZ.out⟩
set_option maxRecDepth 100000 in
set_option maxHeartbeats 8000000 in
theorem lw_lt (k1 k2 : Int) (s1 s2 : Bool) (a1 a2 : Option Addr) (n1 n2 c1 c2 : Nat) (t1 t2 : ByteArray) (b1 b2 : Bool) (w : World)
    (hi1 : ∀ W, Calls Tryd.prog 7 #[cnV k1 s1 a1 n1 c1 t1 b1] W fun e w' => e = .returned (.bool true) ∧ Below W.heap.size W w')
    (hi2 : ∀ W, Calls Tryd.prog 7 #[cnV k2 s2 a2 n2 c2 t2 b2] W fun e w' => e = .returned (.bool true) ∧ Below W.heap.size W w')
    (hk1 : ∀ W, Below w.heap.size w W → Calls Tryd.prog 9 #[.string ⟨#[61, 61]⟩, cnV k1 s1 a1 n1 c1 t1 b1, cnV k2 s2 a2 n2 c2 t2 b2] W (AnsQ W ⟨3, false, 0, ⟨#[]⟩, false, 0⟩))
    (hk2 : ∀ W, Below w.heap.size w W → Calls Tryd.prog 9 #[.string ⟨#[33, 61]⟩, cnV k1 s1 a1 n1 c1 t1 b1, cnV k2 s2 a2 n2 c2 t2 b2] W (AnsQ W ⟨3, false, 0, ⟨#[]⟩, true, 0⟩))
    (hk3 : ∀ W, Below w.heap.size w W → Calls Tryd.prog 9 #[.string ⟨#[60]⟩, cnV k1 s1 a1 n1 c1 t1 b1, cnV k2 s2 a2 n2 c2 t2 b2] W (AnsQ W ⟨3, false, 0, ⟨#[]⟩, true, 0⟩))
    (hk4 : ∀ W, Below w.heap.size w W → Calls Tryd.prog 9 #[.string ⟨#[62]⟩, cnV k1 s1 a1 n1 c1 t1 b1, cnV k2 s2 a2 n2 c2 t2 b2] W (AnsQ W ⟨3, false, 0, ⟨#[]⟩, false, 0⟩))
    (heq : ∀ W, Below w.heap.size w W → Calls Tryd.prog 13 #[cnV k1 s1 a1 n1 c1 t1 b1, cnV k2 s2 a2 n2 c2 t2 b2] W fun e w' => e = .returned (.bool false) ∧ Below W.heap.size W w') :
    Calls Tryd.prog 5 #[cnV k1 s1 a1 n1 c1 t1 b1, cnV k2 s2 a2 n2 c2 t2 b2] w fun e w' => e = .returned (.bool true) ∧ Below w.heap.size w w' := by
  have HI1 : Hid (∀ W, Calls Tryd.prog 7 #[cnV k1 s1 a1 n1 c1 t1 b1] W fun e w' => e = .returned (.bool true) ∧ Below W.heap.size W w') := hi1
  have HI2 : Hid (∀ W, Calls Tryd.prog 7 #[cnV k2 s2 a2 n2 c2 t2 b2] W fun e w' => e = .returned (.bool true) ∧ Below W.heap.size W w') := hi2
  have HK1 : Hid (∀ W, Below w.heap.size w W → Calls Tryd.prog 9 #[.string ⟨#[61, 61]⟩, cnV k1 s1 a1 n1 c1 t1 b1, cnV k2 s2 a2 n2 c2 t2 b2] W (AnsQ W ⟨3, false, 0, ⟨#[]⟩, false, 0⟩)) := hk1
  have HK2 : Hid (∀ W, Below w.heap.size w W → Calls Tryd.prog 9 #[.string ⟨#[33, 61]⟩, cnV k1 s1 a1 n1 c1 t1 b1, cnV k2 s2 a2 n2 c2 t2 b2] W (AnsQ W ⟨3, false, 0, ⟨#[]⟩, true, 0⟩)) := hk2
  have HK3 : Hid (∀ W, Below w.heap.size w W → Calls Tryd.prog 9 #[.string ⟨#[60]⟩, cnV k1 s1 a1 n1 c1 t1 b1, cnV k2 s2 a2 n2 c2 t2 b2] W (AnsQ W ⟨3, false, 0, ⟨#[]⟩, true, 0⟩)) := hk3
  have HK4 : Hid (∀ W, Below w.heap.size w W → Calls Tryd.prog 9 #[.string ⟨#[62]⟩, cnV k1 s1 a1 n1 c1 t1 b1, cnV k2 s2 a2 n2 c2 t2 b2] W (AnsQ W ⟨3, false, 0, ⟨#[]⟩, false, 0⟩)) := hk4
  have HEQ : Hid (∀ W, Below w.heap.size w W → Calls Tryd.prog 13 #[cnV k1 s1 a1 n1 c1 t1 b1, cnV k2 s2 a2 n2 c2 t2 b2] W fun e w' => e = .returned (.bool false) ∧ Below W.heap.size W w') := heq
  have HB2 : Hid (Below w.heap.size w ((w.alloc (.cells #[.int .i64 k1, .bool s1, .slice a1 n1 c1, .string t1, .bool b1] 26)).alloc (.cells #[.int .i64 k2, .bool s2, .slice a2 n2 c2, .string t2, .bool b2] 26))) := two_below w _ _
  have HA2 : Hid (((w.alloc (.cells #[.int .i64 k1, .bool s1, .slice a1 n1 c1, .string t1, .bool b1] 26)).alloc (.cells #[.int .i64 k2, .bool s2, .slice a2 n2 c2, .string t2, .bool b2] 26)).heap[w.heap.size]? = some (.cells #[.int .i64 k1, .bool s1, .slice a1 n1 c1, .string t1, .bool b1] 26 (0, 0)) ∧ ((w.alloc (.cells #[.int .i64 k1, .bool s1, .slice a1 n1 c1, .string t1, .bool b1] 26)).alloc (.cells #[.int .i64 k2, .bool s2, .slice a2 n2 c2, .string t2, .bool b2] 26)).heap[w.heap.size + 1]? = some (.cells #[.int .i64 k2, .bool s2, .slice a2 n2 c2, .string t2, .bool b2] 26 (0, 0))) := ⟨kept5 ((Below.refl _ _).alloc (Nat.le_refl _) _) (new_blk w _), two_new _ _⟩
  clear hi1 hi2 hk1 hk2 hk3 hk4 heq
  go_enter Tryd.func5, Tryd.ntmps5
  go_wp2_with fail
  refine (HI1.out _).mono ?_
  rintro e x1 ⟨rfl, hb⟩
  have HBA : Hid (Below w.heap.size w x1) := HB2.out.trans (hb.mono HB2.out.size)
  have H0A : Hid (x1.heap[w.heap.size]? = some (.cells #[.int .i64 k1, .bool s1, .slice a1 n1 c1, .string t1, .bool b1] 26 (0, 0))) := kept5 hb HA2.out.1
  have H1A : Hid (x1.heap[w.heap.size + 1]? = some (.cells #[.int .i64 k2, .bool s2, .slice a2 n2 c2, .string t2, .bool b2] 26 (0, 0))) := kept5 hb HA2.out.2
  clear hb
  have c5 := bx5 H1A.out
  go_wp2_with fail
  refine (HI2.out _).mono ?_
  rintro e x2 ⟨rfl, hb⟩
  have HBB : Hid (Below w.heap.size w x2) := HBA.out.trans (hb.mono HBA.out.size)
  have H0B : Hid (x2.heap[w.heap.size]? = some (.cells #[.int .i64 k1, .bool s1, .slice a1 n1 c1, .string t1, .bool b1] 26 (0, 0))) := kept5 hb H0A.out
  have H1B : Hid (x2.heap[w.heap.size + 1]? = some (.cells #[.int .i64 k2, .bool s2, .slice a2 n2 c2, .string t2, .bool b2] 26 (0, 0))) := kept5 hb H1A.out
  clear hb c5 H0A H1A HBA HI1 HI2 HA2 HB2
  have a5 := bx5 H0B.out
  have c5 := bx5 H1B.out
  go_wp2_with fail
  refine (HK1.out _ HBB.out).mono ?_
  rintro e yp ⟨⟨v, rfl, aqp, nqp, cqp, rfl, hi⟩, hb⟩
  dsimp only
  clear hi
  have hq := hb.trans (((Below.refl yp.heap.size yp).alloc (Nat.le_refl _) (.cells #[.int .i64 3, .bool false, .slice aqp nqp cqp, .string ⟨#[]⟩, .bool false] 26)).mono hb.size)
  have H0Bp : Hid ((yp.alloc (.cells #[.int .i64 3, .bool false, .slice aqp nqp cqp, .string ⟨#[]⟩, .bool false] 26)).heap[w.heap.size]? = some (.cells #[.int .i64 k1, .bool s1, .slice a1 n1 c1, .string t1, .bool b1] 26 (0, 0))) := kept5 hq H0B.out
  have H1Bp : Hid ((yp.alloc (.cells #[.int .i64 3, .bool false, .slice aqp nqp cqp, .string ⟨#[]⟩, .bool false] 26)).heap[w.heap.size + 1]? = some (.cells #[.int .i64 k2, .bool s2, .slice a2 n2 c2, .string t2, .bool b2] 26 (0, 0))) := kept5 hq H1B.out
  have HNp : Hid ((yp.alloc (.cells #[.int .i64 3, .bool false, .slice aqp nqp cqp, .string ⟨#[]⟩, .bool false] 26)).heap[yp.heap.size]? = some (.cells #[.int .i64 3, .bool false, .slice aqp nqp cqp, .string ⟨#[]⟩, .bool false] 26 (0, 0))) := new_blk yp _
  have HBp : Hid (Below w.heap.size w (yp.alloc (.cells #[.int .i64 3, .bool false, .slice aqp nqp cqp, .string ⟨#[]⟩, .bool false] 26))) := HBB.out.trans (hq.mono HBB.out.size)
  clear hb hq HK1 HBB H0B H1B a5 c5
  have a5 := bx5 H0Bp.out
  have c5 := bx5 H1Bp.out
  have r05 := bx5 HNp.out
  go_wp2_with fail
  refine (HK2.out _ HBp.out).mono ?_
  rintro e yq ⟨⟨v, rfl, aqq, nqq, cqq, rfl, hi⟩, hb⟩
  dsimp only
  clear hi
  have hq := hb.trans (((Below.refl yq.heap.size yq).alloc (Nat.le_refl _) (.cells #[.int .i64 3, .bool false, .slice aqq nqq cqq, .string ⟨#[]⟩, .bool true] 26)).mono hb.size)
  have H0Bpq : Hid ((yq.alloc (.cells #[.int .i64 3, .bool false, .slice aqq nqq cqq, .string ⟨#[]⟩, .bool true] 26)).heap[w.heap.size]? = some (.cells #[.int .i64 k1, .bool s1, .slice a1 n1 c1, .string t1, .bool b1] 26 (0, 0))) := kept5 hq H0Bp.out
  have H1Bpq : Hid ((yq.alloc (.cells #[.int .i64 3, .bool false, .slice aqq nqq cqq, .string ⟨#[]⟩, .bool true] 26)).heap[w.heap.size + 1]? = some (.cells #[.int .i64 k2, .bool s2, .slice a2 n2 c2, .string t2, .bool b2] 26 (0, 0))) := kept5 hq H1Bp.out
  have HNpq : Hid ((yq.alloc (.cells #[.int .i64 3, .bool false, .slice aqq nqq cqq, .string ⟨#[]⟩, .bool true] 26)).heap[yp.heap.size]? = some (.cells #[.int .i64 3, .bool false, .slice aqp nqp cqp, .string ⟨#[]⟩, .bool false] 26 (0, 0))) := kept5 hq HNp.out
  have HNq : Hid ((yq.alloc (.cells #[.int .i64 3, .bool false, .slice aqq nqq cqq, .string ⟨#[]⟩, .bool true] 26)).heap[yq.heap.size]? = some (.cells #[.int .i64 3, .bool false, .slice aqq nqq cqq, .string ⟨#[]⟩, .bool true] 26 (0, 0))) := new_blk yq _
  have HBq : Hid (Below w.heap.size w (yq.alloc (.cells #[.int .i64 3, .bool false, .slice aqq nqq cqq, .string ⟨#[]⟩, .bool true] 26))) := HBp.out.trans (hq.mono HBp.out.size)
  clear hb hq HK2 HBp H0Bp H1Bp HNp a5 c5 r05
  have a5 := bx5 H0Bpq.out
  have c5 := bx5 H1Bpq.out
  have r05 := bx5 HNpq.out
  have r15 := bx5 HNq.out
  go_wp2_with fail
  obtain ⟨wr, hwr⟩ : ∃ wr, (yq.alloc (.cells #[.int .i64 3, .bool false, .slice aqq nqq cqq, .string ⟨#[]⟩, .bool true] 26)) = wr := ⟨_, rfl⟩
  rw [hwr] at H0Bpq H1Bpq HNpq HNq HBq ⊢
  clear a5 c5 r05 r15 hwr
  have HKP : Hid (∀ W', Below wr.heap.size wr W' → W'.cell? ⟨w.heap.size, 0, none⟩ = some (.int .i64 k1) ∧ W'.cell? ⟨w.heap.size, 1, none⟩ = some (.bool s1) ∧ W'.cell? ⟨w.heap.size, 2, none⟩ = some (.slice a1 n1 c1) ∧ W'.cell? ⟨w.heap.size, 3, none⟩ = some (.string t1) ∧ W'.cell? ⟨w.heap.size, 4, none⟩ = some (.bool b1) ∧ W'.cell? ⟨w.heap.size + 1, 0, none⟩ = some (.int .i64 k2) ∧ W'.cell? ⟨w.heap.size + 1, 1, none⟩ = some (.bool s2) ∧ W'.cell? ⟨w.heap.size + 1, 2, none⟩ = some (.slice a2 n2 c2) ∧ W'.cell? ⟨w.heap.size + 1, 3, none⟩ = some (.string t2) ∧ W'.cell? ⟨w.heap.size + 1, 4, none⟩ = some (.bool b2) ∧ W'.cell? ⟨yp.heap.size, 0, none⟩ = some (.int .i64 3) ∧ W'.cell? ⟨yp.heap.size, 1, none⟩ = some (.bool false) ∧ W'.cell? ⟨yp.heap.size, 2, none⟩ = some (.slice aqp nqp cqp) ∧ W'.cell? ⟨yp.heap.size, 3, none⟩ = some (.string ⟨#[]⟩) ∧ W'.cell? ⟨yp.heap.size, 4, none⟩ = some (.bool false) ∧ W'.cell? ⟨yq.heap.size, 0, none⟩ = some (.int .i64 3) ∧ W'.cell? ⟨yq.heap.size, 1, none⟩ = some (.bool false) ∧ W'.cell? ⟨yq.heap.size, 2, none⟩ = some (.slice aqq nqq cqq) ∧ W'.cell? ⟨yq.heap.size, 3, none⟩ = some (.string ⟨#[]⟩) ∧ W'.cell? ⟨yq.heap.size, 4, none⟩ = some (.bool true)) := fun W' hb => by
    obtain ⟨p00, p01, p02, p03, p04⟩ := bx5 (kept5 hb H0Bpq.out)
    obtain ⟨p10, p11, p12, p13, p14⟩ := bx5 (kept5 hb H1Bpq.out)
    obtain ⟨p20, p21, p22, p23, p24⟩ := bx5 (kept5 hb HNpq.out)
    obtain ⟨p30, p31, p32, p33, p34⟩ := bx5 (kept5 hb HNq.out)
    exact ⟨p00, p01, p02, p03, p04, p10, p11, p12, p13, p14, p20, p21, p22, p23, p24, p30, p31, p32, p33, p34⟩
  have kS := HKP.out wr (Below.refl _ _)
  refine wp_region_held_drew (S := fun w' => w'.cell? ⟨w.heap.size, 0, none⟩ = some (.int .i64 k1) ∧ w'.cell? ⟨w.heap.size, 1, none⟩ = some (.bool s1) ∧ w'.cell? ⟨w.heap.size, 2, none⟩ = some (.slice a1 n1 c1) ∧ w'.cell? ⟨w.heap.size, 3, none⟩ = some (.string t1) ∧ w'.cell? ⟨w.heap.size, 4, none⟩ = some (.bool b1) ∧ w'.cell? ⟨w.heap.size + 1, 0, none⟩ = some (.int .i64 k2) ∧ w'.cell? ⟨w.heap.size + 1, 1, none⟩ = some (.bool s2) ∧ w'.cell? ⟨w.heap.size + 1, 2, none⟩ = some (.slice a2 n2 c2) ∧ w'.cell? ⟨w.heap.size + 1, 3, none⟩ = some (.string t2) ∧ w'.cell? ⟨w.heap.size + 1, 4, none⟩ = some (.bool b2) ∧ w'.cell? ⟨yp.heap.size, 0, none⟩ = some (.int .i64 3) ∧ w'.cell? ⟨yp.heap.size, 1, none⟩ = some (.bool false) ∧ w'.cell? ⟨yp.heap.size, 2, none⟩ = some (.slice aqp nqp cqp) ∧ w'.cell? ⟨yp.heap.size, 3, none⟩ = some (.string ⟨#[]⟩) ∧ w'.cell? ⟨yp.heap.size, 4, none⟩ = some (.bool false) ∧ w'.cell? ⟨yq.heap.size, 0, none⟩ = some (.int .i64 3) ∧ w'.cell? ⟨yq.heap.size, 1, none⟩ = some (.bool false) ∧ w'.cell? ⟨yq.heap.size, 2, none⟩ = some (.slice aqq nqq cqq) ∧ w'.cell? ⟨yq.heap.size, 3, none⟩ = some (.string ⟨#[]⟩) ∧ w'.cell? ⟨yq.heap.size, 4, none⟩ = some (.bool true)) (by kernel_rfl) (by exact kS) (fun hHeld => ?_)
  clear hHeld
  refine wpAnyH_take (i := 0) (oi := { dst := some 35, op := Op.move (Operand.tmp 6), type := 29, pos := "law.go:62", after := #[], guard := none }) (v := ?_) rfl (by kernel_rfl) (by kernel_rfl) (by kernel_rfl) (fun _ _ _ h => h) (Or.inl ⟨by rfl, ?_⟩) (by exact kS) ?_
  rotate_left
  · intro w hSw; (try dsimp only at hSw); (go_simp <;> with_reducible rfl)
  try simp only [Act.put, List.setIfInBounds_toArray, List.set_cons_zero, List.set_cons_succ]
  refine wpAnyH_take (i := 1) (oi := { dst := some 36, op := Op.move (Operand.tmp 8), type := 29, pos := "law.go:62", after := #[], guard := none }) (v := ?_) rfl (by kernel_rfl) (by kernel_rfl) (by kernel_rfl) (fun _ _ _ h => h) (Or.inl ⟨by rfl, ?_⟩) (by exact kS) ?_
  rotate_left
  · intro w hSw; (try dsimp only at hSw); (go_simp <;> with_reducible rfl)
  try simp only [Act.put, List.setIfInBounds_toArray, List.set_cons_zero, List.set_cons_succ]
  refine wpAnyH_take (i := 2) (oi := { dst := some 37, op := Op.binOp BinOp.neq 29 (Operand.tmp 35) (Operand.tmp 36) 29, type := 4, pos := "law.go:62", after := #[{ on := 0, ground := Ground.data }, { on := 1, ground := Ground.data }], guard := none }) (v := ?_) rfl (by kernel_rfl) (by kernel_rfl) (by kernel_rfl) (fun _ _ _ h => h) (Or.inl ⟨by rfl, ?_⟩) (by exact kS) ?_
  rotate_left
  · intro w hSw; (try dsimp only at hSw); (go_simp <;> with_reducible rfl)
  try simp only [Act.put, List.setIfInBounds_toArray, List.set_cons_zero, List.set_cons_succ]
  refine wpAnyH_take (i := 3) (oi := { dst := some 38, op := Op.move (Operand.tmp 37), type := 4, pos := "law.go:62", after := #[{ on := 2, ground := Ground.data }], guard := none }) (v := ?_) rfl (by kernel_rfl) (by kernel_rfl) (by kernel_rfl) (fun _ _ _ h => h) (Or.inl ⟨by rfl, ?_⟩) (by exact kS) ?_
  rotate_left
  · intro w hSw; (try dsimp only at hSw); (go_simp <;> with_reducible rfl)
  try simp only [Act.put, List.setIfInBounds_toArray, List.set_cons_zero, List.set_cons_succ]
  refine wpAnyH_take (i := 4) (oi := { dst := some 39, op := Op.move (Operand.tmp 6), type := 29, pos := "law.go:62", after := #[{ on := 3, ground := Ground.guard }], guard := some (3, false) }) (v := ?_) rfl (by kernel_rfl) (by kernel_rfl) (by kernel_rfl) (fun _ _ _ h => h) (Or.inl ⟨by rfl, ?_⟩) (by exact kS) ?_
  rotate_left
  · intro w hSw; (try dsimp only at hSw); (go_simp <;> with_reducible rfl)
  try simp only [Act.put, List.setIfInBounds_toArray, List.set_cons_zero, List.set_cons_succ]
  refine wpAnyH_take (i := 5) (oi := { dst := some 40, op := Op.binOp BinOp.eql 29 (Operand.tmp 39) (Operand.const (Value.int IntKind.i64 0)) 29, type := 4, pos := "law.go:62", after := #[{ on := 4, ground := Ground.data }, { on := 3, ground := Ground.guard }], guard := some (3, false) }) (v := ?_) rfl (by kernel_rfl) (by kernel_rfl) (by kernel_rfl) (fun _ _ _ h => h) (Or.inl ⟨by rfl, ?_⟩) (by exact kS) ?_
  rotate_left
  · intro w hSw; (try dsimp only at hSw); (go_simp <;> with_reducible rfl)
  try simp only [Act.put, List.setIfInBounds_toArray, List.set_cons_zero, List.set_cons_succ]
  refine wpAnyH_take (i := 6) (oi := { dst := some 41, op := Op.move (Operand.tmp 40), type := 4, pos := "law.go:62", after := #[{ on := 5, ground := Ground.data }, { on := 3, ground := Ground.chain }, { on := 3, ground := Ground.guard }], guard := some (3, false) }) (v := ?_) rfl (by kernel_rfl) (by kernel_rfl) (by kernel_rfl) (fun _ _ _ h => h) (Or.inl ⟨by rfl, ?_⟩) (by exact kS) ?_
  rotate_left
  · intro w hSw; (try dsimp only at hSw); (go_simp <;> with_reducible rfl)
  try simp only [Act.put, List.setIfInBounds_toArray, List.set_cons_zero, List.set_cons_succ]
  refine wpAnyH_take (i := 7) (oi := { dst := some 42, op := Op.fieldAddr 26 (Operand.tmp 5) 3, type := 0, pos := "law.go:62", after := #[{ on := 6, ground := Ground.guard }], guard := some (6, true) }) (v := ?_) rfl (by kernel_rfl) (by kernel_rfl) (by kernel_rfl) (fun _ _ _ h => h) (Or.inl ⟨by rfl, ?_⟩) (by exact kS) ?_
  rotate_left
  · intro w hSw; (try dsimp only at hSw); (go_simp <;> with_reducible rfl)
  try simp only [Act.put, List.setIfInBounds_toArray, List.set_cons_zero, List.set_cons_succ]
  refine wpAnyH_take (i := 8) (oi := { dst := some 43, op := Op.load 4 (Operand.tmp 42), type := 4, pos := "law.go:62", after := #[{ on := 7, ground := Ground.data }, { on := 6, ground := Ground.guard }], guard := some (6, true) }) (v := ?_) rfl (by kernel_rfl) (by kernel_rfl) (by kernel_rfl) (fun _ _ _ h => h) (Or.inl ⟨by rfl, ?_⟩) (by exact kS) ?_
  rotate_left
  · intro w hSw; (try dsimp only at hSw); (go_simp <;> with_reducible rfl)
  try simp only [Act.put, List.setIfInBounds_toArray, List.set_cons_zero, List.set_cons_succ]
  refine wpAnyH_take (i := 9) (oi := { dst := some 44, op := Op.fieldAddr 26 (Operand.tmp 7) 3, type := 0, pos := "law.go:62", after := #[{ on := 6, ground := Ground.guard }], guard := some (6, true) }) (v := ?_) rfl (by kernel_rfl) (by kernel_rfl) (by kernel_rfl) (fun _ _ _ h => h) (Or.inl ⟨by rfl, ?_⟩) (by exact kS) ?_
  rotate_left
  · intro w hSw; (try dsimp only at hSw); (go_simp <;> with_reducible rfl)
  try simp only [Act.put, List.setIfInBounds_toArray, List.set_cons_zero, List.set_cons_succ]
  refine wpAnyH_take (i := 10) (oi := { dst := some 45, op := Op.load 4 (Operand.tmp 44), type := 4, pos := "law.go:62", after := #[{ on := 9, ground := Ground.data }, { on := 6, ground := Ground.guard }], guard := some (6, true) }) (v := ?_) rfl (by kernel_rfl) (by kernel_rfl) (by kernel_rfl) (fun _ _ _ h => h) (Or.inl ⟨by rfl, ?_⟩) (by exact kS) ?_
  rotate_left
  · intro w hSw; (try dsimp only at hSw); (go_simp <;> with_reducible rfl)
  try simp only [Act.put, List.setIfInBounds_toArray, List.set_cons_zero, List.set_cons_succ]
  refine wpAnyH_take (i := 11) (oi := { dst := some 46, op := Op.binOp BinOp.eql 4 (Operand.tmp 43) (Operand.tmp 45) 4, type := 4, pos := "law.go:62", after := #[{ on := 8, ground := Ground.data }, { on := 10, ground := Ground.data }, { on := 6, ground := Ground.guard }], guard := some (6, true) }) (v := ?_) rfl (by kernel_rfl) (by kernel_rfl) (by kernel_rfl) (fun _ _ _ h => h) (Or.inl ⟨by rfl, ?_⟩) (by exact kS) ?_
  rotate_left
  · intro w hSw; (try dsimp only at hSw); (go_simp <;> with_reducible rfl)
  try simp only [Act.put, List.setIfInBounds_toArray, List.set_cons_zero, List.set_cons_succ]
  refine wpAnyH_take (i := 12) (oi := { dst := some 47, op := Op.move (Operand.tmp 46), type := 4, pos := "law.go:62", after := #[{ on := 11, ground := Ground.data }, { on := 6, ground := Ground.chain }, { on := 6, ground := Ground.guard }], guard := some (6, true) }) (v := ?_) rfl (by kernel_rfl) (by kernel_rfl) (by kernel_rfl) (fun _ _ _ h => h) (Or.inl ⟨by rfl, ?_⟩) (by exact kS) ?_
  rotate_left
  · intro w hSw; (try dsimp only at hSw); (go_simp <;> with_reducible rfl)
  try simp only [Act.put, List.setIfInBounds_toArray, List.set_cons_zero, List.set_cons_succ]
  refine wpAnyH_take (i := 13) (oi := { dst := some 48, op := Op.fieldAddr 26 (Operand.tmp 5) 3, type := 0, pos := "law.go:62", after := #[{ on := 12, ground := Ground.guard }], guard := some (12, false) }) (v := ?_) rfl (by kernel_rfl) (by kernel_rfl) (by kernel_rfl) (fun _ _ _ h => h) (Or.inl ⟨by rfl, ?_⟩) (by exact kS) ?_
  rotate_left
  · intro w hSw; (try dsimp only at hSw); (go_simp <;> with_reducible rfl)
  try simp only [Act.put, List.setIfInBounds_toArray, List.set_cons_zero, List.set_cons_succ]
  refine wpAnyH_take (i := 14) (oi := { dst := some 49, op := Op.load 4 (Operand.tmp 48), type := 4, pos := "law.go:62", after := #[{ on := 13, ground := Ground.data }, { on := 12, ground := Ground.guard }], guard := some (12, false) }) (v := ?_) rfl (by kernel_rfl) (by kernel_rfl) (by kernel_rfl) (fun _ _ _ h => h) (Or.inl ⟨by rfl, ?_⟩) (by exact kS) ?_
  rotate_left
  · intro w hSw; (try dsimp only at hSw); (go_simp <;> with_reducible rfl)
  try simp only [Act.put, List.setIfInBounds_toArray, List.set_cons_zero, List.set_cons_succ]
  refine wpAnyH_take (i := 15) (oi := { dst := some 50, op := Op.load 26 (Operand.tmp 2), type := 26, pos := "law.go:62", after := #[{ on := 12, ground := Ground.guard }], guard := some (12, false) }) (v := ?_) rfl (by kernel_rfl) (by kernel_rfl) (by kernel_rfl) (fun _ _ _ h => h) (Or.inl ⟨by rfl, ?_⟩) (by exact kS) ?_
  rotate_left
  · intro w hSw; (try dsimp only at hSw); (go_simp <;> with_reducible rfl)
  try simp only [Act.put, List.setIfInBounds_toArray, List.set_cons_zero, List.set_cons_succ]
  refine wpAnyH_take (i := 16) (oi := { dst := some 51, op := Op.load 26 (Operand.tmp 3), type := 26, pos := "law.go:62", after := #[{ on := 12, ground := Ground.guard }], guard := some (12, false) }) (v := ?_) rfl (by kernel_rfl) (by kernel_rfl) (by kernel_rfl) (fun _ _ _ h => h) (Or.inl ⟨by rfl, ?_⟩) (by exact kS) ?_
  rotate_left
  · intro w hSw; (try dsimp only at hSw); (go_simp <;> with_reducible rfl)
  try simp only [Act.put, List.setIfInBounds_toArray, List.set_cons_zero, List.set_cons_succ]
  refine wpAnyH_ready (rs := [17]) (by kernel_rfl) (by simp) ?_
  refine AllReadyH.cons (o := { dst := some 52, op := Op.call { callee := Callee.value (Operand.func 13), args := #[Operand.tmp 50, Operand.tmp 51], argTypes := #[26, 26] }, type := 4, pos := "law.go:62", after := #[{ on := 15, ground := Ground.data }, { on := 16, ground := Ground.data }, { on := 12, ground := Ground.chain }, { on := 12, ground := Ground.guard }], guard := some (12, false) }) rfl (fun K hK => ?_) AllReadyH.nil
  go_simp
  go_at_call 13; refine (HEQ.out _ (HBq.out.trans ((Below.refl _ wr).drew.mono HBq.out.size))).mono ?_; rintro e z1 ⟨rfl, hb⟩; have HBE : Hid (Below wr.heap.size wr z1) := (Below.refl _ wr).drew.trans hb; have kS := HKP.out z1 HBE.out; clear hb
  go_wp2_with fail
  refine hK.out _ _ (by exact kS) (fun hHeld => ?_)
  clear hK K hHeld
  try simp only [Act.put, List.setIfInBounds_toArray, List.set_cons_zero, List.set_cons_succ]
  refine wpAnyH_take (i := 18) (oi := { dst := some 53, op := Op.binOp BinOp.neq 4 (Operand.tmp 49) (Operand.tmp 52) 4, type := 4, pos := "law.go:62", after := #[{ on := 14, ground := Ground.data }, { on := 17, ground := Ground.data }, { on := 12, ground := Ground.guard }], guard := some (12, false) }) (v := ?_) rfl (by kernel_rfl) (by kernel_rfl) (by kernel_rfl) (fun _ _ _ h => h) (Or.inl ⟨by rfl, ?_⟩) (by exact kS) ?_
  rotate_left
  · intro w hSw; (try dsimp only at hSw); (go_simp <;> with_reducible rfl)
  try simp only [Act.put, List.setIfInBounds_toArray, List.set_cons_zero, List.set_cons_succ]
  refine wpAnyH_take (i := 19) (oi := { dst := some 54, op := Op.pick (Operand.tmp 47) (Operand.const (Value.bool true)) (Operand.tmp 53), type := 4, pos := "law.go:62", after := #[{ on := 12, ground := Ground.data }, { on := 18, ground := Ground.data }, { on := 6, ground := Ground.guard }], guard := some (6, true) }) (v := ?_) rfl (by kernel_rfl) (by kernel_rfl) (by kernel_rfl) (fun _ _ _ h => h) (Or.inl ⟨by rfl, ?_⟩) (by exact kS) ?_
  rotate_left
  · intro w hSw; (try dsimp only at hSw); (go_simp <;> with_reducible rfl)
  try simp only [Act.put, List.setIfInBounds_toArray, List.set_cons_zero, List.set_cons_succ]
  refine wpAnyH_take (i := 20) (oi := { dst := some 55, op := Op.pick (Operand.tmp 41) (Operand.tmp 54) (Operand.const (Value.bool false)), type := 4, pos := "law.go:62", after := #[{ on := 6, ground := Ground.data }, { on := 19, ground := Ground.data }, { on := 3, ground := Ground.guard }], guard := some (3, false) }) (v := ?_) rfl (by kernel_rfl) (by kernel_rfl) (by kernel_rfl) (fun _ _ _ h => h) (Or.inl ⟨by rfl, ?_⟩) (by exact kS) ?_
  rotate_left
  · intro w hSw; (try dsimp only at hSw); (go_simp <;> with_reducible rfl)
  try simp only [Act.put, List.setIfInBounds_toArray, List.set_cons_zero, List.set_cons_succ]
  refine wpAnyH_take (i := 21) (oi := { dst := some 56, op := Op.pick (Operand.tmp 38) (Operand.const (Value.bool true)) (Operand.tmp 55), type := 4, pos := "law.go:62", after := #[{ on := 3, ground := Ground.data }, { on := 20, ground := Ground.data }], guard := none }) (v := ?_) rfl (by kernel_rfl) (by kernel_rfl) (by kernel_rfl) (fun _ _ _ h => h) (Or.inl ⟨by rfl, ?_⟩) (by exact kS) ?_
  rotate_left
  · intro w hSw; (try dsimp only at hSw); (go_simp <;> with_reducible rfl)
  try simp only [Act.put, List.setIfInBounds_toArray, List.set_cons_zero, List.set_cons_succ]
  refine wpAnyH_done (by kernel_rfl) ?_ _
  clear kS
  have GH0Bpq : Hid (z1.heap[w.heap.size]? = some (.cells #[.int .i64 k1, .bool s1, .slice a1 n1 c1, .string t1, .bool b1] 26 (0, 0))) := kept5 HBE.out H0Bpq.out
  have GH1Bpq : Hid (z1.heap[w.heap.size + 1]? = some (.cells #[.int .i64 k2, .bool s2, .slice a2 n2 c2, .string t2, .bool b2] 26 (0, 0))) := kept5 HBE.out H1Bpq.out
  have GHNpq : Hid (z1.heap[yp.heap.size]? = some (.cells #[.int .i64 3, .bool false, .slice aqp nqp cqp, .string ⟨#[]⟩, .bool false] 26 (0, 0))) := kept5 HBE.out HNpq.out
  have GHNq : Hid (z1.heap[yq.heap.size]? = some (.cells #[.int .i64 3, .bool false, .slice aqq nqq cqq, .string ⟨#[]⟩, .bool true] 26 (0, 0))) := kept5 HBE.out HNq.out
  have HBG : Hid (Below w.heap.size w z1) := HBq.out.trans (HBE.out.mono HBq.out.size)
  clear HKP H0Bpq H1Bpq HNpq HNq HBq HBE
  have a5 := bx5 GH0Bpq.out
  have c5 := bx5 GH1Bpq.out
  have r05 := bx5 GHNpq.out
  have r15 := bx5 GHNq.out
  go_wp2_with fail
  refine (HK3.out _ HBG.out).mono ?_
  rintro e yr ⟨⟨v, rfl, aqr, nqr, cqr, rfl, hi⟩, hb⟩
  dsimp only
  clear hi
  have hq := hb.trans (((Below.refl yr.heap.size yr).alloc (Nat.le_refl _) (.cells #[.int .i64 3, .bool false, .slice aqr nqr cqr, .string ⟨#[]⟩, .bool true] 26)).mono hb.size)
  have GH0Bpqr : Hid ((yr.alloc (.cells #[.int .i64 3, .bool false, .slice aqr nqr cqr, .string ⟨#[]⟩, .bool true] 26)).heap[w.heap.size]? = some (.cells #[.int .i64 k1, .bool s1, .slice a1 n1 c1, .string t1, .bool b1] 26 (0, 0))) := kept5 hq GH0Bpq.out
  have GH1Bpqr : Hid ((yr.alloc (.cells #[.int .i64 3, .bool false, .slice aqr nqr cqr, .string ⟨#[]⟩, .bool true] 26)).heap[w.heap.size + 1]? = some (.cells #[.int .i64 k2, .bool s2, .slice a2 n2 c2, .string t2, .bool b2] 26 (0, 0))) := kept5 hq GH1Bpq.out
  have GHNpqr : Hid ((yr.alloc (.cells #[.int .i64 3, .bool false, .slice aqr nqr cqr, .string ⟨#[]⟩, .bool true] 26)).heap[yp.heap.size]? = some (.cells #[.int .i64 3, .bool false, .slice aqp nqp cqp, .string ⟨#[]⟩, .bool false] 26 (0, 0))) := kept5 hq GHNpq.out
  have GHNqr : Hid ((yr.alloc (.cells #[.int .i64 3, .bool false, .slice aqr nqr cqr, .string ⟨#[]⟩, .bool true] 26)).heap[yq.heap.size]? = some (.cells #[.int .i64 3, .bool false, .slice aqq nqq cqq, .string ⟨#[]⟩, .bool true] 26 (0, 0))) := kept5 hq GHNq.out
  have HNr : Hid ((yr.alloc (.cells #[.int .i64 3, .bool false, .slice aqr nqr cqr, .string ⟨#[]⟩, .bool true] 26)).heap[yr.heap.size]? = some (.cells #[.int .i64 3, .bool false, .slice aqr nqr cqr, .string ⟨#[]⟩, .bool true] 26 (0, 0))) := new_blk yr _
  have HBr : Hid (Below w.heap.size w (yr.alloc (.cells #[.int .i64 3, .bool false, .slice aqr nqr cqr, .string ⟨#[]⟩, .bool true] 26))) := HBG.out.trans (hq.mono HBG.out.size)
  clear hb hq HK3 HBG GH0Bpq GH1Bpq GHNpq GHNq a5 c5 r05 r15
  have a5 := bx5 GH0Bpqr.out
  have c5 := bx5 GH1Bpqr.out
  have r05 := bx5 GHNpqr.out
  have r15 := bx5 GHNqr.out
  have r25 := bx5 HNr.out
  go_wp2_with fail
  refine (HK4.out _ HBr.out).mono ?_
  rintro e ys ⟨⟨v, rfl, aqs, nqs, cqs, rfl, hi⟩, hb⟩
  dsimp only
  clear hi
  have hq := hb.trans (((Below.refl ys.heap.size ys).alloc (Nat.le_refl _) (.cells #[.int .i64 3, .bool false, .slice aqs nqs cqs, .string ⟨#[]⟩, .bool false] 26)).mono hb.size)
  have GH0Bpqrs : Hid ((ys.alloc (.cells #[.int .i64 3, .bool false, .slice aqs nqs cqs, .string ⟨#[]⟩, .bool false] 26)).heap[w.heap.size]? = some (.cells #[.int .i64 k1, .bool s1, .slice a1 n1 c1, .string t1, .bool b1] 26 (0, 0))) := kept5 hq GH0Bpqr.out
  have GH1Bpqrs : Hid ((ys.alloc (.cells #[.int .i64 3, .bool false, .slice aqs nqs cqs, .string ⟨#[]⟩, .bool false] 26)).heap[w.heap.size + 1]? = some (.cells #[.int .i64 k2, .bool s2, .slice a2 n2 c2, .string t2, .bool b2] 26 (0, 0))) := kept5 hq GH1Bpqr.out
  have GHNpqrs : Hid ((ys.alloc (.cells #[.int .i64 3, .bool false, .slice aqs nqs cqs, .string ⟨#[]⟩, .bool false] 26)).heap[yp.heap.size]? = some (.cells #[.int .i64 3, .bool false, .slice aqp nqp cqp, .string ⟨#[]⟩, .bool false] 26 (0, 0))) := kept5 hq GHNpqr.out
  have GHNqrs : Hid ((ys.alloc (.cells #[.int .i64 3, .bool false, .slice aqs nqs cqs, .string ⟨#[]⟩, .bool false] 26)).heap[yq.heap.size]? = some (.cells #[.int .i64 3, .bool false, .slice aqq nqq cqq, .string ⟨#[]⟩, .bool true] 26 (0, 0))) := kept5 hq GHNqr.out
  have HNrs : Hid ((ys.alloc (.cells #[.int .i64 3, .bool false, .slice aqs nqs cqs, .string ⟨#[]⟩, .bool false] 26)).heap[yr.heap.size]? = some (.cells #[.int .i64 3, .bool false, .slice aqr nqr cqr, .string ⟨#[]⟩, .bool true] 26 (0, 0))) := kept5 hq HNr.out
  have HNs : Hid ((ys.alloc (.cells #[.int .i64 3, .bool false, .slice aqs nqs cqs, .string ⟨#[]⟩, .bool false] 26)).heap[ys.heap.size]? = some (.cells #[.int .i64 3, .bool false, .slice aqs nqs cqs, .string ⟨#[]⟩, .bool false] 26 (0, 0))) := new_blk ys _
  have HBs : Hid (Below w.heap.size w (ys.alloc (.cells #[.int .i64 3, .bool false, .slice aqs nqs cqs, .string ⟨#[]⟩, .bool false] 26))) := HBr.out.trans (hq.mono HBr.out.size)
  clear hb hq HK4 HBr GH0Bpqr GH1Bpqr GHNpqr GHNqr HNr a5 c5 r05 r15 r25
  have a5 := bx5 GH0Bpqrs.out
  have c5 := bx5 GH1Bpqrs.out
  have r05 := bx5 GHNpqrs.out
  have r15 := bx5 GHNqrs.out
  have r25 := bx5 HNrs.out
  have r35 := bx5 HNs.out
  go_wp2_with (go_at_call 8; refine (awake_any _).mono ?_; rintro e z9 ⟨rfl, hb⟩; have HBZ : Hid (Below w.heap.size w z9) := HBs.out.trans (hb.mono HBs.out.size); clear hb)
  go_ret
  exact ⟨rfl, HBZ.out⟩
set_option maxRecDepth 100000 in
set_option maxHeartbeats 8000000 in
theorem lw_eq (k1 k2 : Int) (s1 s2 : Bool) (a1 a2 : Option Addr) (n1 n2 c1 c2 : Nat) (t1 t2 : ByteArray) (b1 b2 : Bool) (w : World)
    (hi1 : ∀ W, Calls Tryd.prog 7 #[cnV k1 s1 a1 n1 c1 t1 b1] W fun e w' => e = .returned (.bool true) ∧ Below W.heap.size W w')
    (hi2 : ∀ W, Calls Tryd.prog 7 #[cnV k2 s2 a2 n2 c2 t2 b2] W fun e w' => e = .returned (.bool true) ∧ Below W.heap.size W w')
    (hk1 : ∀ W, Below w.heap.size w W → Calls Tryd.prog 9 #[.string ⟨#[61, 61]⟩, cnV k1 s1 a1 n1 c1 t1 b1, cnV k2 s2 a2 n2 c2 t2 b2] W (AnsQ W ⟨3, false, 0, ⟨#[]⟩, true, 0⟩))
    (hk2 : ∀ W, Below w.heap.size w W → Calls Tryd.prog 9 #[.string ⟨#[33, 61]⟩, cnV k1 s1 a1 n1 c1 t1 b1, cnV k2 s2 a2 n2 c2 t2 b2] W (AnsQ W ⟨3, false, 0, ⟨#[]⟩, false, 0⟩))
    (hk3 : ∀ W, Below w.heap.size w W → Calls Tryd.prog 9 #[.string ⟨#[60]⟩, cnV k1 s1 a1 n1 c1 t1 b1, cnV k2 s2 a2 n2 c2 t2 b2] W (AnsQ W ⟨3, false, 0, ⟨#[]⟩, false, 0⟩))
    (hk4 : ∀ W, Below w.heap.size w W → Calls Tryd.prog 9 #[.string ⟨#[62]⟩, cnV k1 s1 a1 n1 c1 t1 b1, cnV k2 s2 a2 n2 c2 t2 b2] W (AnsQ W ⟨3, false, 0, ⟨#[]⟩, false, 0⟩))
    (heq : ∀ W, Below w.heap.size w W → Calls Tryd.prog 13 #[cnV k1 s1 a1 n1 c1 t1 b1, cnV k2 s2 a2 n2 c2 t2 b2] W fun e w' => e = .returned (.bool true) ∧ Below W.heap.size W w') :
    Calls Tryd.prog 5 #[cnV k1 s1 a1 n1 c1 t1 b1, cnV k2 s2 a2 n2 c2 t2 b2] w fun e w' => e = .returned (.bool true) ∧ Below w.heap.size w w' := by
  have HI1 : Hid (∀ W, Calls Tryd.prog 7 #[cnV k1 s1 a1 n1 c1 t1 b1] W fun e w' => e = .returned (.bool true) ∧ Below W.heap.size W w') := hi1
  have HI2 : Hid (∀ W, Calls Tryd.prog 7 #[cnV k2 s2 a2 n2 c2 t2 b2] W fun e w' => e = .returned (.bool true) ∧ Below W.heap.size W w') := hi2
  have HK1 : Hid (∀ W, Below w.heap.size w W → Calls Tryd.prog 9 #[.string ⟨#[61, 61]⟩, cnV k1 s1 a1 n1 c1 t1 b1, cnV k2 s2 a2 n2 c2 t2 b2] W (AnsQ W ⟨3, false, 0, ⟨#[]⟩, true, 0⟩)) := hk1
  have HK2 : Hid (∀ W, Below w.heap.size w W → Calls Tryd.prog 9 #[.string ⟨#[33, 61]⟩, cnV k1 s1 a1 n1 c1 t1 b1, cnV k2 s2 a2 n2 c2 t2 b2] W (AnsQ W ⟨3, false, 0, ⟨#[]⟩, false, 0⟩)) := hk2
  have HK3 : Hid (∀ W, Below w.heap.size w W → Calls Tryd.prog 9 #[.string ⟨#[60]⟩, cnV k1 s1 a1 n1 c1 t1 b1, cnV k2 s2 a2 n2 c2 t2 b2] W (AnsQ W ⟨3, false, 0, ⟨#[]⟩, false, 0⟩)) := hk3
  have HK4 : Hid (∀ W, Below w.heap.size w W → Calls Tryd.prog 9 #[.string ⟨#[62]⟩, cnV k1 s1 a1 n1 c1 t1 b1, cnV k2 s2 a2 n2 c2 t2 b2] W (AnsQ W ⟨3, false, 0, ⟨#[]⟩, false, 0⟩)) := hk4
  have HEQ : Hid (∀ W, Below w.heap.size w W → Calls Tryd.prog 13 #[cnV k1 s1 a1 n1 c1 t1 b1, cnV k2 s2 a2 n2 c2 t2 b2] W fun e w' => e = .returned (.bool true) ∧ Below W.heap.size W w') := heq
  have HB2 : Hid (Below w.heap.size w ((w.alloc (.cells #[.int .i64 k1, .bool s1, .slice a1 n1 c1, .string t1, .bool b1] 26)).alloc (.cells #[.int .i64 k2, .bool s2, .slice a2 n2 c2, .string t2, .bool b2] 26))) := two_below w _ _
  have HA2 : Hid (((w.alloc (.cells #[.int .i64 k1, .bool s1, .slice a1 n1 c1, .string t1, .bool b1] 26)).alloc (.cells #[.int .i64 k2, .bool s2, .slice a2 n2 c2, .string t2, .bool b2] 26)).heap[w.heap.size]? = some (.cells #[.int .i64 k1, .bool s1, .slice a1 n1 c1, .string t1, .bool b1] 26 (0, 0)) ∧ ((w.alloc (.cells #[.int .i64 k1, .bool s1, .slice a1 n1 c1, .string t1, .bool b1] 26)).alloc (.cells #[.int .i64 k2, .bool s2, .slice a2 n2 c2, .string t2, .bool b2] 26)).heap[w.heap.size + 1]? = some (.cells #[.int .i64 k2, .bool s2, .slice a2 n2 c2, .string t2, .bool b2] 26 (0, 0))) := ⟨kept5 ((Below.refl _ _).alloc (Nat.le_refl _) _) (new_blk w _), two_new _ _⟩
  clear hi1 hi2 hk1 hk2 hk3 hk4 heq
  go_enter Tryd.func5, Tryd.ntmps5
  go_wp2_with fail
  refine (HI1.out _).mono ?_
  rintro e x1 ⟨rfl, hb⟩
  have HBA : Hid (Below w.heap.size w x1) := HB2.out.trans (hb.mono HB2.out.size)
  have H0A : Hid (x1.heap[w.heap.size]? = some (.cells #[.int .i64 k1, .bool s1, .slice a1 n1 c1, .string t1, .bool b1] 26 (0, 0))) := kept5 hb HA2.out.1
  have H1A : Hid (x1.heap[w.heap.size + 1]? = some (.cells #[.int .i64 k2, .bool s2, .slice a2 n2 c2, .string t2, .bool b2] 26 (0, 0))) := kept5 hb HA2.out.2
  clear hb
  have c5 := bx5 H1A.out
  go_wp2_with fail
  refine (HI2.out _).mono ?_
  rintro e x2 ⟨rfl, hb⟩
  have HBB : Hid (Below w.heap.size w x2) := HBA.out.trans (hb.mono HBA.out.size)
  have H0B : Hid (x2.heap[w.heap.size]? = some (.cells #[.int .i64 k1, .bool s1, .slice a1 n1 c1, .string t1, .bool b1] 26 (0, 0))) := kept5 hb H0A.out
  have H1B : Hid (x2.heap[w.heap.size + 1]? = some (.cells #[.int .i64 k2, .bool s2, .slice a2 n2 c2, .string t2, .bool b2] 26 (0, 0))) := kept5 hb H1A.out
  clear hb c5 H0A H1A HBA HI1 HI2 HA2 HB2
  have a5 := bx5 H0B.out
  have c5 := bx5 H1B.out
  go_wp2_with fail
  refine (HK1.out _ HBB.out).mono ?_
  rintro e yp ⟨⟨v, rfl, aqp, nqp, cqp, rfl, hi⟩, hb⟩
  dsimp only
  clear hi
  have hq := hb.trans (((Below.refl yp.heap.size yp).alloc (Nat.le_refl _) (.cells #[.int .i64 3, .bool false, .slice aqp nqp cqp, .string ⟨#[]⟩, .bool true] 26)).mono hb.size)
  have H0Bp : Hid ((yp.alloc (.cells #[.int .i64 3, .bool false, .slice aqp nqp cqp, .string ⟨#[]⟩, .bool true] 26)).heap[w.heap.size]? = some (.cells #[.int .i64 k1, .bool s1, .slice a1 n1 c1, .string t1, .bool b1] 26 (0, 0))) := kept5 hq H0B.out
  have H1Bp : Hid ((yp.alloc (.cells #[.int .i64 3, .bool false, .slice aqp nqp cqp, .string ⟨#[]⟩, .bool true] 26)).heap[w.heap.size + 1]? = some (.cells #[.int .i64 k2, .bool s2, .slice a2 n2 c2, .string t2, .bool b2] 26 (0, 0))) := kept5 hq H1B.out
  have HNp : Hid ((yp.alloc (.cells #[.int .i64 3, .bool false, .slice aqp nqp cqp, .string ⟨#[]⟩, .bool true] 26)).heap[yp.heap.size]? = some (.cells #[.int .i64 3, .bool false, .slice aqp nqp cqp, .string ⟨#[]⟩, .bool true] 26 (0, 0))) := new_blk yp _
  have HBp : Hid (Below w.heap.size w (yp.alloc (.cells #[.int .i64 3, .bool false, .slice aqp nqp cqp, .string ⟨#[]⟩, .bool true] 26))) := HBB.out.trans (hq.mono HBB.out.size)
  clear hb hq HK1 HBB H0B H1B a5 c5
  have a5 := bx5 H0Bp.out
  have c5 := bx5 H1Bp.out
  have r05 := bx5 HNp.out
  go_wp2_with fail
  refine (HK2.out _ HBp.out).mono ?_
  rintro e yq ⟨⟨v, rfl, aqq, nqq, cqq, rfl, hi⟩, hb⟩
  dsimp only
  clear hi
  have hq := hb.trans (((Below.refl yq.heap.size yq).alloc (Nat.le_refl _) (.cells #[.int .i64 3, .bool false, .slice aqq nqq cqq, .string ⟨#[]⟩, .bool false] 26)).mono hb.size)
  have H0Bpq : Hid ((yq.alloc (.cells #[.int .i64 3, .bool false, .slice aqq nqq cqq, .string ⟨#[]⟩, .bool false] 26)).heap[w.heap.size]? = some (.cells #[.int .i64 k1, .bool s1, .slice a1 n1 c1, .string t1, .bool b1] 26 (0, 0))) := kept5 hq H0Bp.out
  have H1Bpq : Hid ((yq.alloc (.cells #[.int .i64 3, .bool false, .slice aqq nqq cqq, .string ⟨#[]⟩, .bool false] 26)).heap[w.heap.size + 1]? = some (.cells #[.int .i64 k2, .bool s2, .slice a2 n2 c2, .string t2, .bool b2] 26 (0, 0))) := kept5 hq H1Bp.out
  have HNpq : Hid ((yq.alloc (.cells #[.int .i64 3, .bool false, .slice aqq nqq cqq, .string ⟨#[]⟩, .bool false] 26)).heap[yp.heap.size]? = some (.cells #[.int .i64 3, .bool false, .slice aqp nqp cqp, .string ⟨#[]⟩, .bool true] 26 (0, 0))) := kept5 hq HNp.out
  have HNq : Hid ((yq.alloc (.cells #[.int .i64 3, .bool false, .slice aqq nqq cqq, .string ⟨#[]⟩, .bool false] 26)).heap[yq.heap.size]? = some (.cells #[.int .i64 3, .bool false, .slice aqq nqq cqq, .string ⟨#[]⟩, .bool false] 26 (0, 0))) := new_blk yq _
  have HBq : Hid (Below w.heap.size w (yq.alloc (.cells #[.int .i64 3, .bool false, .slice aqq nqq cqq, .string ⟨#[]⟩, .bool false] 26))) := HBp.out.trans (hq.mono HBp.out.size)
  clear hb hq HK2 HBp H0Bp H1Bp HNp a5 c5 r05
  have a5 := bx5 H0Bpq.out
  have c5 := bx5 H1Bpq.out
  have r05 := bx5 HNpq.out
  have r15 := bx5 HNq.out
  go_wp2_with fail
  obtain ⟨wr, hwr⟩ : ∃ wr, (yq.alloc (.cells #[.int .i64 3, .bool false, .slice aqq nqq cqq, .string ⟨#[]⟩, .bool false] 26)) = wr := ⟨_, rfl⟩
  rw [hwr] at H0Bpq H1Bpq HNpq HNq HBq ⊢
  clear a5 c5 r05 r15 hwr
  have HKP : Hid (∀ W', Below wr.heap.size wr W' → W'.cell? ⟨w.heap.size, 0, none⟩ = some (.int .i64 k1) ∧ W'.cell? ⟨w.heap.size, 1, none⟩ = some (.bool s1) ∧ W'.cell? ⟨w.heap.size, 2, none⟩ = some (.slice a1 n1 c1) ∧ W'.cell? ⟨w.heap.size, 3, none⟩ = some (.string t1) ∧ W'.cell? ⟨w.heap.size, 4, none⟩ = some (.bool b1) ∧ W'.cell? ⟨w.heap.size + 1, 0, none⟩ = some (.int .i64 k2) ∧ W'.cell? ⟨w.heap.size + 1, 1, none⟩ = some (.bool s2) ∧ W'.cell? ⟨w.heap.size + 1, 2, none⟩ = some (.slice a2 n2 c2) ∧ W'.cell? ⟨w.heap.size + 1, 3, none⟩ = some (.string t2) ∧ W'.cell? ⟨w.heap.size + 1, 4, none⟩ = some (.bool b2) ∧ W'.cell? ⟨yp.heap.size, 0, none⟩ = some (.int .i64 3) ∧ W'.cell? ⟨yp.heap.size, 1, none⟩ = some (.bool false) ∧ W'.cell? ⟨yp.heap.size, 2, none⟩ = some (.slice aqp nqp cqp) ∧ W'.cell? ⟨yp.heap.size, 3, none⟩ = some (.string ⟨#[]⟩) ∧ W'.cell? ⟨yp.heap.size, 4, none⟩ = some (.bool true) ∧ W'.cell? ⟨yq.heap.size, 0, none⟩ = some (.int .i64 3) ∧ W'.cell? ⟨yq.heap.size, 1, none⟩ = some (.bool false) ∧ W'.cell? ⟨yq.heap.size, 2, none⟩ = some (.slice aqq nqq cqq) ∧ W'.cell? ⟨yq.heap.size, 3, none⟩ = some (.string ⟨#[]⟩) ∧ W'.cell? ⟨yq.heap.size, 4, none⟩ = some (.bool false)) := fun W' hb => by
    obtain ⟨p00, p01, p02, p03, p04⟩ := bx5 (kept5 hb H0Bpq.out)
    obtain ⟨p10, p11, p12, p13, p14⟩ := bx5 (kept5 hb H1Bpq.out)
    obtain ⟨p20, p21, p22, p23, p24⟩ := bx5 (kept5 hb HNpq.out)
    obtain ⟨p30, p31, p32, p33, p34⟩ := bx5 (kept5 hb HNq.out)
    exact ⟨p00, p01, p02, p03, p04, p10, p11, p12, p13, p14, p20, p21, p22, p23, p24, p30, p31, p32, p33, p34⟩
  have kS := HKP.out wr (Below.refl _ _)
  refine wp_region_held_drew (S := fun w' => w'.cell? ⟨w.heap.size, 0, none⟩ = some (.int .i64 k1) ∧ w'.cell? ⟨w.heap.size, 1, none⟩ = some (.bool s1) ∧ w'.cell? ⟨w.heap.size, 2, none⟩ = some (.slice a1 n1 c1) ∧ w'.cell? ⟨w.heap.size, 3, none⟩ = some (.string t1) ∧ w'.cell? ⟨w.heap.size, 4, none⟩ = some (.bool b1) ∧ w'.cell? ⟨w.heap.size + 1, 0, none⟩ = some (.int .i64 k2) ∧ w'.cell? ⟨w.heap.size + 1, 1, none⟩ = some (.bool s2) ∧ w'.cell? ⟨w.heap.size + 1, 2, none⟩ = some (.slice a2 n2 c2) ∧ w'.cell? ⟨w.heap.size + 1, 3, none⟩ = some (.string t2) ∧ w'.cell? ⟨w.heap.size + 1, 4, none⟩ = some (.bool b2) ∧ w'.cell? ⟨yp.heap.size, 0, none⟩ = some (.int .i64 3) ∧ w'.cell? ⟨yp.heap.size, 1, none⟩ = some (.bool false) ∧ w'.cell? ⟨yp.heap.size, 2, none⟩ = some (.slice aqp nqp cqp) ∧ w'.cell? ⟨yp.heap.size, 3, none⟩ = some (.string ⟨#[]⟩) ∧ w'.cell? ⟨yp.heap.size, 4, none⟩ = some (.bool true) ∧ w'.cell? ⟨yq.heap.size, 0, none⟩ = some (.int .i64 3) ∧ w'.cell? ⟨yq.heap.size, 1, none⟩ = some (.bool false) ∧ w'.cell? ⟨yq.heap.size, 2, none⟩ = some (.slice aqq nqq cqq) ∧ w'.cell? ⟨yq.heap.size, 3, none⟩ = some (.string ⟨#[]⟩) ∧ w'.cell? ⟨yq.heap.size, 4, none⟩ = some (.bool false)) (by kernel_rfl) (by exact kS) (fun hHeld => ?_)
  clear hHeld
  refine wpAnyH_take (i := 0) (oi := { dst := some 35, op := Op.move (Operand.tmp 6), type := 29, pos := "law.go:62", after := #[], guard := none }) (v := ?_) rfl (by kernel_rfl) (by kernel_rfl) (by kernel_rfl) (fun _ _ _ h => h) (Or.inl ⟨by rfl, ?_⟩) (by exact kS) ?_
  rotate_left
  · intro w hSw; (try dsimp only at hSw); (go_simp <;> with_reducible rfl)
  try simp only [Act.put, List.setIfInBounds_toArray, List.set_cons_zero, List.set_cons_succ]
  refine wpAnyH_take (i := 1) (oi := { dst := some 36, op := Op.move (Operand.tmp 8), type := 29, pos := "law.go:62", after := #[], guard := none }) (v := ?_) rfl (by kernel_rfl) (by kernel_rfl) (by kernel_rfl) (fun _ _ _ h => h) (Or.inl ⟨by rfl, ?_⟩) (by exact kS) ?_
  rotate_left
  · intro w hSw; (try dsimp only at hSw); (go_simp <;> with_reducible rfl)
  try simp only [Act.put, List.setIfInBounds_toArray, List.set_cons_zero, List.set_cons_succ]
  refine wpAnyH_take (i := 2) (oi := { dst := some 37, op := Op.binOp BinOp.neq 29 (Operand.tmp 35) (Operand.tmp 36) 29, type := 4, pos := "law.go:62", after := #[{ on := 0, ground := Ground.data }, { on := 1, ground := Ground.data }], guard := none }) (v := ?_) rfl (by kernel_rfl) (by kernel_rfl) (by kernel_rfl) (fun _ _ _ h => h) (Or.inl ⟨by rfl, ?_⟩) (by exact kS) ?_
  rotate_left
  · intro w hSw; (try dsimp only at hSw); (go_simp <;> with_reducible rfl)
  try simp only [Act.put, List.setIfInBounds_toArray, List.set_cons_zero, List.set_cons_succ]
  refine wpAnyH_take (i := 3) (oi := { dst := some 38, op := Op.move (Operand.tmp 37), type := 4, pos := "law.go:62", after := #[{ on := 2, ground := Ground.data }], guard := none }) (v := ?_) rfl (by kernel_rfl) (by kernel_rfl) (by kernel_rfl) (fun _ _ _ h => h) (Or.inl ⟨by rfl, ?_⟩) (by exact kS) ?_
  rotate_left
  · intro w hSw; (try dsimp only at hSw); (go_simp <;> with_reducible rfl)
  try simp only [Act.put, List.setIfInBounds_toArray, List.set_cons_zero, List.set_cons_succ]
  refine wpAnyH_take (i := 4) (oi := { dst := some 39, op := Op.move (Operand.tmp 6), type := 29, pos := "law.go:62", after := #[{ on := 3, ground := Ground.guard }], guard := some (3, false) }) (v := ?_) rfl (by kernel_rfl) (by kernel_rfl) (by kernel_rfl) (fun _ _ _ h => h) (Or.inl ⟨by rfl, ?_⟩) (by exact kS) ?_
  rotate_left
  · intro w hSw; (try dsimp only at hSw); (go_simp <;> with_reducible rfl)
  try simp only [Act.put, List.setIfInBounds_toArray, List.set_cons_zero, List.set_cons_succ]
  refine wpAnyH_take (i := 5) (oi := { dst := some 40, op := Op.binOp BinOp.eql 29 (Operand.tmp 39) (Operand.const (Value.int IntKind.i64 0)) 29, type := 4, pos := "law.go:62", after := #[{ on := 4, ground := Ground.data }, { on := 3, ground := Ground.guard }], guard := some (3, false) }) (v := ?_) rfl (by kernel_rfl) (by kernel_rfl) (by kernel_rfl) (fun _ _ _ h => h) (Or.inl ⟨by rfl, ?_⟩) (by exact kS) ?_
  rotate_left
  · intro w hSw; (try dsimp only at hSw); (go_simp <;> with_reducible rfl)
  try simp only [Act.put, List.setIfInBounds_toArray, List.set_cons_zero, List.set_cons_succ]
  refine wpAnyH_take (i := 6) (oi := { dst := some 41, op := Op.move (Operand.tmp 40), type := 4, pos := "law.go:62", after := #[{ on := 5, ground := Ground.data }, { on := 3, ground := Ground.chain }, { on := 3, ground := Ground.guard }], guard := some (3, false) }) (v := ?_) rfl (by kernel_rfl) (by kernel_rfl) (by kernel_rfl) (fun _ _ _ h => h) (Or.inl ⟨by rfl, ?_⟩) (by exact kS) ?_
  rotate_left
  · intro w hSw; (try dsimp only at hSw); (go_simp <;> with_reducible rfl)
  try simp only [Act.put, List.setIfInBounds_toArray, List.set_cons_zero, List.set_cons_succ]
  refine wpAnyH_take (i := 7) (oi := { dst := some 42, op := Op.fieldAddr 26 (Operand.tmp 5) 3, type := 0, pos := "law.go:62", after := #[{ on := 6, ground := Ground.guard }], guard := some (6, true) }) (v := ?_) rfl (by kernel_rfl) (by kernel_rfl) (by kernel_rfl) (fun _ _ _ h => h) (Or.inl ⟨by rfl, ?_⟩) (by exact kS) ?_
  rotate_left
  · intro w hSw; (try dsimp only at hSw); (go_simp <;> with_reducible rfl)
  try simp only [Act.put, List.setIfInBounds_toArray, List.set_cons_zero, List.set_cons_succ]
  refine wpAnyH_take (i := 8) (oi := { dst := some 43, op := Op.load 4 (Operand.tmp 42), type := 4, pos := "law.go:62", after := #[{ on := 7, ground := Ground.data }, { on := 6, ground := Ground.guard }], guard := some (6, true) }) (v := ?_) rfl (by kernel_rfl) (by kernel_rfl) (by kernel_rfl) (fun _ _ _ h => h) (Or.inl ⟨by rfl, ?_⟩) (by exact kS) ?_
  rotate_left
  · intro w hSw; (try dsimp only at hSw); (go_simp <;> with_reducible rfl)
  try simp only [Act.put, List.setIfInBounds_toArray, List.set_cons_zero, List.set_cons_succ]
  refine wpAnyH_take (i := 9) (oi := { dst := some 44, op := Op.fieldAddr 26 (Operand.tmp 7) 3, type := 0, pos := "law.go:62", after := #[{ on := 6, ground := Ground.guard }], guard := some (6, true) }) (v := ?_) rfl (by kernel_rfl) (by kernel_rfl) (by kernel_rfl) (fun _ _ _ h => h) (Or.inl ⟨by rfl, ?_⟩) (by exact kS) ?_
  rotate_left
  · intro w hSw; (try dsimp only at hSw); (go_simp <;> with_reducible rfl)
  try simp only [Act.put, List.setIfInBounds_toArray, List.set_cons_zero, List.set_cons_succ]
  refine wpAnyH_take (i := 10) (oi := { dst := some 45, op := Op.load 4 (Operand.tmp 44), type := 4, pos := "law.go:62", after := #[{ on := 9, ground := Ground.data }, { on := 6, ground := Ground.guard }], guard := some (6, true) }) (v := ?_) rfl (by kernel_rfl) (by kernel_rfl) (by kernel_rfl) (fun _ _ _ h => h) (Or.inl ⟨by rfl, ?_⟩) (by exact kS) ?_
  rotate_left
  · intro w hSw; (try dsimp only at hSw); (go_simp <;> with_reducible rfl)
  try simp only [Act.put, List.setIfInBounds_toArray, List.set_cons_zero, List.set_cons_succ]
  refine wpAnyH_take (i := 11) (oi := { dst := some 46, op := Op.binOp BinOp.eql 4 (Operand.tmp 43) (Operand.tmp 45) 4, type := 4, pos := "law.go:62", after := #[{ on := 8, ground := Ground.data }, { on := 10, ground := Ground.data }, { on := 6, ground := Ground.guard }], guard := some (6, true) }) (v := ?_) rfl (by kernel_rfl) (by kernel_rfl) (by kernel_rfl) (fun _ _ _ h => h) (Or.inl ⟨by rfl, ?_⟩) (by exact kS) ?_
  rotate_left
  · intro w hSw; (try dsimp only at hSw); (go_simp <;> with_reducible rfl)
  try simp only [Act.put, List.setIfInBounds_toArray, List.set_cons_zero, List.set_cons_succ]
  refine wpAnyH_take (i := 12) (oi := { dst := some 47, op := Op.move (Operand.tmp 46), type := 4, pos := "law.go:62", after := #[{ on := 11, ground := Ground.data }, { on := 6, ground := Ground.chain }, { on := 6, ground := Ground.guard }], guard := some (6, true) }) (v := ?_) rfl (by kernel_rfl) (by kernel_rfl) (by kernel_rfl) (fun _ _ _ h => h) (Or.inl ⟨by rfl, ?_⟩) (by exact kS) ?_
  rotate_left
  · intro w hSw; (try dsimp only at hSw); (go_simp <;> with_reducible rfl)
  try simp only [Act.put, List.setIfInBounds_toArray, List.set_cons_zero, List.set_cons_succ]
  refine wpAnyH_take (i := 13) (oi := { dst := some 48, op := Op.fieldAddr 26 (Operand.tmp 5) 3, type := 0, pos := "law.go:62", after := #[{ on := 12, ground := Ground.guard }], guard := some (12, false) }) (v := ?_) rfl (by kernel_rfl) (by kernel_rfl) (by kernel_rfl) (fun _ _ _ h => h) (Or.inl ⟨by rfl, ?_⟩) (by exact kS) ?_
  rotate_left
  · intro w hSw; (try dsimp only at hSw); (go_simp <;> with_reducible rfl)
  try simp only [Act.put, List.setIfInBounds_toArray, List.set_cons_zero, List.set_cons_succ]
  refine wpAnyH_take (i := 14) (oi := { dst := some 49, op := Op.load 4 (Operand.tmp 48), type := 4, pos := "law.go:62", after := #[{ on := 13, ground := Ground.data }, { on := 12, ground := Ground.guard }], guard := some (12, false) }) (v := ?_) rfl (by kernel_rfl) (by kernel_rfl) (by kernel_rfl) (fun _ _ _ h => h) (Or.inl ⟨by rfl, ?_⟩) (by exact kS) ?_
  rotate_left
  · intro w hSw; (try dsimp only at hSw); (go_simp <;> with_reducible rfl)
  try simp only [Act.put, List.setIfInBounds_toArray, List.set_cons_zero, List.set_cons_succ]
  refine wpAnyH_take (i := 15) (oi := { dst := some 50, op := Op.load 26 (Operand.tmp 2), type := 26, pos := "law.go:62", after := #[{ on := 12, ground := Ground.guard }], guard := some (12, false) }) (v := ?_) rfl (by kernel_rfl) (by kernel_rfl) (by kernel_rfl) (fun _ _ _ h => h) (Or.inl ⟨by rfl, ?_⟩) (by exact kS) ?_
  rotate_left
  · intro w hSw; (try dsimp only at hSw); (go_simp <;> with_reducible rfl)
  try simp only [Act.put, List.setIfInBounds_toArray, List.set_cons_zero, List.set_cons_succ]
  refine wpAnyH_take (i := 16) (oi := { dst := some 51, op := Op.load 26 (Operand.tmp 3), type := 26, pos := "law.go:62", after := #[{ on := 12, ground := Ground.guard }], guard := some (12, false) }) (v := ?_) rfl (by kernel_rfl) (by kernel_rfl) (by kernel_rfl) (fun _ _ _ h => h) (Or.inl ⟨by rfl, ?_⟩) (by exact kS) ?_
  rotate_left
  · intro w hSw; (try dsimp only at hSw); (go_simp <;> with_reducible rfl)
  try simp only [Act.put, List.setIfInBounds_toArray, List.set_cons_zero, List.set_cons_succ]
  refine wpAnyH_ready (rs := [17]) (by kernel_rfl) (by simp) ?_
  refine AllReadyH.cons (o := { dst := some 52, op := Op.call { callee := Callee.value (Operand.func 13), args := #[Operand.tmp 50, Operand.tmp 51], argTypes := #[26, 26] }, type := 4, pos := "law.go:62", after := #[{ on := 15, ground := Ground.data }, { on := 16, ground := Ground.data }, { on := 12, ground := Ground.chain }, { on := 12, ground := Ground.guard }], guard := some (12, false) }) rfl (fun K hK => ?_) AllReadyH.nil
  go_simp
  go_at_call 13; refine (HEQ.out _ (HBq.out.trans ((Below.refl _ wr).drew.mono HBq.out.size))).mono ?_; rintro e z1 ⟨rfl, hb⟩; have HBE : Hid (Below wr.heap.size wr z1) := (Below.refl _ wr).drew.trans hb; have kS := HKP.out z1 HBE.out; clear hb
  go_wp2_with fail
  refine hK.out _ _ (by exact kS) (fun hHeld => ?_)
  clear hK K hHeld
  try simp only [Act.put, List.setIfInBounds_toArray, List.set_cons_zero, List.set_cons_succ]
  refine wpAnyH_take (i := 18) (oi := { dst := some 53, op := Op.binOp BinOp.neq 4 (Operand.tmp 49) (Operand.tmp 52) 4, type := 4, pos := "law.go:62", after := #[{ on := 14, ground := Ground.data }, { on := 17, ground := Ground.data }, { on := 12, ground := Ground.guard }], guard := some (12, false) }) (v := ?_) rfl (by kernel_rfl) (by kernel_rfl) (by kernel_rfl) (fun _ _ _ h => h) (Or.inl ⟨by rfl, ?_⟩) (by exact kS) ?_
  rotate_left
  · intro w hSw; (try dsimp only at hSw); (go_simp <;> with_reducible rfl)
  try simp only [Act.put, List.setIfInBounds_toArray, List.set_cons_zero, List.set_cons_succ]
  refine wpAnyH_take (i := 19) (oi := { dst := some 54, op := Op.pick (Operand.tmp 47) (Operand.const (Value.bool true)) (Operand.tmp 53), type := 4, pos := "law.go:62", after := #[{ on := 12, ground := Ground.data }, { on := 18, ground := Ground.data }, { on := 6, ground := Ground.guard }], guard := some (6, true) }) (v := ?_) rfl (by kernel_rfl) (by kernel_rfl) (by kernel_rfl) (fun _ _ _ h => h) (Or.inl ⟨by rfl, ?_⟩) (by exact kS) ?_
  rotate_left
  · intro w hSw; (try dsimp only at hSw); (go_simp <;> with_reducible rfl)
  try simp only [Act.put, List.setIfInBounds_toArray, List.set_cons_zero, List.set_cons_succ]
  refine wpAnyH_take (i := 20) (oi := { dst := some 55, op := Op.pick (Operand.tmp 41) (Operand.tmp 54) (Operand.const (Value.bool false)), type := 4, pos := "law.go:62", after := #[{ on := 6, ground := Ground.data }, { on := 19, ground := Ground.data }, { on := 3, ground := Ground.guard }], guard := some (3, false) }) (v := ?_) rfl (by kernel_rfl) (by kernel_rfl) (by kernel_rfl) (fun _ _ _ h => h) (Or.inl ⟨by rfl, ?_⟩) (by exact kS) ?_
  rotate_left
  · intro w hSw; (try dsimp only at hSw); (go_simp <;> with_reducible rfl)
  try simp only [Act.put, List.setIfInBounds_toArray, List.set_cons_zero, List.set_cons_succ]
  refine wpAnyH_take (i := 21) (oi := { dst := some 56, op := Op.pick (Operand.tmp 38) (Operand.const (Value.bool true)) (Operand.tmp 55), type := 4, pos := "law.go:62", after := #[{ on := 3, ground := Ground.data }, { on := 20, ground := Ground.data }], guard := none }) (v := ?_) rfl (by kernel_rfl) (by kernel_rfl) (by kernel_rfl) (fun _ _ _ h => h) (Or.inl ⟨by rfl, ?_⟩) (by exact kS) ?_
  rotate_left
  · intro w hSw; (try dsimp only at hSw); (go_simp <;> with_reducible rfl)
  try simp only [Act.put, List.setIfInBounds_toArray, List.set_cons_zero, List.set_cons_succ]
  refine wpAnyH_done (by kernel_rfl) ?_ _
  clear kS
  have GH0Bpq : Hid (z1.heap[w.heap.size]? = some (.cells #[.int .i64 k1, .bool s1, .slice a1 n1 c1, .string t1, .bool b1] 26 (0, 0))) := kept5 HBE.out H0Bpq.out
  have GH1Bpq : Hid (z1.heap[w.heap.size + 1]? = some (.cells #[.int .i64 k2, .bool s2, .slice a2 n2 c2, .string t2, .bool b2] 26 (0, 0))) := kept5 HBE.out H1Bpq.out
  have GHNpq : Hid (z1.heap[yp.heap.size]? = some (.cells #[.int .i64 3, .bool false, .slice aqp nqp cqp, .string ⟨#[]⟩, .bool true] 26 (0, 0))) := kept5 HBE.out HNpq.out
  have GHNq : Hid (z1.heap[yq.heap.size]? = some (.cells #[.int .i64 3, .bool false, .slice aqq nqq cqq, .string ⟨#[]⟩, .bool false] 26 (0, 0))) := kept5 HBE.out HNq.out
  have HBG : Hid (Below w.heap.size w z1) := HBq.out.trans (HBE.out.mono HBq.out.size)
  clear HKP H0Bpq H1Bpq HNpq HNq HBq HBE
  have a5 := bx5 GH0Bpq.out
  have c5 := bx5 GH1Bpq.out
  have r05 := bx5 GHNpq.out
  have r15 := bx5 GHNq.out
  go_wp2_with fail
  refine (HK3.out _ HBG.out).mono ?_
  rintro e yr ⟨⟨v, rfl, aqr, nqr, cqr, rfl, hi⟩, hb⟩
  dsimp only
  clear hi
  have hq := hb.trans (((Below.refl yr.heap.size yr).alloc (Nat.le_refl _) (.cells #[.int .i64 3, .bool false, .slice aqr nqr cqr, .string ⟨#[]⟩, .bool false] 26)).mono hb.size)
  have GH0Bpqr : Hid ((yr.alloc (.cells #[.int .i64 3, .bool false, .slice aqr nqr cqr, .string ⟨#[]⟩, .bool false] 26)).heap[w.heap.size]? = some (.cells #[.int .i64 k1, .bool s1, .slice a1 n1 c1, .string t1, .bool b1] 26 (0, 0))) := kept5 hq GH0Bpq.out
  have GH1Bpqr : Hid ((yr.alloc (.cells #[.int .i64 3, .bool false, .slice aqr nqr cqr, .string ⟨#[]⟩, .bool false] 26)).heap[w.heap.size + 1]? = some (.cells #[.int .i64 k2, .bool s2, .slice a2 n2 c2, .string t2, .bool b2] 26 (0, 0))) := kept5 hq GH1Bpq.out
  have GHNpqr : Hid ((yr.alloc (.cells #[.int .i64 3, .bool false, .slice aqr nqr cqr, .string ⟨#[]⟩, .bool false] 26)).heap[yp.heap.size]? = some (.cells #[.int .i64 3, .bool false, .slice aqp nqp cqp, .string ⟨#[]⟩, .bool true] 26 (0, 0))) := kept5 hq GHNpq.out
  have GHNqr : Hid ((yr.alloc (.cells #[.int .i64 3, .bool false, .slice aqr nqr cqr, .string ⟨#[]⟩, .bool false] 26)).heap[yq.heap.size]? = some (.cells #[.int .i64 3, .bool false, .slice aqq nqq cqq, .string ⟨#[]⟩, .bool false] 26 (0, 0))) := kept5 hq GHNq.out
  have HNr : Hid ((yr.alloc (.cells #[.int .i64 3, .bool false, .slice aqr nqr cqr, .string ⟨#[]⟩, .bool false] 26)).heap[yr.heap.size]? = some (.cells #[.int .i64 3, .bool false, .slice aqr nqr cqr, .string ⟨#[]⟩, .bool false] 26 (0, 0))) := new_blk yr _
  have HBr : Hid (Below w.heap.size w (yr.alloc (.cells #[.int .i64 3, .bool false, .slice aqr nqr cqr, .string ⟨#[]⟩, .bool false] 26))) := HBG.out.trans (hq.mono HBG.out.size)
  clear hb hq HK3 HBG GH0Bpq GH1Bpq GHNpq GHNq a5 c5 r05 r15
  have a5 := bx5 GH0Bpqr.out
  have c5 := bx5 GH1Bpqr.out
  have r05 := bx5 GHNpqr.out
  have r15 := bx5 GHNqr.out
  have r25 := bx5 HNr.out
  go_wp2_with fail
  refine (HK4.out _ HBr.out).mono ?_
  rintro e ys ⟨⟨v, rfl, aqs, nqs, cqs, rfl, hi⟩, hb⟩
  dsimp only
  clear hi
  have hq := hb.trans (((Below.refl ys.heap.size ys).alloc (Nat.le_refl _) (.cells #[.int .i64 3, .bool false, .slice aqs nqs cqs, .string ⟨#[]⟩, .bool false] 26)).mono hb.size)
  have GH0Bpqrs : Hid ((ys.alloc (.cells #[.int .i64 3, .bool false, .slice aqs nqs cqs, .string ⟨#[]⟩, .bool false] 26)).heap[w.heap.size]? = some (.cells #[.int .i64 k1, .bool s1, .slice a1 n1 c1, .string t1, .bool b1] 26 (0, 0))) := kept5 hq GH0Bpqr.out
  have GH1Bpqrs : Hid ((ys.alloc (.cells #[.int .i64 3, .bool false, .slice aqs nqs cqs, .string ⟨#[]⟩, .bool false] 26)).heap[w.heap.size + 1]? = some (.cells #[.int .i64 k2, .bool s2, .slice a2 n2 c2, .string t2, .bool b2] 26 (0, 0))) := kept5 hq GH1Bpqr.out
  have GHNpqrs : Hid ((ys.alloc (.cells #[.int .i64 3, .bool false, .slice aqs nqs cqs, .string ⟨#[]⟩, .bool false] 26)).heap[yp.heap.size]? = some (.cells #[.int .i64 3, .bool false, .slice aqp nqp cqp, .string ⟨#[]⟩, .bool true] 26 (0, 0))) := kept5 hq GHNpqr.out
  have GHNqrs : Hid ((ys.alloc (.cells #[.int .i64 3, .bool false, .slice aqs nqs cqs, .string ⟨#[]⟩, .bool false] 26)).heap[yq.heap.size]? = some (.cells #[.int .i64 3, .bool false, .slice aqq nqq cqq, .string ⟨#[]⟩, .bool false] 26 (0, 0))) := kept5 hq GHNqr.out
  have HNrs : Hid ((ys.alloc (.cells #[.int .i64 3, .bool false, .slice aqs nqs cqs, .string ⟨#[]⟩, .bool false] 26)).heap[yr.heap.size]? = some (.cells #[.int .i64 3, .bool false, .slice aqr nqr cqr, .string ⟨#[]⟩, .bool false] 26 (0, 0))) := kept5 hq HNr.out
  have HNs : Hid ((ys.alloc (.cells #[.int .i64 3, .bool false, .slice aqs nqs cqs, .string ⟨#[]⟩, .bool false] 26)).heap[ys.heap.size]? = some (.cells #[.int .i64 3, .bool false, .slice aqs nqs cqs, .string ⟨#[]⟩, .bool false] 26 (0, 0))) := new_blk ys _
  have HBs : Hid (Below w.heap.size w (ys.alloc (.cells #[.int .i64 3, .bool false, .slice aqs nqs cqs, .string ⟨#[]⟩, .bool false] 26))) := HBr.out.trans (hq.mono HBr.out.size)
  clear hb hq HK4 HBr GH0Bpqr GH1Bpqr GHNpqr GHNqr HNr a5 c5 r05 r15 r25
  have a5 := bx5 GH0Bpqrs.out
  have c5 := bx5 GH1Bpqrs.out
  have r05 := bx5 GHNpqrs.out
  have r15 := bx5 GHNqrs.out
  have r25 := bx5 HNrs.out
  have r35 := bx5 HNs.out
  go_wp2_with (go_at_call 8; refine (awake_any _).mono ?_; rintro e z9 ⟨rfl, hb⟩; have HBZ : Hid (Below w.heap.size w z9) := HBs.out.trans (hb.mono HBs.out.size); clear hb)
  go_ret
  exact ⟨rfl, HBZ.out⟩
set_option maxRecDepth 100000 in
set_option maxHeartbeats 8000000 in
theorem lw_gt (k1 k2 : Int) (s1 s2 : Bool) (a1 a2 : Option Addr) (n1 n2 c1 c2 : Nat) (t1 t2 : ByteArray) (b1 b2 : Bool) (w : World)
    (hi1 : ∀ W, Calls Tryd.prog 7 #[cnV k1 s1 a1 n1 c1 t1 b1] W fun e w' => e = .returned (.bool true) ∧ Below W.heap.size W w')
    (hi2 : ∀ W, Calls Tryd.prog 7 #[cnV k2 s2 a2 n2 c2 t2 b2] W fun e w' => e = .returned (.bool true) ∧ Below W.heap.size W w')
    (hk1 : ∀ W, Below w.heap.size w W → Calls Tryd.prog 9 #[.string ⟨#[61, 61]⟩, cnV k1 s1 a1 n1 c1 t1 b1, cnV k2 s2 a2 n2 c2 t2 b2] W (AnsQ W ⟨3, false, 0, ⟨#[]⟩, false, 0⟩))
    (hk2 : ∀ W, Below w.heap.size w W → Calls Tryd.prog 9 #[.string ⟨#[33, 61]⟩, cnV k1 s1 a1 n1 c1 t1 b1, cnV k2 s2 a2 n2 c2 t2 b2] W (AnsQ W ⟨3, false, 0, ⟨#[]⟩, true, 0⟩))
    (hk3 : ∀ W, Below w.heap.size w W → Calls Tryd.prog 9 #[.string ⟨#[60]⟩, cnV k1 s1 a1 n1 c1 t1 b1, cnV k2 s2 a2 n2 c2 t2 b2] W (AnsQ W ⟨3, false, 0, ⟨#[]⟩, false, 0⟩))
    (hk4 : ∀ W, Below w.heap.size w W → Calls Tryd.prog 9 #[.string ⟨#[62]⟩, cnV k1 s1 a1 n1 c1 t1 b1, cnV k2 s2 a2 n2 c2 t2 b2] W (AnsQ W ⟨3, false, 0, ⟨#[]⟩, true, 0⟩))
    (heq : ∀ W, Below w.heap.size w W → Calls Tryd.prog 13 #[cnV k1 s1 a1 n1 c1 t1 b1, cnV k2 s2 a2 n2 c2 t2 b2] W fun e w' => e = .returned (.bool false) ∧ Below W.heap.size W w') :
    Calls Tryd.prog 5 #[cnV k1 s1 a1 n1 c1 t1 b1, cnV k2 s2 a2 n2 c2 t2 b2] w fun e w' => e = .returned (.bool true) ∧ Below w.heap.size w w' := by
  have HI1 : Hid (∀ W, Calls Tryd.prog 7 #[cnV k1 s1 a1 n1 c1 t1 b1] W fun e w' => e = .returned (.bool true) ∧ Below W.heap.size W w') := hi1
  have HI2 : Hid (∀ W, Calls Tryd.prog 7 #[cnV k2 s2 a2 n2 c2 t2 b2] W fun e w' => e = .returned (.bool true) ∧ Below W.heap.size W w') := hi2
  have HK1 : Hid (∀ W, Below w.heap.size w W → Calls Tryd.prog 9 #[.string ⟨#[61, 61]⟩, cnV k1 s1 a1 n1 c1 t1 b1, cnV k2 s2 a2 n2 c2 t2 b2] W (AnsQ W ⟨3, false, 0, ⟨#[]⟩, false, 0⟩)) := hk1
  have HK2 : Hid (∀ W, Below w.heap.size w W → Calls Tryd.prog 9 #[.string ⟨#[33, 61]⟩, cnV k1 s1 a1 n1 c1 t1 b1, cnV k2 s2 a2 n2 c2 t2 b2] W (AnsQ W ⟨3, false, 0, ⟨#[]⟩, true, 0⟩)) := hk2
  have HK3 : Hid (∀ W, Below w.heap.size w W → Calls Tryd.prog 9 #[.string ⟨#[60]⟩, cnV k1 s1 a1 n1 c1 t1 b1, cnV k2 s2 a2 n2 c2 t2 b2] W (AnsQ W ⟨3, false, 0, ⟨#[]⟩, false, 0⟩)) := hk3
  have HK4 : Hid (∀ W, Below w.heap.size w W → Calls Tryd.prog 9 #[.string ⟨#[62]⟩, cnV k1 s1 a1 n1 c1 t1 b1, cnV k2 s2 a2 n2 c2 t2 b2] W (AnsQ W ⟨3, false, 0, ⟨#[]⟩, true, 0⟩)) := hk4
  have HEQ : Hid (∀ W, Below w.heap.size w W → Calls Tryd.prog 13 #[cnV k1 s1 a1 n1 c1 t1 b1, cnV k2 s2 a2 n2 c2 t2 b2] W fun e w' => e = .returned (.bool false) ∧ Below W.heap.size W w') := heq
  have HB2 : Hid (Below w.heap.size w ((w.alloc (.cells #[.int .i64 k1, .bool s1, .slice a1 n1 c1, .string t1, .bool b1] 26)).alloc (.cells #[.int .i64 k2, .bool s2, .slice a2 n2 c2, .string t2, .bool b2] 26))) := two_below w _ _
  have HA2 : Hid (((w.alloc (.cells #[.int .i64 k1, .bool s1, .slice a1 n1 c1, .string t1, .bool b1] 26)).alloc (.cells #[.int .i64 k2, .bool s2, .slice a2 n2 c2, .string t2, .bool b2] 26)).heap[w.heap.size]? = some (.cells #[.int .i64 k1, .bool s1, .slice a1 n1 c1, .string t1, .bool b1] 26 (0, 0)) ∧ ((w.alloc (.cells #[.int .i64 k1, .bool s1, .slice a1 n1 c1, .string t1, .bool b1] 26)).alloc (.cells #[.int .i64 k2, .bool s2, .slice a2 n2 c2, .string t2, .bool b2] 26)).heap[w.heap.size + 1]? = some (.cells #[.int .i64 k2, .bool s2, .slice a2 n2 c2, .string t2, .bool b2] 26 (0, 0))) := ⟨kept5 ((Below.refl _ _).alloc (Nat.le_refl _) _) (new_blk w _), two_new _ _⟩
  clear hi1 hi2 hk1 hk2 hk3 hk4 heq
  go_enter Tryd.func5, Tryd.ntmps5
  go_wp2_with fail
  refine (HI1.out _).mono ?_
  rintro e x1 ⟨rfl, hb⟩
  have HBA : Hid (Below w.heap.size w x1) := HB2.out.trans (hb.mono HB2.out.size)
  have H0A : Hid (x1.heap[w.heap.size]? = some (.cells #[.int .i64 k1, .bool s1, .slice a1 n1 c1, .string t1, .bool b1] 26 (0, 0))) := kept5 hb HA2.out.1
  have H1A : Hid (x1.heap[w.heap.size + 1]? = some (.cells #[.int .i64 k2, .bool s2, .slice a2 n2 c2, .string t2, .bool b2] 26 (0, 0))) := kept5 hb HA2.out.2
  clear hb
  have c5 := bx5 H1A.out
  go_wp2_with fail
  refine (HI2.out _).mono ?_
  rintro e x2 ⟨rfl, hb⟩
  have HBB : Hid (Below w.heap.size w x2) := HBA.out.trans (hb.mono HBA.out.size)
  have H0B : Hid (x2.heap[w.heap.size]? = some (.cells #[.int .i64 k1, .bool s1, .slice a1 n1 c1, .string t1, .bool b1] 26 (0, 0))) := kept5 hb H0A.out
  have H1B : Hid (x2.heap[w.heap.size + 1]? = some (.cells #[.int .i64 k2, .bool s2, .slice a2 n2 c2, .string t2, .bool b2] 26 (0, 0))) := kept5 hb H1A.out
  clear hb c5 H0A H1A HBA HI1 HI2 HA2 HB2
  have a5 := bx5 H0B.out
  have c5 := bx5 H1B.out
  go_wp2_with fail
  refine (HK1.out _ HBB.out).mono ?_
  rintro e yp ⟨⟨v, rfl, aqp, nqp, cqp, rfl, hi⟩, hb⟩
  dsimp only
  clear hi
  have hq := hb.trans (((Below.refl yp.heap.size yp).alloc (Nat.le_refl _) (.cells #[.int .i64 3, .bool false, .slice aqp nqp cqp, .string ⟨#[]⟩, .bool false] 26)).mono hb.size)
  have H0Bp : Hid ((yp.alloc (.cells #[.int .i64 3, .bool false, .slice aqp nqp cqp, .string ⟨#[]⟩, .bool false] 26)).heap[w.heap.size]? = some (.cells #[.int .i64 k1, .bool s1, .slice a1 n1 c1, .string t1, .bool b1] 26 (0, 0))) := kept5 hq H0B.out
  have H1Bp : Hid ((yp.alloc (.cells #[.int .i64 3, .bool false, .slice aqp nqp cqp, .string ⟨#[]⟩, .bool false] 26)).heap[w.heap.size + 1]? = some (.cells #[.int .i64 k2, .bool s2, .slice a2 n2 c2, .string t2, .bool b2] 26 (0, 0))) := kept5 hq H1B.out
  have HNp : Hid ((yp.alloc (.cells #[.int .i64 3, .bool false, .slice aqp nqp cqp, .string ⟨#[]⟩, .bool false] 26)).heap[yp.heap.size]? = some (.cells #[.int .i64 3, .bool false, .slice aqp nqp cqp, .string ⟨#[]⟩, .bool false] 26 (0, 0))) := new_blk yp _
  have HBp : Hid (Below w.heap.size w (yp.alloc (.cells #[.int .i64 3, .bool false, .slice aqp nqp cqp, .string ⟨#[]⟩, .bool false] 26))) := HBB.out.trans (hq.mono HBB.out.size)
  clear hb hq HK1 HBB H0B H1B a5 c5
  have a5 := bx5 H0Bp.out
  have c5 := bx5 H1Bp.out
  have r05 := bx5 HNp.out
  go_wp2_with fail
  refine (HK2.out _ HBp.out).mono ?_
  rintro e yq ⟨⟨v, rfl, aqq, nqq, cqq, rfl, hi⟩, hb⟩
  dsimp only
  clear hi
  have hq := hb.trans (((Below.refl yq.heap.size yq).alloc (Nat.le_refl _) (.cells #[.int .i64 3, .bool false, .slice aqq nqq cqq, .string ⟨#[]⟩, .bool true] 26)).mono hb.size)
  have H0Bpq : Hid ((yq.alloc (.cells #[.int .i64 3, .bool false, .slice aqq nqq cqq, .string ⟨#[]⟩, .bool true] 26)).heap[w.heap.size]? = some (.cells #[.int .i64 k1, .bool s1, .slice a1 n1 c1, .string t1, .bool b1] 26 (0, 0))) := kept5 hq H0Bp.out
  have H1Bpq : Hid ((yq.alloc (.cells #[.int .i64 3, .bool false, .slice aqq nqq cqq, .string ⟨#[]⟩, .bool true] 26)).heap[w.heap.size + 1]? = some (.cells #[.int .i64 k2, .bool s2, .slice a2 n2 c2, .string t2, .bool b2] 26 (0, 0))) := kept5 hq H1Bp.out
  have HNpq : Hid ((yq.alloc (.cells #[.int .i64 3, .bool false, .slice aqq nqq cqq, .string ⟨#[]⟩, .bool true] 26)).heap[yp.heap.size]? = some (.cells #[.int .i64 3, .bool false, .slice aqp nqp cqp, .string ⟨#[]⟩, .bool false] 26 (0, 0))) := kept5 hq HNp.out
  have HNq : Hid ((yq.alloc (.cells #[.int .i64 3, .bool false, .slice aqq nqq cqq, .string ⟨#[]⟩, .bool true] 26)).heap[yq.heap.size]? = some (.cells #[.int .i64 3, .bool false, .slice aqq nqq cqq, .string ⟨#[]⟩, .bool true] 26 (0, 0))) := new_blk yq _
  have HBq : Hid (Below w.heap.size w (yq.alloc (.cells #[.int .i64 3, .bool false, .slice aqq nqq cqq, .string ⟨#[]⟩, .bool true] 26))) := HBp.out.trans (hq.mono HBp.out.size)
  clear hb hq HK2 HBp H0Bp H1Bp HNp a5 c5 r05
  have a5 := bx5 H0Bpq.out
  have c5 := bx5 H1Bpq.out
  have r05 := bx5 HNpq.out
  have r15 := bx5 HNq.out
  go_wp2_with fail
  obtain ⟨wr, hwr⟩ : ∃ wr, (yq.alloc (.cells #[.int .i64 3, .bool false, .slice aqq nqq cqq, .string ⟨#[]⟩, .bool true] 26)) = wr := ⟨_, rfl⟩
  rw [hwr] at H0Bpq H1Bpq HNpq HNq HBq ⊢
  clear a5 c5 r05 r15 hwr
  have HKP : Hid (∀ W', Below wr.heap.size wr W' → W'.cell? ⟨w.heap.size, 0, none⟩ = some (.int .i64 k1) ∧ W'.cell? ⟨w.heap.size, 1, none⟩ = some (.bool s1) ∧ W'.cell? ⟨w.heap.size, 2, none⟩ = some (.slice a1 n1 c1) ∧ W'.cell? ⟨w.heap.size, 3, none⟩ = some (.string t1) ∧ W'.cell? ⟨w.heap.size, 4, none⟩ = some (.bool b1) ∧ W'.cell? ⟨w.heap.size + 1, 0, none⟩ = some (.int .i64 k2) ∧ W'.cell? ⟨w.heap.size + 1, 1, none⟩ = some (.bool s2) ∧ W'.cell? ⟨w.heap.size + 1, 2, none⟩ = some (.slice a2 n2 c2) ∧ W'.cell? ⟨w.heap.size + 1, 3, none⟩ = some (.string t2) ∧ W'.cell? ⟨w.heap.size + 1, 4, none⟩ = some (.bool b2) ∧ W'.cell? ⟨yp.heap.size, 0, none⟩ = some (.int .i64 3) ∧ W'.cell? ⟨yp.heap.size, 1, none⟩ = some (.bool false) ∧ W'.cell? ⟨yp.heap.size, 2, none⟩ = some (.slice aqp nqp cqp) ∧ W'.cell? ⟨yp.heap.size, 3, none⟩ = some (.string ⟨#[]⟩) ∧ W'.cell? ⟨yp.heap.size, 4, none⟩ = some (.bool false) ∧ W'.cell? ⟨yq.heap.size, 0, none⟩ = some (.int .i64 3) ∧ W'.cell? ⟨yq.heap.size, 1, none⟩ = some (.bool false) ∧ W'.cell? ⟨yq.heap.size, 2, none⟩ = some (.slice aqq nqq cqq) ∧ W'.cell? ⟨yq.heap.size, 3, none⟩ = some (.string ⟨#[]⟩) ∧ W'.cell? ⟨yq.heap.size, 4, none⟩ = some (.bool true)) := fun W' hb => by
    obtain ⟨p00, p01, p02, p03, p04⟩ := bx5 (kept5 hb H0Bpq.out)
    obtain ⟨p10, p11, p12, p13, p14⟩ := bx5 (kept5 hb H1Bpq.out)
    obtain ⟨p20, p21, p22, p23, p24⟩ := bx5 (kept5 hb HNpq.out)
    obtain ⟨p30, p31, p32, p33, p34⟩ := bx5 (kept5 hb HNq.out)
    exact ⟨p00, p01, p02, p03, p04, p10, p11, p12, p13, p14, p20, p21, p22, p23, p24, p30, p31, p32, p33, p34⟩
  have kS := HKP.out wr (Below.refl _ _)
  refine wp_region_held_drew (S := fun w' => w'.cell? ⟨w.heap.size, 0, none⟩ = some (.int .i64 k1) ∧ w'.cell? ⟨w.heap.size, 1, none⟩ = some (.bool s1) ∧ w'.cell? ⟨w.heap.size, 2, none⟩ = some (.slice a1 n1 c1) ∧ w'.cell? ⟨w.heap.size, 3, none⟩ = some (.string t1) ∧ w'.cell? ⟨w.heap.size, 4, none⟩ = some (.bool b1) ∧ w'.cell? ⟨w.heap.size + 1, 0, none⟩ = some (.int .i64 k2) ∧ w'.cell? ⟨w.heap.size + 1, 1, none⟩ = some (.bool s2) ∧ w'.cell? ⟨w.heap.size + 1, 2, none⟩ = some (.slice a2 n2 c2) ∧ w'.cell? ⟨w.heap.size + 1, 3, none⟩ = some (.string t2) ∧ w'.cell? ⟨w.heap.size + 1, 4, none⟩ = some (.bool b2) ∧ w'.cell? ⟨yp.heap.size, 0, none⟩ = some (.int .i64 3) ∧ w'.cell? ⟨yp.heap.size, 1, none⟩ = some (.bool false) ∧ w'.cell? ⟨yp.heap.size, 2, none⟩ = some (.slice aqp nqp cqp) ∧ w'.cell? ⟨yp.heap.size, 3, none⟩ = some (.string ⟨#[]⟩) ∧ w'.cell? ⟨yp.heap.size, 4, none⟩ = some (.bool false) ∧ w'.cell? ⟨yq.heap.size, 0, none⟩ = some (.int .i64 3) ∧ w'.cell? ⟨yq.heap.size, 1, none⟩ = some (.bool false) ∧ w'.cell? ⟨yq.heap.size, 2, none⟩ = some (.slice aqq nqq cqq) ∧ w'.cell? ⟨yq.heap.size, 3, none⟩ = some (.string ⟨#[]⟩) ∧ w'.cell? ⟨yq.heap.size, 4, none⟩ = some (.bool true)) (by kernel_rfl) (by exact kS) (fun hHeld => ?_)
  clear hHeld
  refine wpAnyH_take (i := 0) (oi := { dst := some 35, op := Op.move (Operand.tmp 6), type := 29, pos := "law.go:62", after := #[], guard := none }) (v := ?_) rfl (by kernel_rfl) (by kernel_rfl) (by kernel_rfl) (fun _ _ _ h => h) (Or.inl ⟨by rfl, ?_⟩) (by exact kS) ?_
  rotate_left
  · intro w hSw; (try dsimp only at hSw); (go_simp <;> with_reducible rfl)
  try simp only [Act.put, List.setIfInBounds_toArray, List.set_cons_zero, List.set_cons_succ]
  refine wpAnyH_take (i := 1) (oi := { dst := some 36, op := Op.move (Operand.tmp 8), type := 29, pos := "law.go:62", after := #[], guard := none }) (v := ?_) rfl (by kernel_rfl) (by kernel_rfl) (by kernel_rfl) (fun _ _ _ h => h) (Or.inl ⟨by rfl, ?_⟩) (by exact kS) ?_
  rotate_left
  · intro w hSw; (try dsimp only at hSw); (go_simp <;> with_reducible rfl)
  try simp only [Act.put, List.setIfInBounds_toArray, List.set_cons_zero, List.set_cons_succ]
  refine wpAnyH_take (i := 2) (oi := { dst := some 37, op := Op.binOp BinOp.neq 29 (Operand.tmp 35) (Operand.tmp 36) 29, type := 4, pos := "law.go:62", after := #[{ on := 0, ground := Ground.data }, { on := 1, ground := Ground.data }], guard := none }) (v := ?_) rfl (by kernel_rfl) (by kernel_rfl) (by kernel_rfl) (fun _ _ _ h => h) (Or.inl ⟨by rfl, ?_⟩) (by exact kS) ?_
  rotate_left
  · intro w hSw; (try dsimp only at hSw); (go_simp <;> with_reducible rfl)
  try simp only [Act.put, List.setIfInBounds_toArray, List.set_cons_zero, List.set_cons_succ]
  refine wpAnyH_take (i := 3) (oi := { dst := some 38, op := Op.move (Operand.tmp 37), type := 4, pos := "law.go:62", after := #[{ on := 2, ground := Ground.data }], guard := none }) (v := ?_) rfl (by kernel_rfl) (by kernel_rfl) (by kernel_rfl) (fun _ _ _ h => h) (Or.inl ⟨by rfl, ?_⟩) (by exact kS) ?_
  rotate_left
  · intro w hSw; (try dsimp only at hSw); (go_simp <;> with_reducible rfl)
  try simp only [Act.put, List.setIfInBounds_toArray, List.set_cons_zero, List.set_cons_succ]
  refine wpAnyH_take (i := 4) (oi := { dst := some 39, op := Op.move (Operand.tmp 6), type := 29, pos := "law.go:62", after := #[{ on := 3, ground := Ground.guard }], guard := some (3, false) }) (v := ?_) rfl (by kernel_rfl) (by kernel_rfl) (by kernel_rfl) (fun _ _ _ h => h) (Or.inl ⟨by rfl, ?_⟩) (by exact kS) ?_
  rotate_left
  · intro w hSw; (try dsimp only at hSw); (go_simp <;> with_reducible rfl)
  try simp only [Act.put, List.setIfInBounds_toArray, List.set_cons_zero, List.set_cons_succ]
  refine wpAnyH_take (i := 5) (oi := { dst := some 40, op := Op.binOp BinOp.eql 29 (Operand.tmp 39) (Operand.const (Value.int IntKind.i64 0)) 29, type := 4, pos := "law.go:62", after := #[{ on := 4, ground := Ground.data }, { on := 3, ground := Ground.guard }], guard := some (3, false) }) (v := ?_) rfl (by kernel_rfl) (by kernel_rfl) (by kernel_rfl) (fun _ _ _ h => h) (Or.inl ⟨by rfl, ?_⟩) (by exact kS) ?_
  rotate_left
  · intro w hSw; (try dsimp only at hSw); (go_simp <;> with_reducible rfl)
  try simp only [Act.put, List.setIfInBounds_toArray, List.set_cons_zero, List.set_cons_succ]
  refine wpAnyH_take (i := 6) (oi := { dst := some 41, op := Op.move (Operand.tmp 40), type := 4, pos := "law.go:62", after := #[{ on := 5, ground := Ground.data }, { on := 3, ground := Ground.chain }, { on := 3, ground := Ground.guard }], guard := some (3, false) }) (v := ?_) rfl (by kernel_rfl) (by kernel_rfl) (by kernel_rfl) (fun _ _ _ h => h) (Or.inl ⟨by rfl, ?_⟩) (by exact kS) ?_
  rotate_left
  · intro w hSw; (try dsimp only at hSw); (go_simp <;> with_reducible rfl)
  try simp only [Act.put, List.setIfInBounds_toArray, List.set_cons_zero, List.set_cons_succ]
  refine wpAnyH_take (i := 7) (oi := { dst := some 42, op := Op.fieldAddr 26 (Operand.tmp 5) 3, type := 0, pos := "law.go:62", after := #[{ on := 6, ground := Ground.guard }], guard := some (6, true) }) (v := ?_) rfl (by kernel_rfl) (by kernel_rfl) (by kernel_rfl) (fun _ _ _ h => h) (Or.inl ⟨by rfl, ?_⟩) (by exact kS) ?_
  rotate_left
  · intro w hSw; (try dsimp only at hSw); (go_simp <;> with_reducible rfl)
  try simp only [Act.put, List.setIfInBounds_toArray, List.set_cons_zero, List.set_cons_succ]
  refine wpAnyH_take (i := 8) (oi := { dst := some 43, op := Op.load 4 (Operand.tmp 42), type := 4, pos := "law.go:62", after := #[{ on := 7, ground := Ground.data }, { on := 6, ground := Ground.guard }], guard := some (6, true) }) (v := ?_) rfl (by kernel_rfl) (by kernel_rfl) (by kernel_rfl) (fun _ _ _ h => h) (Or.inl ⟨by rfl, ?_⟩) (by exact kS) ?_
  rotate_left
  · intro w hSw; (try dsimp only at hSw); (go_simp <;> with_reducible rfl)
  try simp only [Act.put, List.setIfInBounds_toArray, List.set_cons_zero, List.set_cons_succ]
  refine wpAnyH_take (i := 9) (oi := { dst := some 44, op := Op.fieldAddr 26 (Operand.tmp 7) 3, type := 0, pos := "law.go:62", after := #[{ on := 6, ground := Ground.guard }], guard := some (6, true) }) (v := ?_) rfl (by kernel_rfl) (by kernel_rfl) (by kernel_rfl) (fun _ _ _ h => h) (Or.inl ⟨by rfl, ?_⟩) (by exact kS) ?_
  rotate_left
  · intro w hSw; (try dsimp only at hSw); (go_simp <;> with_reducible rfl)
  try simp only [Act.put, List.setIfInBounds_toArray, List.set_cons_zero, List.set_cons_succ]
  refine wpAnyH_take (i := 10) (oi := { dst := some 45, op := Op.load 4 (Operand.tmp 44), type := 4, pos := "law.go:62", after := #[{ on := 9, ground := Ground.data }, { on := 6, ground := Ground.guard }], guard := some (6, true) }) (v := ?_) rfl (by kernel_rfl) (by kernel_rfl) (by kernel_rfl) (fun _ _ _ h => h) (Or.inl ⟨by rfl, ?_⟩) (by exact kS) ?_
  rotate_left
  · intro w hSw; (try dsimp only at hSw); (go_simp <;> with_reducible rfl)
  try simp only [Act.put, List.setIfInBounds_toArray, List.set_cons_zero, List.set_cons_succ]
  refine wpAnyH_take (i := 11) (oi := { dst := some 46, op := Op.binOp BinOp.eql 4 (Operand.tmp 43) (Operand.tmp 45) 4, type := 4, pos := "law.go:62", after := #[{ on := 8, ground := Ground.data }, { on := 10, ground := Ground.data }, { on := 6, ground := Ground.guard }], guard := some (6, true) }) (v := ?_) rfl (by kernel_rfl) (by kernel_rfl) (by kernel_rfl) (fun _ _ _ h => h) (Or.inl ⟨by rfl, ?_⟩) (by exact kS) ?_
  rotate_left
  · intro w hSw; (try dsimp only at hSw); (go_simp <;> with_reducible rfl)
  try simp only [Act.put, List.setIfInBounds_toArray, List.set_cons_zero, List.set_cons_succ]
  refine wpAnyH_take (i := 12) (oi := { dst := some 47, op := Op.move (Operand.tmp 46), type := 4, pos := "law.go:62", after := #[{ on := 11, ground := Ground.data }, { on := 6, ground := Ground.chain }, { on := 6, ground := Ground.guard }], guard := some (6, true) }) (v := ?_) rfl (by kernel_rfl) (by kernel_rfl) (by kernel_rfl) (fun _ _ _ h => h) (Or.inl ⟨by rfl, ?_⟩) (by exact kS) ?_
  rotate_left
  · intro w hSw; (try dsimp only at hSw); (go_simp <;> with_reducible rfl)
  try simp only [Act.put, List.setIfInBounds_toArray, List.set_cons_zero, List.set_cons_succ]
  refine wpAnyH_take (i := 13) (oi := { dst := some 48, op := Op.fieldAddr 26 (Operand.tmp 5) 3, type := 0, pos := "law.go:62", after := #[{ on := 12, ground := Ground.guard }], guard := some (12, false) }) (v := ?_) rfl (by kernel_rfl) (by kernel_rfl) (by kernel_rfl) (fun _ _ _ h => h) (Or.inl ⟨by rfl, ?_⟩) (by exact kS) ?_
  rotate_left
  · intro w hSw; (try dsimp only at hSw); (go_simp <;> with_reducible rfl)
  try simp only [Act.put, List.setIfInBounds_toArray, List.set_cons_zero, List.set_cons_succ]
  refine wpAnyH_take (i := 14) (oi := { dst := some 49, op := Op.load 4 (Operand.tmp 48), type := 4, pos := "law.go:62", after := #[{ on := 13, ground := Ground.data }, { on := 12, ground := Ground.guard }], guard := some (12, false) }) (v := ?_) rfl (by kernel_rfl) (by kernel_rfl) (by kernel_rfl) (fun _ _ _ h => h) (Or.inl ⟨by rfl, ?_⟩) (by exact kS) ?_
  rotate_left
  · intro w hSw; (try dsimp only at hSw); (go_simp <;> with_reducible rfl)
  try simp only [Act.put, List.setIfInBounds_toArray, List.set_cons_zero, List.set_cons_succ]
  refine wpAnyH_take (i := 15) (oi := { dst := some 50, op := Op.load 26 (Operand.tmp 2), type := 26, pos := "law.go:62", after := #[{ on := 12, ground := Ground.guard }], guard := some (12, false) }) (v := ?_) rfl (by kernel_rfl) (by kernel_rfl) (by kernel_rfl) (fun _ _ _ h => h) (Or.inl ⟨by rfl, ?_⟩) (by exact kS) ?_
  rotate_left
  · intro w hSw; (try dsimp only at hSw); (go_simp <;> with_reducible rfl)
  try simp only [Act.put, List.setIfInBounds_toArray, List.set_cons_zero, List.set_cons_succ]
  refine wpAnyH_take (i := 16) (oi := { dst := some 51, op := Op.load 26 (Operand.tmp 3), type := 26, pos := "law.go:62", after := #[{ on := 12, ground := Ground.guard }], guard := some (12, false) }) (v := ?_) rfl (by kernel_rfl) (by kernel_rfl) (by kernel_rfl) (fun _ _ _ h => h) (Or.inl ⟨by rfl, ?_⟩) (by exact kS) ?_
  rotate_left
  · intro w hSw; (try dsimp only at hSw); (go_simp <;> with_reducible rfl)
  try simp only [Act.put, List.setIfInBounds_toArray, List.set_cons_zero, List.set_cons_succ]
  refine wpAnyH_ready (rs := [17]) (by kernel_rfl) (by simp) ?_
  refine AllReadyH.cons (o := { dst := some 52, op := Op.call { callee := Callee.value (Operand.func 13), args := #[Operand.tmp 50, Operand.tmp 51], argTypes := #[26, 26] }, type := 4, pos := "law.go:62", after := #[{ on := 15, ground := Ground.data }, { on := 16, ground := Ground.data }, { on := 12, ground := Ground.chain }, { on := 12, ground := Ground.guard }], guard := some (12, false) }) rfl (fun K hK => ?_) AllReadyH.nil
  go_simp
  go_at_call 13; refine (HEQ.out _ (HBq.out.trans ((Below.refl _ wr).drew.mono HBq.out.size))).mono ?_; rintro e z1 ⟨rfl, hb⟩; have HBE : Hid (Below wr.heap.size wr z1) := (Below.refl _ wr).drew.trans hb; have kS := HKP.out z1 HBE.out; clear hb
  go_wp2_with fail
  refine hK.out _ _ (by exact kS) (fun hHeld => ?_)
  clear hK K hHeld
  try simp only [Act.put, List.setIfInBounds_toArray, List.set_cons_zero, List.set_cons_succ]
  refine wpAnyH_take (i := 18) (oi := { dst := some 53, op := Op.binOp BinOp.neq 4 (Operand.tmp 49) (Operand.tmp 52) 4, type := 4, pos := "law.go:62", after := #[{ on := 14, ground := Ground.data }, { on := 17, ground := Ground.data }, { on := 12, ground := Ground.guard }], guard := some (12, false) }) (v := ?_) rfl (by kernel_rfl) (by kernel_rfl) (by kernel_rfl) (fun _ _ _ h => h) (Or.inl ⟨by rfl, ?_⟩) (by exact kS) ?_
  rotate_left
  · intro w hSw; (try dsimp only at hSw); (go_simp <;> with_reducible rfl)
  try simp only [Act.put, List.setIfInBounds_toArray, List.set_cons_zero, List.set_cons_succ]
  refine wpAnyH_take (i := 19) (oi := { dst := some 54, op := Op.pick (Operand.tmp 47) (Operand.const (Value.bool true)) (Operand.tmp 53), type := 4, pos := "law.go:62", after := #[{ on := 12, ground := Ground.data }, { on := 18, ground := Ground.data }, { on := 6, ground := Ground.guard }], guard := some (6, true) }) (v := ?_) rfl (by kernel_rfl) (by kernel_rfl) (by kernel_rfl) (fun _ _ _ h => h) (Or.inl ⟨by rfl, ?_⟩) (by exact kS) ?_
  rotate_left
  · intro w hSw; (try dsimp only at hSw); (go_simp <;> with_reducible rfl)
  try simp only [Act.put, List.setIfInBounds_toArray, List.set_cons_zero, List.set_cons_succ]
  refine wpAnyH_take (i := 20) (oi := { dst := some 55, op := Op.pick (Operand.tmp 41) (Operand.tmp 54) (Operand.const (Value.bool false)), type := 4, pos := "law.go:62", after := #[{ on := 6, ground := Ground.data }, { on := 19, ground := Ground.data }, { on := 3, ground := Ground.guard }], guard := some (3, false) }) (v := ?_) rfl (by kernel_rfl) (by kernel_rfl) (by kernel_rfl) (fun _ _ _ h => h) (Or.inl ⟨by rfl, ?_⟩) (by exact kS) ?_
  rotate_left
  · intro w hSw; (try dsimp only at hSw); (go_simp <;> with_reducible rfl)
  try simp only [Act.put, List.setIfInBounds_toArray, List.set_cons_zero, List.set_cons_succ]
  refine wpAnyH_take (i := 21) (oi := { dst := some 56, op := Op.pick (Operand.tmp 38) (Operand.const (Value.bool true)) (Operand.tmp 55), type := 4, pos := "law.go:62", after := #[{ on := 3, ground := Ground.data }, { on := 20, ground := Ground.data }], guard := none }) (v := ?_) rfl (by kernel_rfl) (by kernel_rfl) (by kernel_rfl) (fun _ _ _ h => h) (Or.inl ⟨by rfl, ?_⟩) (by exact kS) ?_
  rotate_left
  · intro w hSw; (try dsimp only at hSw); (go_simp <;> with_reducible rfl)
  try simp only [Act.put, List.setIfInBounds_toArray, List.set_cons_zero, List.set_cons_succ]
  refine wpAnyH_done (by kernel_rfl) ?_ _
  clear kS
  have GH0Bpq : Hid (z1.heap[w.heap.size]? = some (.cells #[.int .i64 k1, .bool s1, .slice a1 n1 c1, .string t1, .bool b1] 26 (0, 0))) := kept5 HBE.out H0Bpq.out
  have GH1Bpq : Hid (z1.heap[w.heap.size + 1]? = some (.cells #[.int .i64 k2, .bool s2, .slice a2 n2 c2, .string t2, .bool b2] 26 (0, 0))) := kept5 HBE.out H1Bpq.out
  have GHNpq : Hid (z1.heap[yp.heap.size]? = some (.cells #[.int .i64 3, .bool false, .slice aqp nqp cqp, .string ⟨#[]⟩, .bool false] 26 (0, 0))) := kept5 HBE.out HNpq.out
  have GHNq : Hid (z1.heap[yq.heap.size]? = some (.cells #[.int .i64 3, .bool false, .slice aqq nqq cqq, .string ⟨#[]⟩, .bool true] 26 (0, 0))) := kept5 HBE.out HNq.out
  have HBG : Hid (Below w.heap.size w z1) := HBq.out.trans (HBE.out.mono HBq.out.size)
  clear HKP H0Bpq H1Bpq HNpq HNq HBq HBE
  have a5 := bx5 GH0Bpq.out
  have c5 := bx5 GH1Bpq.out
  have r05 := bx5 GHNpq.out
  have r15 := bx5 GHNq.out
  go_wp2_with fail
  refine (HK3.out _ HBG.out).mono ?_
  rintro e yr ⟨⟨v, rfl, aqr, nqr, cqr, rfl, hi⟩, hb⟩
  dsimp only
  clear hi
  have hq := hb.trans (((Below.refl yr.heap.size yr).alloc (Nat.le_refl _) (.cells #[.int .i64 3, .bool false, .slice aqr nqr cqr, .string ⟨#[]⟩, .bool false] 26)).mono hb.size)
  have GH0Bpqr : Hid ((yr.alloc (.cells #[.int .i64 3, .bool false, .slice aqr nqr cqr, .string ⟨#[]⟩, .bool false] 26)).heap[w.heap.size]? = some (.cells #[.int .i64 k1, .bool s1, .slice a1 n1 c1, .string t1, .bool b1] 26 (0, 0))) := kept5 hq GH0Bpq.out
  have GH1Bpqr : Hid ((yr.alloc (.cells #[.int .i64 3, .bool false, .slice aqr nqr cqr, .string ⟨#[]⟩, .bool false] 26)).heap[w.heap.size + 1]? = some (.cells #[.int .i64 k2, .bool s2, .slice a2 n2 c2, .string t2, .bool b2] 26 (0, 0))) := kept5 hq GH1Bpq.out
  have GHNpqr : Hid ((yr.alloc (.cells #[.int .i64 3, .bool false, .slice aqr nqr cqr, .string ⟨#[]⟩, .bool false] 26)).heap[yp.heap.size]? = some (.cells #[.int .i64 3, .bool false, .slice aqp nqp cqp, .string ⟨#[]⟩, .bool false] 26 (0, 0))) := kept5 hq GHNpq.out
  have GHNqr : Hid ((yr.alloc (.cells #[.int .i64 3, .bool false, .slice aqr nqr cqr, .string ⟨#[]⟩, .bool false] 26)).heap[yq.heap.size]? = some (.cells #[.int .i64 3, .bool false, .slice aqq nqq cqq, .string ⟨#[]⟩, .bool true] 26 (0, 0))) := kept5 hq GHNq.out
  have HNr : Hid ((yr.alloc (.cells #[.int .i64 3, .bool false, .slice aqr nqr cqr, .string ⟨#[]⟩, .bool false] 26)).heap[yr.heap.size]? = some (.cells #[.int .i64 3, .bool false, .slice aqr nqr cqr, .string ⟨#[]⟩, .bool false] 26 (0, 0))) := new_blk yr _
  have HBr : Hid (Below w.heap.size w (yr.alloc (.cells #[.int .i64 3, .bool false, .slice aqr nqr cqr, .string ⟨#[]⟩, .bool false] 26))) := HBG.out.trans (hq.mono HBG.out.size)
  clear hb hq HK3 HBG GH0Bpq GH1Bpq GHNpq GHNq a5 c5 r05 r15
  have a5 := bx5 GH0Bpqr.out
  have c5 := bx5 GH1Bpqr.out
  have r05 := bx5 GHNpqr.out
  have r15 := bx5 GHNqr.out
  have r25 := bx5 HNr.out
  go_wp2_with fail
  refine (HK4.out _ HBr.out).mono ?_
  rintro e ys ⟨⟨v, rfl, aqs, nqs, cqs, rfl, hi⟩, hb⟩
  dsimp only
  clear hi
  have hq := hb.trans (((Below.refl ys.heap.size ys).alloc (Nat.le_refl _) (.cells #[.int .i64 3, .bool false, .slice aqs nqs cqs, .string ⟨#[]⟩, .bool true] 26)).mono hb.size)
  have GH0Bpqrs : Hid ((ys.alloc (.cells #[.int .i64 3, .bool false, .slice aqs nqs cqs, .string ⟨#[]⟩, .bool true] 26)).heap[w.heap.size]? = some (.cells #[.int .i64 k1, .bool s1, .slice a1 n1 c1, .string t1, .bool b1] 26 (0, 0))) := kept5 hq GH0Bpqr.out
  have GH1Bpqrs : Hid ((ys.alloc (.cells #[.int .i64 3, .bool false, .slice aqs nqs cqs, .string ⟨#[]⟩, .bool true] 26)).heap[w.heap.size + 1]? = some (.cells #[.int .i64 k2, .bool s2, .slice a2 n2 c2, .string t2, .bool b2] 26 (0, 0))) := kept5 hq GH1Bpqr.out
  have GHNpqrs : Hid ((ys.alloc (.cells #[.int .i64 3, .bool false, .slice aqs nqs cqs, .string ⟨#[]⟩, .bool true] 26)).heap[yp.heap.size]? = some (.cells #[.int .i64 3, .bool false, .slice aqp nqp cqp, .string ⟨#[]⟩, .bool false] 26 (0, 0))) := kept5 hq GHNpqr.out
  have GHNqrs : Hid ((ys.alloc (.cells #[.int .i64 3, .bool false, .slice aqs nqs cqs, .string ⟨#[]⟩, .bool true] 26)).heap[yq.heap.size]? = some (.cells #[.int .i64 3, .bool false, .slice aqq nqq cqq, .string ⟨#[]⟩, .bool true] 26 (0, 0))) := kept5 hq GHNqr.out
  have HNrs : Hid ((ys.alloc (.cells #[.int .i64 3, .bool false, .slice aqs nqs cqs, .string ⟨#[]⟩, .bool true] 26)).heap[yr.heap.size]? = some (.cells #[.int .i64 3, .bool false, .slice aqr nqr cqr, .string ⟨#[]⟩, .bool false] 26 (0, 0))) := kept5 hq HNr.out
  have HNs : Hid ((ys.alloc (.cells #[.int .i64 3, .bool false, .slice aqs nqs cqs, .string ⟨#[]⟩, .bool true] 26)).heap[ys.heap.size]? = some (.cells #[.int .i64 3, .bool false, .slice aqs nqs cqs, .string ⟨#[]⟩, .bool true] 26 (0, 0))) := new_blk ys _
  have HBs : Hid (Below w.heap.size w (ys.alloc (.cells #[.int .i64 3, .bool false, .slice aqs nqs cqs, .string ⟨#[]⟩, .bool true] 26))) := HBr.out.trans (hq.mono HBr.out.size)
  clear hb hq HK4 HBr GH0Bpqr GH1Bpqr GHNpqr GHNqr HNr a5 c5 r05 r15 r25
  have a5 := bx5 GH0Bpqrs.out
  have c5 := bx5 GH1Bpqrs.out
  have r05 := bx5 GHNpqrs.out
  have r15 := bx5 GHNqrs.out
  have r25 := bx5 HNrs.out
  have r35 := bx5 HNs.out
  go_wp2_with (go_at_call 8; refine (awake_any _).mono ?_; rintro e z9 ⟨rfl, hb⟩; have HBZ : Hid (Below w.heap.size w z9) := HBs.out.trans (hb.mono HBs.out.size); clear hb)
  go_ret
  exact ⟨rfl, HBZ.out⟩
end Go.Proofs.YtfkkhabpnnealaaDoor

