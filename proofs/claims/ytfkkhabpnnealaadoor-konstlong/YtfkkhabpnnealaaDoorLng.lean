/-
  KonstLong: a region whose operations may come in any order.
-/
import Derived.Test.YtfkkhabpnnealaaDoorKpG
import Derived.Deep.RegionHeld3
import Derived.Laws.MakeOwn
import Derived.Laws.IdiomStrings
namespace Go.Proofs.YtfkkhabpnnealaaDoor
open Go.RowKit
attribute [local go_sem ↓] Go.wp_at_zero Go.wp_at_succ
def opsL : Array Oper := #[
  { dst := some 23, op := Op.move (Operand.tmp 0), type := 3, pos := "law.go:48", after := #[], guard := none },
  { dst := some 24, op := Op.makeSlice 37 (Operand.tmp 23) (Operand.tmp 23), type := 37, pos := "law.go:48", after := #[{ on := 0, ground := Ground.data }, { on := 0, ground := Ground.data }], guard := none },
  { dst := some 25, op := Op.convert 37 9 (Operand.tmp 24), type := 9, pos := "law.go:48", after := #[{ on := 1, ground := Ground.data }], guard := none },
  { dst := some 26, op := Op.call { callee := Callee.value (Operand.func 12), args := #[Operand.tmp 25], argTypes := #[9] }, type := 26, pos := "law.go:48", after := #[{ on := 2, ground := Ground.data }], guard := none },
  { dst := some 27, op := Op.move (Operand.tmp 1), type := 3, pos := "law.go:48", after := #[], guard := none },
  { dst := some 28, op := Op.makeSlice 37 (Operand.tmp 27) (Operand.tmp 27), type := 37, pos := "law.go:48", after := #[{ on := 4, ground := Ground.data }, { on := 4, ground := Ground.data }], guard := none },
  { dst := some 29, op := Op.convert 37 9 (Operand.tmp 28), type := 9, pos := "law.go:48", after := #[{ on := 5, ground := Ground.data }], guard := none },
  { dst := some 30, op := Op.call { callee := Callee.value (Operand.func 12), args := #[Operand.tmp 29], argTypes := #[9] }, type := 26, pos := "law.go:48", after := #[{ on := 6, ground := Ground.data }, { on := 3, ground := Ground.chain }], guard := none },
  { dst := some 31, op := Op.call { callee := Callee.value (Operand.func 9), args := #[Operand.const (Value.string { data := #[43] }), Operand.tmp 26, Operand.tmp 30], argTypes := #[9, 26, 26] }, type := 30, pos := "law.go:48", after := #[{ on := 3, ground := Ground.data }, { on := 7, ground := Ground.data }, { on := 7, ground := Ground.chain }], guard := none },
  { dst := some 22, op := Op.move (Operand.tmp 31), type := 30, pos := "law.go:48", after := #[{ on := 8, ground := Ground.data }], guard := none },
  { dst := some 32, op := Op.extract (Operand.tmp 22) 0, type := 26, pos := "law.go:48", after := #[{ on := 9, ground := Ground.data }], guard := none },
  { dst := some 33, op := Op.extract (Operand.tmp 22) 1, type := 29, pos := "law.go:48", after := #[{ on := 9, ground := Ground.data }, { on := 13, ground := Ground.gcOnly Departure.lateStores }], guard := none },
  { dst := some 5, op := Op.alloc 26, type := 0, pos := "law.go:48", after := #[], guard := none },
  { dst := none, op := Op.store 26 (Operand.tmp 5) (Operand.tmp 32), type := 0, pos := "law.go:48", after := #[{ on := 12, ground := Ground.data }, { on := 10, ground := Ground.data }, { on := 8, ground := Ground.chain }, { on := 0, ground := Ground.phase }, { on := 1, ground := Ground.phase }, { on := 2, ground := Ground.phase }, { on := 3, ground := Ground.phase }, { on := 4, ground := Ground.phase }, { on := 5, ground := Ground.phase }, { on := 6, ground := Ground.phase }, { on := 7, ground := Ground.phase }, { on := 8, ground := Ground.phase }, { on := 9, ground := Ground.phase }, { on := 10, ground := Ground.phase }, { on := 11, ground := Ground.textOnly Departure.lateStores }, { on := 12, ground := Ground.phase }], guard := none },
  { dst := some 6, op := Op.assign (Operand.tmp 33), type := 29, pos := "law.go:48", after := #[{ on := 11, ground := Ground.data }, { on := 13, ground := Ground.chain }, { on := 0, ground := Ground.phase }, { on := 1, ground := Ground.phase }, { on := 2, ground := Ground.phase }, { on := 3, ground := Ground.phase }, { on := 4, ground := Ground.phase }, { on := 5, ground := Ground.phase }, { on := 6, ground := Ground.phase }, { on := 7, ground := Ground.phase }, { on := 8, ground := Ground.phase }, { on := 9, ground := Ground.phase }, { on := 10, ground := Ground.phase }, { on := 11, ground := Ground.phase }, { on := 12, ground := Ground.phase }, { on := 13, ground := Ground.phase }], guard := none }]
def zs (a : Nat) : ByteArray := ⟨(List.replicate a (0 : UInt8)).toArray⟩
theorem zs_size (a : Nat) : (zs a).size = a := by simp [zs, ByteArray.size]
def zc (a : Nat) : Array Value := madeCells (Value.int .u8 0).cells (a * 1)
set_option maxRecDepth 100000 in
theorem info5 : ∃ i0, Tryd.prog.info? 5 = some i0 ∧ i0.zero = some (.int .u8 0) ∧ i0.size = 1 ∧ i0.bytes = 1 := ⟨_, rfl, rfl, rfl, rfl⟩
theorem run_mk (a : Nat) (h : a ≤ 70000) (W : World) : (Instr.makeSlice 37 (.int .i64 a) (.int .i64 a)).run Tryd.prog W = .ok (.slice (some ⟨W.heap.size, 0, none⟩) a a) (W.alloc (.cells (zc a) 5)) := by
  obtain ⟨i, h1, h2, h3, h4⟩ := info5
  have := run_make (P := Tryd.prog) W 37 5 i (.int .u8 0) Tryd.underlying37 h1 h2 .i64 .i64 a a (by omega) (Int.le_refl _) (by rw [h4]; omega) (by omega)
  rw [this, h3]
  simp [zc]
theorem run_cv (a : Nat) (W : World) (g : Nat) (hg : W.heap[g]? = some (.cells (zc a) 5 (0, 0))) : (convert 37 9 (.slice (some ⟨g, 0, none⟩) a a)).run Tryd.prog W = .ok (.string (zs a)) W := by
  have h := run_convert_bytes_back (P := Tryd.prog) W 37 9 5 ⟨g, 0, none⟩ a (List.replicate a 0) Tryd.underlying37 Tryd.underlying5 Tryd.underlying9 (fun j hj => by
    have hj' : j < a := by simpa using hj
    rw [Addr.add_lit, Nat.zero_add]
    unfold World.cell?
    rw [hg]
    simp [zc, madeCells, Value.cells, hj', Nat.mod_one])
  rw [List.length_replicate] at h
  exact h
set_option maxRecDepth 100000 in
set_option maxHeartbeats 8000000 in
theorem reg_long (Q : Exit → Act → World → Prop) (a b : Nat) (h1 : a ≤ 70000) (h2 : b ≤ 70000) (U : Ans) (w : World) (v2 v3 v4 v5 v6 v7 v8 v9 v10 v11 v12 v13 v14 v15 v16 v17 v18 v19 v20 v21 v22 v24 v25 v26 v28 v29 v30 v31 v32 v33 v34 v35 v36 v37 v38 v39 v40 v41 v42 v43 v44 v45 v46 v47 v48 v49 v50 v51 v52 v53 v54 v55 v56 v57 v58 v59 v60 v61 : Value)
    (hbin : ∀ W, Below w.heap.size w W → Calls Tryd.prog 9 #[.string ⟨#[43]⟩, cnV 2 false none 0 0 (zs a) false, cnV 2 false none 0 0 (zs b) false] W (AnsQ W U))
    (hP : ∀ c (a : Act) (i : Nat) v w, Q (.panic c) (a.put (some i) v) w → Q (.panic c) a w)
    (hQ : ∀ (W : World) (gA gB gC : Nat) (aq : Option Addr) (nq cq : Nat), Below w.heap.size w W → W.heap[gC]? = some (.cells #[.int .i64 U.k, .bool U.s, .slice aq nq cq, .string U.t, .bool U.b] 26 (0, 0)) → Q .normal ⟨#[.int .i64 (a : Int), .int .i64 (b : Int), v2, v3, v4, .pointer (some ⟨gC, 0, none⟩), .int .i64 U.e, v7, v8, v9, v10, v11, v12, v13, v14, v15, v16, v17, v18, v19, v20, v21, .tuple #[.agg #[.int .i64 U.k, .bool U.s, .slice aq nq cq, .string U.t, .bool U.b], .int .i64 U.e], .int .i64 (a : Int), .slice (some ⟨gA, 0, none⟩) a a, .string (zs a), cnV 2 false none 0 0 (zs a) false, .int .i64 (b : Int), .slice (some ⟨gB, 0, none⟩) b b, .string (zs b), cnV 2 false none 0 0 (zs b) false, .tuple #[.agg #[.int .i64 U.k, .bool U.s, .slice aq nq cq, .string U.t, .bool U.b], .int .i64 U.e], .agg #[.int .i64 U.k, .bool U.s, .slice aq nq cq, .string U.t, .bool U.b], .int .i64 U.e, v34, v35, v36, v37, v38, v39, v40, v41, v42, v43, v44, v45, v46, v47, v48, v49, v50, v51, v52, v53, v54, v55, v56, v57, v58, v59, v60, v61], []⟩ W) :
    ∀ W, Below w.heap.size w W → wpAnyH Tryd.prog .any opsL Q (fun _ => True) 13 #[true, false, false, false, true, false, false, false, false, false, false, false, false, false, false] ⟨#[.int .i64 (a : Int), .int .i64 (b : Int), v2, v3, v4, v5, v6, v7, v8, v9, v10, v11, v12, v13, v14, v15, v16, v17, v18, v19, v20, v21, v22, .int .i64 (a : Int), v24, v25, v26, .int .i64 (b : Int), v28, v29, v30, v31, v32, v33, v34, v35, v36, v37, v38, v39, v40, v41, v42, v43, v44, v45, v46, v47, v48, v49, v50, v51, v52, v53, v54, v55, v56, v57, v58, v59, v60, v61], []⟩ W := by
  have hmA := run_mk a h1
  have hmB := run_mk b h2
  clear h1 h2
  have tl_1 : ∀ (W : World) (gA gB gC : Nat) (aq : Option Addr) (nq cq : Nat), Below w.heap.size w W → W.heap[gC]? = some (.cells (#[.int .i64 0, .bool false, .slice none 0 0, .string ⟨#[]⟩, .bool false]) 26 (0, 0)) → w.heap.size ≤ gC → wpAnyH Tryd.prog .any opsL Q (fun _ => True) 2 #[true, true, true, true, true, true, true, true, true, true, true, true, true, false, false] ⟨#[.int .i64 (a : Int), .int .i64 (b : Int), v2, v3, v4, .pointer (some ⟨gC, 0, none⟩), v6, v7, v8, v9, v10, v11, v12, v13, v14, v15, v16, v17, v18, v19, v20, v21, .tuple #[.agg #[.int .i64 U.k, .bool U.s, .slice aq nq cq, .string U.t, .bool U.b], .int .i64 U.e], .int .i64 (a : Int), .slice (some ⟨gA, 0, none⟩) a a, .string (zs a), cnV 2 false none 0 0 (zs a) false, .int .i64 (b : Int), .slice (some ⟨gB, 0, none⟩) b b, .string (zs b), cnV 2 false none 0 0 (zs b) false, .tuple #[.agg #[.int .i64 U.k, .bool U.s, .slice aq nq cq, .string U.t, .bool U.b], .int .i64 U.e], .agg #[.int .i64 U.k, .bool U.s, .slice aq nq cq, .string U.t, .bool U.b], .int .i64 U.e, v34, v35, v36, v37, v38, v39, v40, v41, v42, v43, v44, v45, v46, v47, v48, v49, v50, v51, v52, v53, v54, v55, v56, v57, v58, v59, v60, v61], []⟩ W := by
    intro W gA gB gC aq nq cq hb hC hCb
    have k5 := bx5 hC
    have k5f := bx5f hC
    refine wpAnyH_ready (rs := [13]) (by kernel_rfl) (by simp) ?_
    refine AllReadyH.cons (o := { dst := none, op := Op.store 26 (Operand.tmp 5) (Operand.tmp 32), type := 0, pos := "law.go:48", after := #[{ on := 12, ground := Ground.data }, { on := 10, ground := Ground.data }, { on := 8, ground := Ground.chain }, { on := 0, ground := Ground.phase }, { on := 1, ground := Ground.phase }, { on := 2, ground := Ground.phase }, { on := 3, ground := Ground.phase }, { on := 4, ground := Ground.phase }, { on := 5, ground := Ground.phase }, { on := 6, ground := Ground.phase }, { on := 7, ground := Ground.phase }, { on := 8, ground := Ground.phase }, { on := 9, ground := Ground.phase }, { on := 10, ground := Ground.phase }, { on := 11, ground := Ground.textOnly Departure.lateStores }, { on := 12, ground := Ground.phase }], guard := none }) rfl (fun K hK => ?_) AllReadyH.nil
    go_simp
    clear k5 k5f
    refine hK.out _ _ trivial (fun hHeld => ?_)
    clear hK K hHeld
    try simp only [List.setIfInBounds_toArray, List.set_cons_zero, List.set_cons_succ]
    refine wpAnyH_take (i := 14) (oi := { dst := some 6, op := Op.assign (Operand.tmp 33), type := 29, pos := "law.go:48", after := #[{ on := 11, ground := Ground.data }, { on := 13, ground := Ground.chain }, { on := 0, ground := Ground.phase }, { on := 1, ground := Ground.phase }, { on := 2, ground := Ground.phase }, { on := 3, ground := Ground.phase }, { on := 4, ground := Ground.phase }, { on := 5, ground := Ground.phase }, { on := 6, ground := Ground.phase }, { on := 7, ground := Ground.phase }, { on := 8, ground := Ground.phase }, { on := 9, ground := Ground.phase }, { on := 10, ground := Ground.phase }, { on := 11, ground := Ground.phase }, { on := 12, ground := Ground.phase }, { on := 13, ground := Ground.phase }], guard := none }) (v := ?_) rfl (by kernel_rfl) (by kernel_rfl) (by kernel_rfl) (fun c _ w h => hP c _ _ _ w h) (Or.inl ⟨by rfl, ?_⟩) trivial ?_
    rotate_left
    · intro w hSw; (try dsimp only at hSw); (go_simp <;> with_reducible rfl)
    try simp only [Act.put, List.setIfInBounds_toArray, List.set_cons_zero, List.set_cons_succ]
    refine wpAnyH_done (by kernel_rfl) ?_ _
    exact hQ _ gA gB gC aq nq cq (below5 hb hCb) (set5 hC)
  have tl_0 : ∀ (W : World) (gA gB gC : Nat) (aq : Option Addr) (nq cq : Nat), Below w.heap.size w W → wpAnyH Tryd.prog .any opsL Q (fun _ => True) 3 #[true, true, true, true, true, true, true, true, true, true, true, true, false, false, false] ⟨#[.int .i64 (a : Int), .int .i64 (b : Int), v2, v3, v4, v5, v6, v7, v8, v9, v10, v11, v12, v13, v14, v15, v16, v17, v18, v19, v20, v21, .tuple #[.agg #[.int .i64 U.k, .bool U.s, .slice aq nq cq, .string U.t, .bool U.b], .int .i64 U.e], .int .i64 (a : Int), .slice (some ⟨gA, 0, none⟩) a a, .string (zs a), cnV 2 false none 0 0 (zs a) false, .int .i64 (b : Int), .slice (some ⟨gB, 0, none⟩) b b, .string (zs b), cnV 2 false none 0 0 (zs b) false, .tuple #[.agg #[.int .i64 U.k, .bool U.s, .slice aq nq cq, .string U.t, .bool U.b], .int .i64 U.e], .agg #[.int .i64 U.k, .bool U.s, .slice aq nq cq, .string U.t, .bool U.b], .int .i64 U.e, v34, v35, v36, v37, v38, v39, v40, v41, v42, v43, v44, v45, v46, v47, v48, v49, v50, v51, v52, v53, v54, v55, v56, v57, v58, v59, v60, v61], []⟩ W := by
    intro W gA gB gC aq nq cq hb
    refine wpAnyH_ready (rs := [12]) (by kernel_rfl) (by simp) ?_
    refine AllReadyH.cons (o := { dst := some 5, op := Op.alloc 26, type := 0, pos := "law.go:48", after := #[], guard := none }) rfl (fun K hK => ?_) AllReadyH.nil
    go_simp
    refine hK.out _ _ trivial (fun hHeld => ?_)
    clear hK K hHeld
    try simp only [List.setIfInBounds_toArray, List.set_cons_zero, List.set_cons_succ]
    have hq := (Below.refl W.heap.size W).alloc (Nat.le_refl _) (.cells #[.int .i64 0, .bool false, .slice none 0 0, .string ⟨#[]⟩, .bool false] 26)
    exact tl_1 _ gA gB W.heap.size aq nq cq (hb.trans (hq.mono hb.size)) (new_blk W _) hb.size
  have st_331 : ∀ (W : World) (gA gB gC : Nat), Below w.heap.size w W → W.heap[gC]? = some (.cells (#[.int .i64 0, .bool false, .slice none 0 0, .string ⟨#[]⟩, .bool false]) 26 (0, 0)) → w.heap.size ≤ gC → wpAnyH Tryd.prog .any opsL Q (fun _ => True) 6 #[true, true, true, true, true, true, true, true, false, false, false, false, true, false, false] ⟨#[.int .i64 (a : Int), .int .i64 (b : Int), v2, v3, v4, .pointer (some ⟨gC, 0, none⟩), v6, v7, v8, v9, v10, v11, v12, v13, v14, v15, v16, v17, v18, v19, v20, v21, v22, .int .i64 (a : Int), .slice (some ⟨gA, 0, none⟩) a a, .string (zs a), cnV 2 false none 0 0 (zs a) false, .int .i64 (b : Int), .slice (some ⟨gB, 0, none⟩) b b, .string (zs b), cnV 2 false none 0 0 (zs b) false, v31, v32, v33, v34, v35, v36, v37, v38, v39, v40, v41, v42, v43, v44, v45, v46, v47, v48, v49, v50, v51, v52, v53, v54, v55, v56, v57, v58, v59, v60, v61], []⟩ W := by
    intro W gA gB gC hb hC hCb
    refine wpAnyH_ready (rs := [8]) (by kernel_rfl) (by simp) ?_
    refine AllReadyH.cons (o := { dst := some 31, op := Op.call { callee := Callee.value (Operand.func 9), args := #[Operand.const (Value.string { data := #[43] }), Operand.tmp 26, Operand.tmp 30], argTypes := #[9, 26, 26] }, type := 30, pos := "law.go:48", after := #[{ on := 3, ground := Ground.data }, { on := 7, ground := Ground.data }, { on := 7, ground := Ground.chain }], guard := none }) rfl (fun K hK => ?_) AllReadyH.nil
    go_simp
    go_at_call 9; refine (hbin _ hb).mono ?_; rintro e x ⟨⟨v, rfl, aq, nq, cq, rfl, hi⟩, hx⟩
    go_wp2_with fail
    refine hK.out _ _ trivial (fun hHeld => ?_)
    clear hK K hHeld
    try simp only [List.setIfInBounds_toArray, List.set_cons_zero, List.set_cons_succ]
    refine wpAnyH_take (i := 9) (oi := { dst := some 22, op := Op.move (Operand.tmp 31), type := 30, pos := "law.go:48", after := #[{ on := 8, ground := Ground.data }], guard := none }) (v := ?_) rfl (by kernel_rfl) (by kernel_rfl) (by kernel_rfl) (fun c _ w h => hP c _ _ _ w h) (Or.inl ⟨by rfl, ?_⟩) trivial ?_
    rotate_left
    · intro w hSw; (try dsimp only at hSw); (go_simp <;> with_reducible rfl)
    try simp only [Act.put, List.setIfInBounds_toArray, List.set_cons_zero, List.set_cons_succ]
    refine wpAnyH_take (i := 10) (oi := { dst := some 32, op := Op.extract (Operand.tmp 22) 0, type := 26, pos := "law.go:48", after := #[{ on := 9, ground := Ground.data }], guard := none }) (v := ?_) rfl (by kernel_rfl) (by kernel_rfl) (by kernel_rfl) (fun c _ w h => hP c _ _ _ w h) (Or.inl ⟨by rfl, ?_⟩) trivial ?_
    rotate_left
    · intro w hSw; (try dsimp only at hSw); (go_simp <;> with_reducible rfl)
    try simp only [Act.put, List.setIfInBounds_toArray, List.set_cons_zero, List.set_cons_succ]
    refine wpAnyH_take (i := 11) (oi := { dst := some 33, op := Op.extract (Operand.tmp 22) 1, type := 29, pos := "law.go:48", after := #[{ on := 9, ground := Ground.data }, { on := 13, ground := Ground.gcOnly Departure.lateStores }], guard := none }) (v := ?_) rfl (by kernel_rfl) (by kernel_rfl) (by kernel_rfl) (fun c _ w h => hP c _ _ _ w h) (Or.inl ⟨by rfl, ?_⟩) trivial ?_
    rotate_left
    · intro w hSw; (try dsimp only at hSw); (go_simp <;> with_reducible rfl)
    try simp only [Act.put, List.setIfInBounds_toArray, List.set_cons_zero, List.set_cons_succ]
    exact tl_1 _ gA gB gC aq nq cq (hb.trans (hx.mono hb.size)) (kept5 hx hC) hCb
  have st_321 : ∀ (W : World) (gA gB gC : Nat), Below w.heap.size w W → W.heap[gC]? = some (.cells (#[.int .i64 0, .bool false, .slice none 0 0, .string ⟨#[]⟩, .bool false]) 26 (0, 0)) → w.heap.size ≤ gC → wpAnyH Tryd.prog .any opsL Q (fun _ => True) 7 #[true, true, true, true, true, true, true, false, false, false, false, false, true, false, false] ⟨#[.int .i64 (a : Int), .int .i64 (b : Int), v2, v3, v4, .pointer (some ⟨gC, 0, none⟩), v6, v7, v8, v9, v10, v11, v12, v13, v14, v15, v16, v17, v18, v19, v20, v21, v22, .int .i64 (a : Int), .slice (some ⟨gA, 0, none⟩) a a, .string (zs a), cnV 2 false none 0 0 (zs a) false, .int .i64 (b : Int), .slice (some ⟨gB, 0, none⟩) b b, .string (zs b), v30, v31, v32, v33, v34, v35, v36, v37, v38, v39, v40, v41, v42, v43, v44, v45, v46, v47, v48, v49, v50, v51, v52, v53, v54, v55, v56, v57, v58, v59, v60, v61], []⟩ W := by
    intro W gA gB gC hb hC hCb
    refine wpAnyH_ready (rs := [7]) (by kernel_rfl) (by simp) ?_
    refine AllReadyH.cons (o := { dst := some 30, op := Op.call { callee := Callee.value (Operand.func 12), args := #[Operand.tmp 29], argTypes := #[9] }, type := 26, pos := "law.go:48", after := #[{ on := 6, ground := Ground.data }, { on := 3, ground := Ground.chain }], guard := none }) rfl (fun K hK => ?_) AllReadyH.nil
    go_simp
    go_at_call 12; refine (kstr_any (zs b) _).mono ?_; rintro e x ⟨rfl, hx⟩
    go_wp2_with fail
    refine hK.out _ _ trivial (fun hHeld => ?_)
    clear hK K hHeld
    try simp only [List.setIfInBounds_toArray, List.set_cons_zero, List.set_cons_succ]
    exact st_331 _ gA gB gC (hb.trans (hx.mono hb.size)) (kept5 hx hC) hCb
  have st_311 : ∀ (W : World) (gA gB gC : Nat), Below w.heap.size w W → W.heap[gB]? = some (.cells (zc b) 5 (0, 0)) → W.heap[gC]? = some (.cells (#[.int .i64 0, .bool false, .slice none 0 0, .string ⟨#[]⟩, .bool false]) 26 (0, 0)) → w.heap.size ≤ gC → wpAnyH Tryd.prog .any opsL Q (fun _ => True) 8 #[true, true, true, true, true, true, false, false, false, false, false, false, true, false, false] ⟨#[.int .i64 (a : Int), .int .i64 (b : Int), v2, v3, v4, .pointer (some ⟨gC, 0, none⟩), v6, v7, v8, v9, v10, v11, v12, v13, v14, v15, v16, v17, v18, v19, v20, v21, v22, .int .i64 (a : Int), .slice (some ⟨gA, 0, none⟩) a a, .string (zs a), cnV 2 false none 0 0 (zs a) false, .int .i64 (b : Int), .slice (some ⟨gB, 0, none⟩) b b, v29, v30, v31, v32, v33, v34, v35, v36, v37, v38, v39, v40, v41, v42, v43, v44, v45, v46, v47, v48, v49, v50, v51, v52, v53, v54, v55, v56, v57, v58, v59, v60, v61], []⟩ W := by
    intro W gA gB gC hb hB hC hCb
    refine wpAnyH_ready (rs := [6]) (by kernel_rfl) (by simp) ?_
    refine AllReadyH.cons (o := { dst := some 29, op := Op.convert 37 9 (Operand.tmp 28), type := 9, pos := "law.go:48", after := #[{ on := 5, ground := Ground.data }], guard := none }) rfl (fun K hK => ?_) AllReadyH.nil
    have hcv := run_cv b W gB hB
    go_simp
    clear hcv
    refine hK.out _ _ trivial (fun hHeld => ?_)
    clear hK K hHeld
    try simp only [List.setIfInBounds_toArray, List.set_cons_zero, List.set_cons_succ]
    exact st_321 W gA gB gC hb hC hCb
  have st_301 : ∀ (W : World) (gA gB gC : Nat), Below w.heap.size w W → W.heap[gC]? = some (.cells (#[.int .i64 0, .bool false, .slice none 0 0, .string ⟨#[]⟩, .bool false]) 26 (0, 0)) → w.heap.size ≤ gC → wpAnyH Tryd.prog .any opsL Q (fun _ => True) 9 #[true, true, true, true, true, false, false, false, false, false, false, false, true, false, false] ⟨#[.int .i64 (a : Int), .int .i64 (b : Int), v2, v3, v4, .pointer (some ⟨gC, 0, none⟩), v6, v7, v8, v9, v10, v11, v12, v13, v14, v15, v16, v17, v18, v19, v20, v21, v22, .int .i64 (a : Int), .slice (some ⟨gA, 0, none⟩) a a, .string (zs a), cnV 2 false none 0 0 (zs a) false, .int .i64 (b : Int), v28, v29, v30, v31, v32, v33, v34, v35, v36, v37, v38, v39, v40, v41, v42, v43, v44, v45, v46, v47, v48, v49, v50, v51, v52, v53, v54, v55, v56, v57, v58, v59, v60, v61], []⟩ W := by
    intro W gA gB gC hb hC hCb
    refine wpAnyH_ready (rs := [5]) (by kernel_rfl) (by simp) ?_
    refine AllReadyH.cons (o := { dst := some 28, op := Op.makeSlice 37 (Operand.tmp 27) (Operand.tmp 27), type := 37, pos := "law.go:48", after := #[{ on := 4, ground := Ground.data }, { on := 4, ground := Ground.data }], guard := none }) rfl (fun K hK => ?_) AllReadyH.nil
    go_simp
    refine hK.out _ _ trivial (fun hHeld => ?_)
    clear hK K hHeld
    try simp only [List.setIfInBounds_toArray, List.set_cons_zero, List.set_cons_succ]
    have hq := (Below.refl W.heap.size W).alloc (Nat.le_refl _) (.cells (zc b) 5)
    exact st_311 _ gA W.heap.size gC (hb.trans (hq.mono hb.size)) (new_blk W _) (kept5 hq hC) hCb
  have st_221 : ∀ (W : World) (gA gB gC : Nat), Below w.heap.size w W → W.heap[gC]? = some (.cells (#[.int .i64 0, .bool false, .slice none 0 0, .string ⟨#[]⟩, .bool false]) 26 (0, 0)) → w.heap.size ≤ gC → wpAnyH Tryd.prog .any opsL Q (fun _ => True) 8 #[true, true, true, false, true, true, true, false, false, false, false, false, true, false, false] ⟨#[.int .i64 (a : Int), .int .i64 (b : Int), v2, v3, v4, .pointer (some ⟨gC, 0, none⟩), v6, v7, v8, v9, v10, v11, v12, v13, v14, v15, v16, v17, v18, v19, v20, v21, v22, .int .i64 (a : Int), .slice (some ⟨gA, 0, none⟩) a a, .string (zs a), v26, .int .i64 (b : Int), .slice (some ⟨gB, 0, none⟩) b b, .string (zs b), v30, v31, v32, v33, v34, v35, v36, v37, v38, v39, v40, v41, v42, v43, v44, v45, v46, v47, v48, v49, v50, v51, v52, v53, v54, v55, v56, v57, v58, v59, v60, v61], []⟩ W := by
    intro W gA gB gC hb hC hCb
    refine wpAnyH_ready (rs := [3]) (by kernel_rfl) (by simp) ?_
    refine AllReadyH.cons (o := { dst := some 26, op := Op.call { callee := Callee.value (Operand.func 12), args := #[Operand.tmp 25], argTypes := #[9] }, type := 26, pos := "law.go:48", after := #[{ on := 2, ground := Ground.data }], guard := none }) rfl (fun K hK => ?_) AllReadyH.nil
    go_simp
    go_at_call 12; refine (kstr_any (zs a) _).mono ?_; rintro e x ⟨rfl, hx⟩
    go_wp2_with fail
    refine hK.out _ _ trivial (fun hHeld => ?_)
    clear hK K hHeld
    try simp only [List.setIfInBounds_toArray, List.set_cons_zero, List.set_cons_succ]
    exact st_321 _ gA gB gC (hb.trans (hx.mono hb.size)) (kept5 hx hC) hCb
  have st_211 : ∀ (W : World) (gA gB gC : Nat), Below w.heap.size w W → W.heap[gB]? = some (.cells (zc b) 5 (0, 0)) → W.heap[gC]? = some (.cells (#[.int .i64 0, .bool false, .slice none 0 0, .string ⟨#[]⟩, .bool false]) 26 (0, 0)) → w.heap.size ≤ gC → wpAnyH Tryd.prog .any opsL Q (fun _ => True) 9 #[true, true, true, false, true, true, false, false, false, false, false, false, true, false, false] ⟨#[.int .i64 (a : Int), .int .i64 (b : Int), v2, v3, v4, .pointer (some ⟨gC, 0, none⟩), v6, v7, v8, v9, v10, v11, v12, v13, v14, v15, v16, v17, v18, v19, v20, v21, v22, .int .i64 (a : Int), .slice (some ⟨gA, 0, none⟩) a a, .string (zs a), v26, .int .i64 (b : Int), .slice (some ⟨gB, 0, none⟩) b b, v29, v30, v31, v32, v33, v34, v35, v36, v37, v38, v39, v40, v41, v42, v43, v44, v45, v46, v47, v48, v49, v50, v51, v52, v53, v54, v55, v56, v57, v58, v59, v60, v61], []⟩ W := by
    intro W gA gB gC hb hB hC hCb
    refine wpAnyH_ready (rs := [3, 6]) (by kernel_rfl) (by simp) ?_
    refine AllReadyH.cons (o := { dst := some 26, op := Op.call { callee := Callee.value (Operand.func 12), args := #[Operand.tmp 25], argTypes := #[9] }, type := 26, pos := "law.go:48", after := #[{ on := 2, ground := Ground.data }], guard := none }) rfl (fun K hK => ?_) (AllReadyH.cons (o := { dst := some 29, op := Op.convert 37 9 (Operand.tmp 28), type := 9, pos := "law.go:48", after := #[{ on := 5, ground := Ground.data }], guard := none }) rfl (fun K hK => ?_) AllReadyH.nil)
    · go_simp
      go_at_call 12; refine (kstr_any (zs a) _).mono ?_; rintro e x ⟨rfl, hx⟩
      go_wp2_with fail
      refine hK.out _ _ trivial (fun hHeld => ?_)
      clear hK K hHeld
      try simp only [List.setIfInBounds_toArray, List.set_cons_zero, List.set_cons_succ]
      exact st_311 _ gA gB gC (hb.trans (hx.mono hb.size)) (kept5 hx hB) (kept5 hx hC) hCb
    · have hcv := run_cv b W gB hB
      go_simp
      clear hcv
      refine hK.out _ _ trivial (fun hHeld => ?_)
      clear hK K hHeld
      try simp only [List.setIfInBounds_toArray, List.set_cons_zero, List.set_cons_succ]
      exact st_221 W gA gB gC hb hC hCb
  have st_201 : ∀ (W : World) (gA gB gC : Nat), Below w.heap.size w W → W.heap[gC]? = some (.cells (#[.int .i64 0, .bool false, .slice none 0 0, .string ⟨#[]⟩, .bool false]) 26 (0, 0)) → w.heap.size ≤ gC → wpAnyH Tryd.prog .any opsL Q (fun _ => True) 10 #[true, true, true, false, true, false, false, false, false, false, false, false, true, false, false] ⟨#[.int .i64 (a : Int), .int .i64 (b : Int), v2, v3, v4, .pointer (some ⟨gC, 0, none⟩), v6, v7, v8, v9, v10, v11, v12, v13, v14, v15, v16, v17, v18, v19, v20, v21, v22, .int .i64 (a : Int), .slice (some ⟨gA, 0, none⟩) a a, .string (zs a), v26, .int .i64 (b : Int), v28, v29, v30, v31, v32, v33, v34, v35, v36, v37, v38, v39, v40, v41, v42, v43, v44, v45, v46, v47, v48, v49, v50, v51, v52, v53, v54, v55, v56, v57, v58, v59, v60, v61], []⟩ W := by
    intro W gA gB gC hb hC hCb
    refine wpAnyH_ready (rs := [3, 5]) (by kernel_rfl) (by simp) ?_
    refine AllReadyH.cons (o := { dst := some 26, op := Op.call { callee := Callee.value (Operand.func 12), args := #[Operand.tmp 25], argTypes := #[9] }, type := 26, pos := "law.go:48", after := #[{ on := 2, ground := Ground.data }], guard := none }) rfl (fun K hK => ?_) (AllReadyH.cons (o := { dst := some 28, op := Op.makeSlice 37 (Operand.tmp 27) (Operand.tmp 27), type := 37, pos := "law.go:48", after := #[{ on := 4, ground := Ground.data }, { on := 4, ground := Ground.data }], guard := none }) rfl (fun K hK => ?_) AllReadyH.nil)
    · go_simp
      go_at_call 12; refine (kstr_any (zs a) _).mono ?_; rintro e x ⟨rfl, hx⟩
      go_wp2_with fail
      refine hK.out _ _ trivial (fun hHeld => ?_)
      clear hK K hHeld
      try simp only [List.setIfInBounds_toArray, List.set_cons_zero, List.set_cons_succ]
      exact st_301 _ gA gB gC (hb.trans (hx.mono hb.size)) (kept5 hx hC) hCb
    · go_simp
      refine hK.out _ _ trivial (fun hHeld => ?_)
      clear hK K hHeld
      try simp only [List.setIfInBounds_toArray, List.set_cons_zero, List.set_cons_succ]
      have hq := (Below.refl W.heap.size W).alloc (Nat.le_refl _) (.cells (zc b) 5)
      exact st_211 _ gA W.heap.size gC (hb.trans (hq.mono hb.size)) (new_blk W _) (kept5 hq hC) hCb
  have st_121 : ∀ (W : World) (gA gB gC : Nat), Below w.heap.size w W → W.heap[gA]? = some (.cells (zc a) 5 (0, 0)) → W.heap[gC]? = some (.cells (#[.int .i64 0, .bool false, .slice none 0 0, .string ⟨#[]⟩, .bool false]) 26 (0, 0)) → w.heap.size ≤ gC → wpAnyH Tryd.prog .any opsL Q (fun _ => True) 9 #[true, true, false, false, true, true, true, false, false, false, false, false, true, false, false] ⟨#[.int .i64 (a : Int), .int .i64 (b : Int), v2, v3, v4, .pointer (some ⟨gC, 0, none⟩), v6, v7, v8, v9, v10, v11, v12, v13, v14, v15, v16, v17, v18, v19, v20, v21, v22, .int .i64 (a : Int), .slice (some ⟨gA, 0, none⟩) a a, v25, v26, .int .i64 (b : Int), .slice (some ⟨gB, 0, none⟩) b b, .string (zs b), v30, v31, v32, v33, v34, v35, v36, v37, v38, v39, v40, v41, v42, v43, v44, v45, v46, v47, v48, v49, v50, v51, v52, v53, v54, v55, v56, v57, v58, v59, v60, v61], []⟩ W := by
    intro W gA gB gC hb hA hC hCb
    refine wpAnyH_ready (rs := [2]) (by kernel_rfl) (by simp) ?_
    refine AllReadyH.cons (o := { dst := some 25, op := Op.convert 37 9 (Operand.tmp 24), type := 9, pos := "law.go:48", after := #[{ on := 1, ground := Ground.data }], guard := none }) rfl (fun K hK => ?_) AllReadyH.nil
    have hcv := run_cv a W gA hA
    go_simp
    clear hcv
    refine hK.out _ _ trivial (fun hHeld => ?_)
    clear hK K hHeld
    try simp only [List.setIfInBounds_toArray, List.set_cons_zero, List.set_cons_succ]
    exact st_221 W gA gB gC hb hC hCb
  have st_111 : ∀ (W : World) (gA gB gC : Nat), Below w.heap.size w W → W.heap[gA]? = some (.cells (zc a) 5 (0, 0)) → W.heap[gB]? = some (.cells (zc b) 5 (0, 0)) → W.heap[gC]? = some (.cells (#[.int .i64 0, .bool false, .slice none 0 0, .string ⟨#[]⟩, .bool false]) 26 (0, 0)) → w.heap.size ≤ gC → wpAnyH Tryd.prog .any opsL Q (fun _ => True) 10 #[true, true, false, false, true, true, false, false, false, false, false, false, true, false, false] ⟨#[.int .i64 (a : Int), .int .i64 (b : Int), v2, v3, v4, .pointer (some ⟨gC, 0, none⟩), v6, v7, v8, v9, v10, v11, v12, v13, v14, v15, v16, v17, v18, v19, v20, v21, v22, .int .i64 (a : Int), .slice (some ⟨gA, 0, none⟩) a a, v25, v26, .int .i64 (b : Int), .slice (some ⟨gB, 0, none⟩) b b, v29, v30, v31, v32, v33, v34, v35, v36, v37, v38, v39, v40, v41, v42, v43, v44, v45, v46, v47, v48, v49, v50, v51, v52, v53, v54, v55, v56, v57, v58, v59, v60, v61], []⟩ W := by
    intro W gA gB gC hb hA hB hC hCb
    refine wpAnyH_ready (rs := [2, 6]) (by kernel_rfl) (by simp) ?_
    refine AllReadyH.cons (o := { dst := some 25, op := Op.convert 37 9 (Operand.tmp 24), type := 9, pos := "law.go:48", after := #[{ on := 1, ground := Ground.data }], guard := none }) rfl (fun K hK => ?_) (AllReadyH.cons (o := { dst := some 29, op := Op.convert 37 9 (Operand.tmp 28), type := 9, pos := "law.go:48", after := #[{ on := 5, ground := Ground.data }], guard := none }) rfl (fun K hK => ?_) AllReadyH.nil)
    · have hcv := run_cv a W gA hA
      go_simp
      clear hcv
      refine hK.out _ _ trivial (fun hHeld => ?_)
      clear hK K hHeld
      try simp only [List.setIfInBounds_toArray, List.set_cons_zero, List.set_cons_succ]
      exact st_211 W gA gB gC hb hB hC hCb
    · have hcv := run_cv b W gB hB
      go_simp
      clear hcv
      refine hK.out _ _ trivial (fun hHeld => ?_)
      clear hK K hHeld
      try simp only [List.setIfInBounds_toArray, List.set_cons_zero, List.set_cons_succ]
      exact st_121 W gA gB gC hb hA hC hCb
  have st_101 : ∀ (W : World) (gA gB gC : Nat), Below w.heap.size w W → W.heap[gA]? = some (.cells (zc a) 5 (0, 0)) → W.heap[gC]? = some (.cells (#[.int .i64 0, .bool false, .slice none 0 0, .string ⟨#[]⟩, .bool false]) 26 (0, 0)) → w.heap.size ≤ gC → wpAnyH Tryd.prog .any opsL Q (fun _ => True) 11 #[true, true, false, false, true, false, false, false, false, false, false, false, true, false, false] ⟨#[.int .i64 (a : Int), .int .i64 (b : Int), v2, v3, v4, .pointer (some ⟨gC, 0, none⟩), v6, v7, v8, v9, v10, v11, v12, v13, v14, v15, v16, v17, v18, v19, v20, v21, v22, .int .i64 (a : Int), .slice (some ⟨gA, 0, none⟩) a a, v25, v26, .int .i64 (b : Int), v28, v29, v30, v31, v32, v33, v34, v35, v36, v37, v38, v39, v40, v41, v42, v43, v44, v45, v46, v47, v48, v49, v50, v51, v52, v53, v54, v55, v56, v57, v58, v59, v60, v61], []⟩ W := by
    intro W gA gB gC hb hA hC hCb
    refine wpAnyH_ready (rs := [2, 5]) (by kernel_rfl) (by simp) ?_
    refine AllReadyH.cons (o := { dst := some 25, op := Op.convert 37 9 (Operand.tmp 24), type := 9, pos := "law.go:48", after := #[{ on := 1, ground := Ground.data }], guard := none }) rfl (fun K hK => ?_) (AllReadyH.cons (o := { dst := some 28, op := Op.makeSlice 37 (Operand.tmp 27) (Operand.tmp 27), type := 37, pos := "law.go:48", after := #[{ on := 4, ground := Ground.data }, { on := 4, ground := Ground.data }], guard := none }) rfl (fun K hK => ?_) AllReadyH.nil)
    · have hcv := run_cv a W gA hA
      go_simp
      clear hcv
      refine hK.out _ _ trivial (fun hHeld => ?_)
      clear hK K hHeld
      try simp only [List.setIfInBounds_toArray, List.set_cons_zero, List.set_cons_succ]
      exact st_201 W gA gB gC hb hC hCb
    · go_simp
      refine hK.out _ _ trivial (fun hHeld => ?_)
      clear hK K hHeld
      try simp only [List.setIfInBounds_toArray, List.set_cons_zero, List.set_cons_succ]
      have hq := (Below.refl W.heap.size W).alloc (Nat.le_refl _) (.cells (zc b) 5)
      exact st_111 _ gA W.heap.size gC (hb.trans (hq.mono hb.size)) (kept5 hq hA) (new_blk W _) (kept5 hq hC) hCb
  have st_021 : ∀ (W : World) (gA gB gC : Nat), Below w.heap.size w W → W.heap[gC]? = some (.cells (#[.int .i64 0, .bool false, .slice none 0 0, .string ⟨#[]⟩, .bool false]) 26 (0, 0)) → w.heap.size ≤ gC → wpAnyH Tryd.prog .any opsL Q (fun _ => True) 10 #[true, false, false, false, true, true, true, false, false, false, false, false, true, false, false] ⟨#[.int .i64 (a : Int), .int .i64 (b : Int), v2, v3, v4, .pointer (some ⟨gC, 0, none⟩), v6, v7, v8, v9, v10, v11, v12, v13, v14, v15, v16, v17, v18, v19, v20, v21, v22, .int .i64 (a : Int), v24, v25, v26, .int .i64 (b : Int), .slice (some ⟨gB, 0, none⟩) b b, .string (zs b), v30, v31, v32, v33, v34, v35, v36, v37, v38, v39, v40, v41, v42, v43, v44, v45, v46, v47, v48, v49, v50, v51, v52, v53, v54, v55, v56, v57, v58, v59, v60, v61], []⟩ W := by
    intro W gA gB gC hb hC hCb
    refine wpAnyH_ready (rs := [1]) (by kernel_rfl) (by simp) ?_
    refine AllReadyH.cons (o := { dst := some 24, op := Op.makeSlice 37 (Operand.tmp 23) (Operand.tmp 23), type := 37, pos := "law.go:48", after := #[{ on := 0, ground := Ground.data }, { on := 0, ground := Ground.data }], guard := none }) rfl (fun K hK => ?_) AllReadyH.nil
    go_simp
    refine hK.out _ _ trivial (fun hHeld => ?_)
    clear hK K hHeld
    try simp only [List.setIfInBounds_toArray, List.set_cons_zero, List.set_cons_succ]
    have hq := (Below.refl W.heap.size W).alloc (Nat.le_refl _) (.cells (zc a) 5)
    exact st_121 _ W.heap.size gB gC (hb.trans (hq.mono hb.size)) (new_blk W _) (kept5 hq hC) hCb
  have st_011 : ∀ (W : World) (gA gB gC : Nat), Below w.heap.size w W → W.heap[gB]? = some (.cells (zc b) 5 (0, 0)) → W.heap[gC]? = some (.cells (#[.int .i64 0, .bool false, .slice none 0 0, .string ⟨#[]⟩, .bool false]) 26 (0, 0)) → w.heap.size ≤ gC → wpAnyH Tryd.prog .any opsL Q (fun _ => True) 11 #[true, false, false, false, true, true, false, false, false, false, false, false, true, false, false] ⟨#[.int .i64 (a : Int), .int .i64 (b : Int), v2, v3, v4, .pointer (some ⟨gC, 0, none⟩), v6, v7, v8, v9, v10, v11, v12, v13, v14, v15, v16, v17, v18, v19, v20, v21, v22, .int .i64 (a : Int), v24, v25, v26, .int .i64 (b : Int), .slice (some ⟨gB, 0, none⟩) b b, v29, v30, v31, v32, v33, v34, v35, v36, v37, v38, v39, v40, v41, v42, v43, v44, v45, v46, v47, v48, v49, v50, v51, v52, v53, v54, v55, v56, v57, v58, v59, v60, v61], []⟩ W := by
    intro W gA gB gC hb hB hC hCb
    refine wpAnyH_ready (rs := [1, 6]) (by kernel_rfl) (by simp) ?_
    refine AllReadyH.cons (o := { dst := some 24, op := Op.makeSlice 37 (Operand.tmp 23) (Operand.tmp 23), type := 37, pos := "law.go:48", after := #[{ on := 0, ground := Ground.data }, { on := 0, ground := Ground.data }], guard := none }) rfl (fun K hK => ?_) (AllReadyH.cons (o := { dst := some 29, op := Op.convert 37 9 (Operand.tmp 28), type := 9, pos := "law.go:48", after := #[{ on := 5, ground := Ground.data }], guard := none }) rfl (fun K hK => ?_) AllReadyH.nil)
    · go_simp
      refine hK.out _ _ trivial (fun hHeld => ?_)
      clear hK K hHeld
      try simp only [List.setIfInBounds_toArray, List.set_cons_zero, List.set_cons_succ]
      have hq := (Below.refl W.heap.size W).alloc (Nat.le_refl _) (.cells (zc a) 5)
      exact st_111 _ W.heap.size gB gC (hb.trans (hq.mono hb.size)) (new_blk W _) (kept5 hq hB) (kept5 hq hC) hCb
    · have hcv := run_cv b W gB hB
      go_simp
      clear hcv
      refine hK.out _ _ trivial (fun hHeld => ?_)
      clear hK K hHeld
      try simp only [List.setIfInBounds_toArray, List.set_cons_zero, List.set_cons_succ]
      exact st_021 W gA gB gC hb hC hCb
  have st_001 : ∀ (W : World) (gA gB gC : Nat), Below w.heap.size w W → W.heap[gC]? = some (.cells (#[.int .i64 0, .bool false, .slice none 0 0, .string ⟨#[]⟩, .bool false]) 26 (0, 0)) → w.heap.size ≤ gC → wpAnyH Tryd.prog .any opsL Q (fun _ => True) 12 #[true, false, false, false, true, false, false, false, false, false, false, false, true, false, false] ⟨#[.int .i64 (a : Int), .int .i64 (b : Int), v2, v3, v4, .pointer (some ⟨gC, 0, none⟩), v6, v7, v8, v9, v10, v11, v12, v13, v14, v15, v16, v17, v18, v19, v20, v21, v22, .int .i64 (a : Int), v24, v25, v26, .int .i64 (b : Int), v28, v29, v30, v31, v32, v33, v34, v35, v36, v37, v38, v39, v40, v41, v42, v43, v44, v45, v46, v47, v48, v49, v50, v51, v52, v53, v54, v55, v56, v57, v58, v59, v60, v61], []⟩ W := by
    intro W gA gB gC hb hC hCb
    refine wpAnyH_ready (rs := [1, 5]) (by kernel_rfl) (by simp) ?_
    refine AllReadyH.cons (o := { dst := some 24, op := Op.makeSlice 37 (Operand.tmp 23) (Operand.tmp 23), type := 37, pos := "law.go:48", after := #[{ on := 0, ground := Ground.data }, { on := 0, ground := Ground.data }], guard := none }) rfl (fun K hK => ?_) (AllReadyH.cons (o := { dst := some 28, op := Op.makeSlice 37 (Operand.tmp 27) (Operand.tmp 27), type := 37, pos := "law.go:48", after := #[{ on := 4, ground := Ground.data }, { on := 4, ground := Ground.data }], guard := none }) rfl (fun K hK => ?_) AllReadyH.nil)
    · go_simp
      refine hK.out _ _ trivial (fun hHeld => ?_)
      clear hK K hHeld
      try simp only [List.setIfInBounds_toArray, List.set_cons_zero, List.set_cons_succ]
      have hq := (Below.refl W.heap.size W).alloc (Nat.le_refl _) (.cells (zc a) 5)
      exact st_101 _ W.heap.size gB gC (hb.trans (hq.mono hb.size)) (new_blk W _) (kept5 hq hC) hCb
    · go_simp
      refine hK.out _ _ trivial (fun hHeld => ?_)
      clear hK K hHeld
      try simp only [List.setIfInBounds_toArray, List.set_cons_zero, List.set_cons_succ]
      have hq := (Below.refl W.heap.size W).alloc (Nat.le_refl _) (.cells (zc b) 5)
      exact st_011 _ gA W.heap.size gC (hb.trans (hq.mono hb.size)) (new_blk W _) (kept5 hq hC) hCb
  have st_330 : ∀ (W : World) (gA gB gC : Nat), Below w.heap.size w W → wpAnyH Tryd.prog .any opsL Q (fun _ => True) 7 #[true, true, true, true, true, true, true, true, false, false, false, false, false, false, false] ⟨#[.int .i64 (a : Int), .int .i64 (b : Int), v2, v3, v4, v5, v6, v7, v8, v9, v10, v11, v12, v13, v14, v15, v16, v17, v18, v19, v20, v21, v22, .int .i64 (a : Int), .slice (some ⟨gA, 0, none⟩) a a, .string (zs a), cnV 2 false none 0 0 (zs a) false, .int .i64 (b : Int), .slice (some ⟨gB, 0, none⟩) b b, .string (zs b), cnV 2 false none 0 0 (zs b) false, v31, v32, v33, v34, v35, v36, v37, v38, v39, v40, v41, v42, v43, v44, v45, v46, v47, v48, v49, v50, v51, v52, v53, v54, v55, v56, v57, v58, v59, v60, v61], []⟩ W := by
    intro W gA gB gC hb
    refine wpAnyH_ready (rs := [8, 12]) (by kernel_rfl) (by simp) ?_
    refine AllReadyH.cons (o := { dst := some 31, op := Op.call { callee := Callee.value (Operand.func 9), args := #[Operand.const (Value.string { data := #[43] }), Operand.tmp 26, Operand.tmp 30], argTypes := #[9, 26, 26] }, type := 30, pos := "law.go:48", after := #[{ on := 3, ground := Ground.data }, { on := 7, ground := Ground.data }, { on := 7, ground := Ground.chain }], guard := none }) rfl (fun K hK => ?_) (AllReadyH.cons (o := { dst := some 5, op := Op.alloc 26, type := 0, pos := "law.go:48", after := #[], guard := none }) rfl (fun K hK => ?_) AllReadyH.nil)
    · go_simp
      go_at_call 9; refine (hbin _ hb).mono ?_; rintro e x ⟨⟨v, rfl, aq, nq, cq, rfl, hi⟩, hx⟩
      go_wp2_with fail
      refine hK.out _ _ trivial (fun hHeld => ?_)
      clear hK K hHeld
      try simp only [List.setIfInBounds_toArray, List.set_cons_zero, List.set_cons_succ]
      refine wpAnyH_take (i := 9) (oi := { dst := some 22, op := Op.move (Operand.tmp 31), type := 30, pos := "law.go:48", after := #[{ on := 8, ground := Ground.data }], guard := none }) (v := ?_) rfl (by kernel_rfl) (by kernel_rfl) (by kernel_rfl) (fun c _ w h => hP c _ _ _ w h) (Or.inl ⟨by rfl, ?_⟩) trivial ?_
      rotate_left
      · intro w hSw; (try dsimp only at hSw); (go_simp <;> with_reducible rfl)
      try simp only [Act.put, List.setIfInBounds_toArray, List.set_cons_zero, List.set_cons_succ]
      refine wpAnyH_take (i := 10) (oi := { dst := some 32, op := Op.extract (Operand.tmp 22) 0, type := 26, pos := "law.go:48", after := #[{ on := 9, ground := Ground.data }], guard := none }) (v := ?_) rfl (by kernel_rfl) (by kernel_rfl) (by kernel_rfl) (fun c _ w h => hP c _ _ _ w h) (Or.inl ⟨by rfl, ?_⟩) trivial ?_
      rotate_left
      · intro w hSw; (try dsimp only at hSw); (go_simp <;> with_reducible rfl)
      try simp only [Act.put, List.setIfInBounds_toArray, List.set_cons_zero, List.set_cons_succ]
      refine wpAnyH_take (i := 11) (oi := { dst := some 33, op := Op.extract (Operand.tmp 22) 1, type := 29, pos := "law.go:48", after := #[{ on := 9, ground := Ground.data }, { on := 13, ground := Ground.gcOnly Departure.lateStores }], guard := none }) (v := ?_) rfl (by kernel_rfl) (by kernel_rfl) (by kernel_rfl) (fun c _ w h => hP c _ _ _ w h) (Or.inl ⟨by rfl, ?_⟩) trivial ?_
      rotate_left
      · intro w hSw; (try dsimp only at hSw); (go_simp <;> with_reducible rfl)
      try simp only [Act.put, List.setIfInBounds_toArray, List.set_cons_zero, List.set_cons_succ]
      exact tl_0 _ gA gB gC aq nq cq (hb.trans (hx.mono hb.size))
    · go_simp
      refine hK.out _ _ trivial (fun hHeld => ?_)
      clear hK K hHeld
      try simp only [List.setIfInBounds_toArray, List.set_cons_zero, List.set_cons_succ]
      have hq := (Below.refl W.heap.size W).alloc (Nat.le_refl _) (.cells #[.int .i64 0, .bool false, .slice none 0 0, .string ⟨#[]⟩, .bool false] 26)
      exact st_331 _ gA gB W.heap.size (hb.trans (hq.mono hb.size)) (new_blk W _) hb.size
  have st_320 : ∀ (W : World) (gA gB gC : Nat), Below w.heap.size w W → wpAnyH Tryd.prog .any opsL Q (fun _ => True) 8 #[true, true, true, true, true, true, true, false, false, false, false, false, false, false, false] ⟨#[.int .i64 (a : Int), .int .i64 (b : Int), v2, v3, v4, v5, v6, v7, v8, v9, v10, v11, v12, v13, v14, v15, v16, v17, v18, v19, v20, v21, v22, .int .i64 (a : Int), .slice (some ⟨gA, 0, none⟩) a a, .string (zs a), cnV 2 false none 0 0 (zs a) false, .int .i64 (b : Int), .slice (some ⟨gB, 0, none⟩) b b, .string (zs b), v30, v31, v32, v33, v34, v35, v36, v37, v38, v39, v40, v41, v42, v43, v44, v45, v46, v47, v48, v49, v50, v51, v52, v53, v54, v55, v56, v57, v58, v59, v60, v61], []⟩ W := by
    intro W gA gB gC hb
    refine wpAnyH_ready (rs := [7, 12]) (by kernel_rfl) (by simp) ?_
    refine AllReadyH.cons (o := { dst := some 30, op := Op.call { callee := Callee.value (Operand.func 12), args := #[Operand.tmp 29], argTypes := #[9] }, type := 26, pos := "law.go:48", after := #[{ on := 6, ground := Ground.data }, { on := 3, ground := Ground.chain }], guard := none }) rfl (fun K hK => ?_) (AllReadyH.cons (o := { dst := some 5, op := Op.alloc 26, type := 0, pos := "law.go:48", after := #[], guard := none }) rfl (fun K hK => ?_) AllReadyH.nil)
    · go_simp
      go_at_call 12; refine (kstr_any (zs b) _).mono ?_; rintro e x ⟨rfl, hx⟩
      go_wp2_with fail
      refine hK.out _ _ trivial (fun hHeld => ?_)
      clear hK K hHeld
      try simp only [List.setIfInBounds_toArray, List.set_cons_zero, List.set_cons_succ]
      exact st_330 _ gA gB gC (hb.trans (hx.mono hb.size))
    · go_simp
      refine hK.out _ _ trivial (fun hHeld => ?_)
      clear hK K hHeld
      try simp only [List.setIfInBounds_toArray, List.set_cons_zero, List.set_cons_succ]
      have hq := (Below.refl W.heap.size W).alloc (Nat.le_refl _) (.cells #[.int .i64 0, .bool false, .slice none 0 0, .string ⟨#[]⟩, .bool false] 26)
      exact st_321 _ gA gB W.heap.size (hb.trans (hq.mono hb.size)) (new_blk W _) hb.size
  have st_310 : ∀ (W : World) (gA gB gC : Nat), Below w.heap.size w W → W.heap[gB]? = some (.cells (zc b) 5 (0, 0)) → wpAnyH Tryd.prog .any opsL Q (fun _ => True) 9 #[true, true, true, true, true, true, false, false, false, false, false, false, false, false, false] ⟨#[.int .i64 (a : Int), .int .i64 (b : Int), v2, v3, v4, v5, v6, v7, v8, v9, v10, v11, v12, v13, v14, v15, v16, v17, v18, v19, v20, v21, v22, .int .i64 (a : Int), .slice (some ⟨gA, 0, none⟩) a a, .string (zs a), cnV 2 false none 0 0 (zs a) false, .int .i64 (b : Int), .slice (some ⟨gB, 0, none⟩) b b, v29, v30, v31, v32, v33, v34, v35, v36, v37, v38, v39, v40, v41, v42, v43, v44, v45, v46, v47, v48, v49, v50, v51, v52, v53, v54, v55, v56, v57, v58, v59, v60, v61], []⟩ W := by
    intro W gA gB gC hb hB
    refine wpAnyH_ready (rs := [6, 12]) (by kernel_rfl) (by simp) ?_
    refine AllReadyH.cons (o := { dst := some 29, op := Op.convert 37 9 (Operand.tmp 28), type := 9, pos := "law.go:48", after := #[{ on := 5, ground := Ground.data }], guard := none }) rfl (fun K hK => ?_) (AllReadyH.cons (o := { dst := some 5, op := Op.alloc 26, type := 0, pos := "law.go:48", after := #[], guard := none }) rfl (fun K hK => ?_) AllReadyH.nil)
    · have hcv := run_cv b W gB hB
      go_simp
      clear hcv
      refine hK.out _ _ trivial (fun hHeld => ?_)
      clear hK K hHeld
      try simp only [List.setIfInBounds_toArray, List.set_cons_zero, List.set_cons_succ]
      exact st_320 W gA gB gC hb
    · go_simp
      refine hK.out _ _ trivial (fun hHeld => ?_)
      clear hK K hHeld
      try simp only [List.setIfInBounds_toArray, List.set_cons_zero, List.set_cons_succ]
      have hq := (Below.refl W.heap.size W).alloc (Nat.le_refl _) (.cells #[.int .i64 0, .bool false, .slice none 0 0, .string ⟨#[]⟩, .bool false] 26)
      exact st_311 _ gA gB W.heap.size (hb.trans (hq.mono hb.size)) (kept5 hq hB) (new_blk W _) hb.size
  have st_300 : ∀ (W : World) (gA gB gC : Nat), Below w.heap.size w W → wpAnyH Tryd.prog .any opsL Q (fun _ => True) 10 #[true, true, true, true, true, false, false, false, false, false, false, false, false, false, false] ⟨#[.int .i64 (a : Int), .int .i64 (b : Int), v2, v3, v4, v5, v6, v7, v8, v9, v10, v11, v12, v13, v14, v15, v16, v17, v18, v19, v20, v21, v22, .int .i64 (a : Int), .slice (some ⟨gA, 0, none⟩) a a, .string (zs a), cnV 2 false none 0 0 (zs a) false, .int .i64 (b : Int), v28, v29, v30, v31, v32, v33, v34, v35, v36, v37, v38, v39, v40, v41, v42, v43, v44, v45, v46, v47, v48, v49, v50, v51, v52, v53, v54, v55, v56, v57, v58, v59, v60, v61], []⟩ W := by
    intro W gA gB gC hb
    refine wpAnyH_ready (rs := [5, 12]) (by kernel_rfl) (by simp) ?_
    refine AllReadyH.cons (o := { dst := some 28, op := Op.makeSlice 37 (Operand.tmp 27) (Operand.tmp 27), type := 37, pos := "law.go:48", after := #[{ on := 4, ground := Ground.data }, { on := 4, ground := Ground.data }], guard := none }) rfl (fun K hK => ?_) (AllReadyH.cons (o := { dst := some 5, op := Op.alloc 26, type := 0, pos := "law.go:48", after := #[], guard := none }) rfl (fun K hK => ?_) AllReadyH.nil)
    · go_simp
      refine hK.out _ _ trivial (fun hHeld => ?_)
      clear hK K hHeld
      try simp only [List.setIfInBounds_toArray, List.set_cons_zero, List.set_cons_succ]
      have hq := (Below.refl W.heap.size W).alloc (Nat.le_refl _) (.cells (zc b) 5)
      exact st_310 _ gA W.heap.size gC (hb.trans (hq.mono hb.size)) (new_blk W _)
    · go_simp
      refine hK.out _ _ trivial (fun hHeld => ?_)
      clear hK K hHeld
      try simp only [List.setIfInBounds_toArray, List.set_cons_zero, List.set_cons_succ]
      have hq := (Below.refl W.heap.size W).alloc (Nat.le_refl _) (.cells #[.int .i64 0, .bool false, .slice none 0 0, .string ⟨#[]⟩, .bool false] 26)
      exact st_301 _ gA gB W.heap.size (hb.trans (hq.mono hb.size)) (new_blk W _) hb.size
  have st_220 : ∀ (W : World) (gA gB gC : Nat), Below w.heap.size w W → wpAnyH Tryd.prog .any opsL Q (fun _ => True) 9 #[true, true, true, false, true, true, true, false, false, false, false, false, false, false, false] ⟨#[.int .i64 (a : Int), .int .i64 (b : Int), v2, v3, v4, v5, v6, v7, v8, v9, v10, v11, v12, v13, v14, v15, v16, v17, v18, v19, v20, v21, v22, .int .i64 (a : Int), .slice (some ⟨gA, 0, none⟩) a a, .string (zs a), v26, .int .i64 (b : Int), .slice (some ⟨gB, 0, none⟩) b b, .string (zs b), v30, v31, v32, v33, v34, v35, v36, v37, v38, v39, v40, v41, v42, v43, v44, v45, v46, v47, v48, v49, v50, v51, v52, v53, v54, v55, v56, v57, v58, v59, v60, v61], []⟩ W := by
    intro W gA gB gC hb
    refine wpAnyH_ready (rs := [3, 12]) (by kernel_rfl) (by simp) ?_
    refine AllReadyH.cons (o := { dst := some 26, op := Op.call { callee := Callee.value (Operand.func 12), args := #[Operand.tmp 25], argTypes := #[9] }, type := 26, pos := "law.go:48", after := #[{ on := 2, ground := Ground.data }], guard := none }) rfl (fun K hK => ?_) (AllReadyH.cons (o := { dst := some 5, op := Op.alloc 26, type := 0, pos := "law.go:48", after := #[], guard := none }) rfl (fun K hK => ?_) AllReadyH.nil)
    · go_simp
      go_at_call 12; refine (kstr_any (zs a) _).mono ?_; rintro e x ⟨rfl, hx⟩
      go_wp2_with fail
      refine hK.out _ _ trivial (fun hHeld => ?_)
      clear hK K hHeld
      try simp only [List.setIfInBounds_toArray, List.set_cons_zero, List.set_cons_succ]
      exact st_320 _ gA gB gC (hb.trans (hx.mono hb.size))
    · go_simp
      refine hK.out _ _ trivial (fun hHeld => ?_)
      clear hK K hHeld
      try simp only [List.setIfInBounds_toArray, List.set_cons_zero, List.set_cons_succ]
      have hq := (Below.refl W.heap.size W).alloc (Nat.le_refl _) (.cells #[.int .i64 0, .bool false, .slice none 0 0, .string ⟨#[]⟩, .bool false] 26)
      exact st_221 _ gA gB W.heap.size (hb.trans (hq.mono hb.size)) (new_blk W _) hb.size
  have st_210 : ∀ (W : World) (gA gB gC : Nat), Below w.heap.size w W → W.heap[gB]? = some (.cells (zc b) 5 (0, 0)) → wpAnyH Tryd.prog .any opsL Q (fun _ => True) 10 #[true, true, true, false, true, true, false, false, false, false, false, false, false, false, false] ⟨#[.int .i64 (a : Int), .int .i64 (b : Int), v2, v3, v4, v5, v6, v7, v8, v9, v10, v11, v12, v13, v14, v15, v16, v17, v18, v19, v20, v21, v22, .int .i64 (a : Int), .slice (some ⟨gA, 0, none⟩) a a, .string (zs a), v26, .int .i64 (b : Int), .slice (some ⟨gB, 0, none⟩) b b, v29, v30, v31, v32, v33, v34, v35, v36, v37, v38, v39, v40, v41, v42, v43, v44, v45, v46, v47, v48, v49, v50, v51, v52, v53, v54, v55, v56, v57, v58, v59, v60, v61], []⟩ W := by
    intro W gA gB gC hb hB
    refine wpAnyH_ready (rs := [3, 6, 12]) (by kernel_rfl) (by simp) ?_
    refine AllReadyH.cons (o := { dst := some 26, op := Op.call { callee := Callee.value (Operand.func 12), args := #[Operand.tmp 25], argTypes := #[9] }, type := 26, pos := "law.go:48", after := #[{ on := 2, ground := Ground.data }], guard := none }) rfl (fun K hK => ?_) (AllReadyH.cons (o := { dst := some 29, op := Op.convert 37 9 (Operand.tmp 28), type := 9, pos := "law.go:48", after := #[{ on := 5, ground := Ground.data }], guard := none }) rfl (fun K hK => ?_) (AllReadyH.cons (o := { dst := some 5, op := Op.alloc 26, type := 0, pos := "law.go:48", after := #[], guard := none }) rfl (fun K hK => ?_) AllReadyH.nil))
    · go_simp
      go_at_call 12; refine (kstr_any (zs a) _).mono ?_; rintro e x ⟨rfl, hx⟩
      go_wp2_with fail
      refine hK.out _ _ trivial (fun hHeld => ?_)
      clear hK K hHeld
      try simp only [List.setIfInBounds_toArray, List.set_cons_zero, List.set_cons_succ]
      exact st_310 _ gA gB gC (hb.trans (hx.mono hb.size)) (kept5 hx hB)
    · have hcv := run_cv b W gB hB
      go_simp
      clear hcv
      refine hK.out _ _ trivial (fun hHeld => ?_)
      clear hK K hHeld
      try simp only [List.setIfInBounds_toArray, List.set_cons_zero, List.set_cons_succ]
      exact st_220 W gA gB gC hb
    · go_simp
      refine hK.out _ _ trivial (fun hHeld => ?_)
      clear hK K hHeld
      try simp only [List.setIfInBounds_toArray, List.set_cons_zero, List.set_cons_succ]
      have hq := (Below.refl W.heap.size W).alloc (Nat.le_refl _) (.cells #[.int .i64 0, .bool false, .slice none 0 0, .string ⟨#[]⟩, .bool false] 26)
      exact st_211 _ gA gB W.heap.size (hb.trans (hq.mono hb.size)) (kept5 hq hB) (new_blk W _) hb.size
  have st_200 : ∀ (W : World) (gA gB gC : Nat), Below w.heap.size w W → wpAnyH Tryd.prog .any opsL Q (fun _ => True) 11 #[true, true, true, false, true, false, false, false, false, false, false, false, false, false, false] ⟨#[.int .i64 (a : Int), .int .i64 (b : Int), v2, v3, v4, v5, v6, v7, v8, v9, v10, v11, v12, v13, v14, v15, v16, v17, v18, v19, v20, v21, v22, .int .i64 (a : Int), .slice (some ⟨gA, 0, none⟩) a a, .string (zs a), v26, .int .i64 (b : Int), v28, v29, v30, v31, v32, v33, v34, v35, v36, v37, v38, v39, v40, v41, v42, v43, v44, v45, v46, v47, v48, v49, v50, v51, v52, v53, v54, v55, v56, v57, v58, v59, v60, v61], []⟩ W := by
    intro W gA gB gC hb
    refine wpAnyH_ready (rs := [3, 5, 12]) (by kernel_rfl) (by simp) ?_
    refine AllReadyH.cons (o := { dst := some 26, op := Op.call { callee := Callee.value (Operand.func 12), args := #[Operand.tmp 25], argTypes := #[9] }, type := 26, pos := "law.go:48", after := #[{ on := 2, ground := Ground.data }], guard := none }) rfl (fun K hK => ?_) (AllReadyH.cons (o := { dst := some 28, op := Op.makeSlice 37 (Operand.tmp 27) (Operand.tmp 27), type := 37, pos := "law.go:48", after := #[{ on := 4, ground := Ground.data }, { on := 4, ground := Ground.data }], guard := none }) rfl (fun K hK => ?_) (AllReadyH.cons (o := { dst := some 5, op := Op.alloc 26, type := 0, pos := "law.go:48", after := #[], guard := none }) rfl (fun K hK => ?_) AllReadyH.nil))
    · go_simp
      go_at_call 12; refine (kstr_any (zs a) _).mono ?_; rintro e x ⟨rfl, hx⟩
      go_wp2_with fail
      refine hK.out _ _ trivial (fun hHeld => ?_)
      clear hK K hHeld
      try simp only [List.setIfInBounds_toArray, List.set_cons_zero, List.set_cons_succ]
      exact st_300 _ gA gB gC (hb.trans (hx.mono hb.size))
    · go_simp
      refine hK.out _ _ trivial (fun hHeld => ?_)
      clear hK K hHeld
      try simp only [List.setIfInBounds_toArray, List.set_cons_zero, List.set_cons_succ]
      have hq := (Below.refl W.heap.size W).alloc (Nat.le_refl _) (.cells (zc b) 5)
      exact st_210 _ gA W.heap.size gC (hb.trans (hq.mono hb.size)) (new_blk W _)
    · go_simp
      refine hK.out _ _ trivial (fun hHeld => ?_)
      clear hK K hHeld
      try simp only [List.setIfInBounds_toArray, List.set_cons_zero, List.set_cons_succ]
      have hq := (Below.refl W.heap.size W).alloc (Nat.le_refl _) (.cells #[.int .i64 0, .bool false, .slice none 0 0, .string ⟨#[]⟩, .bool false] 26)
      exact st_201 _ gA gB W.heap.size (hb.trans (hq.mono hb.size)) (new_blk W _) hb.size
  have st_120 : ∀ (W : World) (gA gB gC : Nat), Below w.heap.size w W → W.heap[gA]? = some (.cells (zc a) 5 (0, 0)) → wpAnyH Tryd.prog .any opsL Q (fun _ => True) 10 #[true, true, false, false, true, true, true, false, false, false, false, false, false, false, false] ⟨#[.int .i64 (a : Int), .int .i64 (b : Int), v2, v3, v4, v5, v6, v7, v8, v9, v10, v11, v12, v13, v14, v15, v16, v17, v18, v19, v20, v21, v22, .int .i64 (a : Int), .slice (some ⟨gA, 0, none⟩) a a, v25, v26, .int .i64 (b : Int), .slice (some ⟨gB, 0, none⟩) b b, .string (zs b), v30, v31, v32, v33, v34, v35, v36, v37, v38, v39, v40, v41, v42, v43, v44, v45, v46, v47, v48, v49, v50, v51, v52, v53, v54, v55, v56, v57, v58, v59, v60, v61], []⟩ W := by
    intro W gA gB gC hb hA
    refine wpAnyH_ready (rs := [2, 12]) (by kernel_rfl) (by simp) ?_
    refine AllReadyH.cons (o := { dst := some 25, op := Op.convert 37 9 (Operand.tmp 24), type := 9, pos := "law.go:48", after := #[{ on := 1, ground := Ground.data }], guard := none }) rfl (fun K hK => ?_) (AllReadyH.cons (o := { dst := some 5, op := Op.alloc 26, type := 0, pos := "law.go:48", after := #[], guard := none }) rfl (fun K hK => ?_) AllReadyH.nil)
    · have hcv := run_cv a W gA hA
      go_simp
      clear hcv
      refine hK.out _ _ trivial (fun hHeld => ?_)
      clear hK K hHeld
      try simp only [List.setIfInBounds_toArray, List.set_cons_zero, List.set_cons_succ]
      exact st_220 W gA gB gC hb
    · go_simp
      refine hK.out _ _ trivial (fun hHeld => ?_)
      clear hK K hHeld
      try simp only [List.setIfInBounds_toArray, List.set_cons_zero, List.set_cons_succ]
      have hq := (Below.refl W.heap.size W).alloc (Nat.le_refl _) (.cells #[.int .i64 0, .bool false, .slice none 0 0, .string ⟨#[]⟩, .bool false] 26)
      exact st_121 _ gA gB W.heap.size (hb.trans (hq.mono hb.size)) (kept5 hq hA) (new_blk W _) hb.size
  have st_110 : ∀ (W : World) (gA gB gC : Nat), Below w.heap.size w W → W.heap[gA]? = some (.cells (zc a) 5 (0, 0)) → W.heap[gB]? = some (.cells (zc b) 5 (0, 0)) → wpAnyH Tryd.prog .any opsL Q (fun _ => True) 11 #[true, true, false, false, true, true, false, false, false, false, false, false, false, false, false] ⟨#[.int .i64 (a : Int), .int .i64 (b : Int), v2, v3, v4, v5, v6, v7, v8, v9, v10, v11, v12, v13, v14, v15, v16, v17, v18, v19, v20, v21, v22, .int .i64 (a : Int), .slice (some ⟨gA, 0, none⟩) a a, v25, v26, .int .i64 (b : Int), .slice (some ⟨gB, 0, none⟩) b b, v29, v30, v31, v32, v33, v34, v35, v36, v37, v38, v39, v40, v41, v42, v43, v44, v45, v46, v47, v48, v49, v50, v51, v52, v53, v54, v55, v56, v57, v58, v59, v60, v61], []⟩ W := by
    intro W gA gB gC hb hA hB
    refine wpAnyH_ready (rs := [2, 6, 12]) (by kernel_rfl) (by simp) ?_
    refine AllReadyH.cons (o := { dst := some 25, op := Op.convert 37 9 (Operand.tmp 24), type := 9, pos := "law.go:48", after := #[{ on := 1, ground := Ground.data }], guard := none }) rfl (fun K hK => ?_) (AllReadyH.cons (o := { dst := some 29, op := Op.convert 37 9 (Operand.tmp 28), type := 9, pos := "law.go:48", after := #[{ on := 5, ground := Ground.data }], guard := none }) rfl (fun K hK => ?_) (AllReadyH.cons (o := { dst := some 5, op := Op.alloc 26, type := 0, pos := "law.go:48", after := #[], guard := none }) rfl (fun K hK => ?_) AllReadyH.nil))
    · have hcv := run_cv a W gA hA
      go_simp
      clear hcv
      refine hK.out _ _ trivial (fun hHeld => ?_)
      clear hK K hHeld
      try simp only [List.setIfInBounds_toArray, List.set_cons_zero, List.set_cons_succ]
      exact st_210 W gA gB gC hb hB
    · have hcv := run_cv b W gB hB
      go_simp
      clear hcv
      refine hK.out _ _ trivial (fun hHeld => ?_)
      clear hK K hHeld
      try simp only [List.setIfInBounds_toArray, List.set_cons_zero, List.set_cons_succ]
      exact st_120 W gA gB gC hb hA
    · go_simp
      refine hK.out _ _ trivial (fun hHeld => ?_)
      clear hK K hHeld
      try simp only [List.setIfInBounds_toArray, List.set_cons_zero, List.set_cons_succ]
      have hq := (Below.refl W.heap.size W).alloc (Nat.le_refl _) (.cells #[.int .i64 0, .bool false, .slice none 0 0, .string ⟨#[]⟩, .bool false] 26)
      exact st_111 _ gA gB W.heap.size (hb.trans (hq.mono hb.size)) (kept5 hq hA) (kept5 hq hB) (new_blk W _) hb.size
  have st_100 : ∀ (W : World) (gA gB gC : Nat), Below w.heap.size w W → W.heap[gA]? = some (.cells (zc a) 5 (0, 0)) → wpAnyH Tryd.prog .any opsL Q (fun _ => True) 12 #[true, true, false, false, true, false, false, false, false, false, false, false, false, false, false] ⟨#[.int .i64 (a : Int), .int .i64 (b : Int), v2, v3, v4, v5, v6, v7, v8, v9, v10, v11, v12, v13, v14, v15, v16, v17, v18, v19, v20, v21, v22, .int .i64 (a : Int), .slice (some ⟨gA, 0, none⟩) a a, v25, v26, .int .i64 (b : Int), v28, v29, v30, v31, v32, v33, v34, v35, v36, v37, v38, v39, v40, v41, v42, v43, v44, v45, v46, v47, v48, v49, v50, v51, v52, v53, v54, v55, v56, v57, v58, v59, v60, v61], []⟩ W := by
    intro W gA gB gC hb hA
    refine wpAnyH_ready (rs := [2, 5, 12]) (by kernel_rfl) (by simp) ?_
    refine AllReadyH.cons (o := { dst := some 25, op := Op.convert 37 9 (Operand.tmp 24), type := 9, pos := "law.go:48", after := #[{ on := 1, ground := Ground.data }], guard := none }) rfl (fun K hK => ?_) (AllReadyH.cons (o := { dst := some 28, op := Op.makeSlice 37 (Operand.tmp 27) (Operand.tmp 27), type := 37, pos := "law.go:48", after := #[{ on := 4, ground := Ground.data }, { on := 4, ground := Ground.data }], guard := none }) rfl (fun K hK => ?_) (AllReadyH.cons (o := { dst := some 5, op := Op.alloc 26, type := 0, pos := "law.go:48", after := #[], guard := none }) rfl (fun K hK => ?_) AllReadyH.nil))
    · have hcv := run_cv a W gA hA
      go_simp
      clear hcv
      refine hK.out _ _ trivial (fun hHeld => ?_)
      clear hK K hHeld
      try simp only [List.setIfInBounds_toArray, List.set_cons_zero, List.set_cons_succ]
      exact st_200 W gA gB gC hb
    · go_simp
      refine hK.out _ _ trivial (fun hHeld => ?_)
      clear hK K hHeld
      try simp only [List.setIfInBounds_toArray, List.set_cons_zero, List.set_cons_succ]
      have hq := (Below.refl W.heap.size W).alloc (Nat.le_refl _) (.cells (zc b) 5)
      exact st_110 _ gA W.heap.size gC (hb.trans (hq.mono hb.size)) (kept5 hq hA) (new_blk W _)
    · go_simp
      refine hK.out _ _ trivial (fun hHeld => ?_)
      clear hK K hHeld
      try simp only [List.setIfInBounds_toArray, List.set_cons_zero, List.set_cons_succ]
      have hq := (Below.refl W.heap.size W).alloc (Nat.le_refl _) (.cells #[.int .i64 0, .bool false, .slice none 0 0, .string ⟨#[]⟩, .bool false] 26)
      exact st_101 _ gA gB W.heap.size (hb.trans (hq.mono hb.size)) (kept5 hq hA) (new_blk W _) hb.size
  have st_020 : ∀ (W : World) (gA gB gC : Nat), Below w.heap.size w W → wpAnyH Tryd.prog .any opsL Q (fun _ => True) 11 #[true, false, false, false, true, true, true, false, false, false, false, false, false, false, false] ⟨#[.int .i64 (a : Int), .int .i64 (b : Int), v2, v3, v4, v5, v6, v7, v8, v9, v10, v11, v12, v13, v14, v15, v16, v17, v18, v19, v20, v21, v22, .int .i64 (a : Int), v24, v25, v26, .int .i64 (b : Int), .slice (some ⟨gB, 0, none⟩) b b, .string (zs b), v30, v31, v32, v33, v34, v35, v36, v37, v38, v39, v40, v41, v42, v43, v44, v45, v46, v47, v48, v49, v50, v51, v52, v53, v54, v55, v56, v57, v58, v59, v60, v61], []⟩ W := by
    intro W gA gB gC hb
    refine wpAnyH_ready (rs := [1, 12]) (by kernel_rfl) (by simp) ?_
    refine AllReadyH.cons (o := { dst := some 24, op := Op.makeSlice 37 (Operand.tmp 23) (Operand.tmp 23), type := 37, pos := "law.go:48", after := #[{ on := 0, ground := Ground.data }, { on := 0, ground := Ground.data }], guard := none }) rfl (fun K hK => ?_) (AllReadyH.cons (o := { dst := some 5, op := Op.alloc 26, type := 0, pos := "law.go:48", after := #[], guard := none }) rfl (fun K hK => ?_) AllReadyH.nil)
    · go_simp
      refine hK.out _ _ trivial (fun hHeld => ?_)
      clear hK K hHeld
      try simp only [List.setIfInBounds_toArray, List.set_cons_zero, List.set_cons_succ]
      have hq := (Below.refl W.heap.size W).alloc (Nat.le_refl _) (.cells (zc a) 5)
      exact st_120 _ W.heap.size gB gC (hb.trans (hq.mono hb.size)) (new_blk W _)
    · go_simp
      refine hK.out _ _ trivial (fun hHeld => ?_)
      clear hK K hHeld
      try simp only [List.setIfInBounds_toArray, List.set_cons_zero, List.set_cons_succ]
      have hq := (Below.refl W.heap.size W).alloc (Nat.le_refl _) (.cells #[.int .i64 0, .bool false, .slice none 0 0, .string ⟨#[]⟩, .bool false] 26)
      exact st_021 _ gA gB W.heap.size (hb.trans (hq.mono hb.size)) (new_blk W _) hb.size
  have st_010 : ∀ (W : World) (gA gB gC : Nat), Below w.heap.size w W → W.heap[gB]? = some (.cells (zc b) 5 (0, 0)) → wpAnyH Tryd.prog .any opsL Q (fun _ => True) 12 #[true, false, false, false, true, true, false, false, false, false, false, false, false, false, false] ⟨#[.int .i64 (a : Int), .int .i64 (b : Int), v2, v3, v4, v5, v6, v7, v8, v9, v10, v11, v12, v13, v14, v15, v16, v17, v18, v19, v20, v21, v22, .int .i64 (a : Int), v24, v25, v26, .int .i64 (b : Int), .slice (some ⟨gB, 0, none⟩) b b, v29, v30, v31, v32, v33, v34, v35, v36, v37, v38, v39, v40, v41, v42, v43, v44, v45, v46, v47, v48, v49, v50, v51, v52, v53, v54, v55, v56, v57, v58, v59, v60, v61], []⟩ W := by
    intro W gA gB gC hb hB
    refine wpAnyH_ready (rs := [1, 6, 12]) (by kernel_rfl) (by simp) ?_
    refine AllReadyH.cons (o := { dst := some 24, op := Op.makeSlice 37 (Operand.tmp 23) (Operand.tmp 23), type := 37, pos := "law.go:48", after := #[{ on := 0, ground := Ground.data }, { on := 0, ground := Ground.data }], guard := none }) rfl (fun K hK => ?_) (AllReadyH.cons (o := { dst := some 29, op := Op.convert 37 9 (Operand.tmp 28), type := 9, pos := "law.go:48", after := #[{ on := 5, ground := Ground.data }], guard := none }) rfl (fun K hK => ?_) (AllReadyH.cons (o := { dst := some 5, op := Op.alloc 26, type := 0, pos := "law.go:48", after := #[], guard := none }) rfl (fun K hK => ?_) AllReadyH.nil))
    · go_simp
      refine hK.out _ _ trivial (fun hHeld => ?_)
      clear hK K hHeld
      try simp only [List.setIfInBounds_toArray, List.set_cons_zero, List.set_cons_succ]
      have hq := (Below.refl W.heap.size W).alloc (Nat.le_refl _) (.cells (zc a) 5)
      exact st_110 _ W.heap.size gB gC (hb.trans (hq.mono hb.size)) (new_blk W _) (kept5 hq hB)
    · have hcv := run_cv b W gB hB
      go_simp
      clear hcv
      refine hK.out _ _ trivial (fun hHeld => ?_)
      clear hK K hHeld
      try simp only [List.setIfInBounds_toArray, List.set_cons_zero, List.set_cons_succ]
      exact st_020 W gA gB gC hb
    · go_simp
      refine hK.out _ _ trivial (fun hHeld => ?_)
      clear hK K hHeld
      try simp only [List.setIfInBounds_toArray, List.set_cons_zero, List.set_cons_succ]
      have hq := (Below.refl W.heap.size W).alloc (Nat.le_refl _) (.cells #[.int .i64 0, .bool false, .slice none 0 0, .string ⟨#[]⟩, .bool false] 26)
      exact st_011 _ gA gB W.heap.size (hb.trans (hq.mono hb.size)) (kept5 hq hB) (new_blk W _) hb.size
  have st_000 : ∀ (W : World) (gA gB gC : Nat), Below w.heap.size w W → wpAnyH Tryd.prog .any opsL Q (fun _ => True) 13 #[true, false, false, false, true, false, false, false, false, false, false, false, false, false, false] ⟨#[.int .i64 (a : Int), .int .i64 (b : Int), v2, v3, v4, v5, v6, v7, v8, v9, v10, v11, v12, v13, v14, v15, v16, v17, v18, v19, v20, v21, v22, .int .i64 (a : Int), v24, v25, v26, .int .i64 (b : Int), v28, v29, v30, v31, v32, v33, v34, v35, v36, v37, v38, v39, v40, v41, v42, v43, v44, v45, v46, v47, v48, v49, v50, v51, v52, v53, v54, v55, v56, v57, v58, v59, v60, v61], []⟩ W := by
    intro W gA gB gC hb
    refine wpAnyH_ready (rs := [1, 5, 12]) (by kernel_rfl) (by simp) ?_
    refine AllReadyH.cons (o := { dst := some 24, op := Op.makeSlice 37 (Operand.tmp 23) (Operand.tmp 23), type := 37, pos := "law.go:48", after := #[{ on := 0, ground := Ground.data }, { on := 0, ground := Ground.data }], guard := none }) rfl (fun K hK => ?_) (AllReadyH.cons (o := { dst := some 28, op := Op.makeSlice 37 (Operand.tmp 27) (Operand.tmp 27), type := 37, pos := "law.go:48", after := #[{ on := 4, ground := Ground.data }, { on := 4, ground := Ground.data }], guard := none }) rfl (fun K hK => ?_) (AllReadyH.cons (o := { dst := some 5, op := Op.alloc 26, type := 0, pos := "law.go:48", after := #[], guard := none }) rfl (fun K hK => ?_) AllReadyH.nil))
    · go_simp
      refine hK.out _ _ trivial (fun hHeld => ?_)
      clear hK K hHeld
      try simp only [List.setIfInBounds_toArray, List.set_cons_zero, List.set_cons_succ]
      have hq := (Below.refl W.heap.size W).alloc (Nat.le_refl _) (.cells (zc a) 5)
      exact st_100 _ W.heap.size gB gC (hb.trans (hq.mono hb.size)) (new_blk W _)
    · go_simp
      refine hK.out _ _ trivial (fun hHeld => ?_)
      clear hK K hHeld
      try simp only [List.setIfInBounds_toArray, List.set_cons_zero, List.set_cons_succ]
      have hq := (Below.refl W.heap.size W).alloc (Nat.le_refl _) (.cells (zc b) 5)
      exact st_010 _ gA W.heap.size gC (hb.trans (hq.mono hb.size)) (new_blk W _)
    · go_simp
      refine hK.out _ _ trivial (fun hHeld => ?_)
      clear hK K hHeld
      try simp only [List.setIfInBounds_toArray, List.set_cons_zero, List.set_cons_succ]
      have hq := (Below.refl W.heap.size W).alloc (Nat.le_refl _) (.cells #[.int .i64 0, .bool false, .slice none 0 0, .string ⟨#[]⟩, .bool false] 26)
      exact st_001 _ gA gB W.heap.size (hb.trans (hq.mono hb.size)) (new_blk W _) hb.size
  intro W hb
  exact st_000 W 0 0 0 hb
end Go.Proofs.YtfkkhabpnnealaaDoor

