/-
  The two regions of tree.At that append.
-/
import Derived.Test.YtgknigjpdnfkdaaJoin
import Derived.Test.YtgknigjpdnfkdaaIdReg
namespace Go.Proofs.Ytgknigjpdnfkdaa
open Go.RowKit
def opsA : Array Oper := #[{ dst := some 19, op := Op.load 22 (Operand.tmp 7), type := 22, pos := "tree.go:54", after := #[], guard := none },
  { dst := some 20, op := Op.move (Operand.tmp 9), type := 3, pos := "tree.go:54", after := #[], guard := none },
  { dst := some 21, op := Op.slice 22 (Operand.tmp 19) none (some (Operand.tmp 20)) none, type := 22, pos := "tree.go:54", after := #[{ on := 0, ground := Ground.data }, { on := 1, ground := Ground.data }], guard := none },
  { dst := some 22, op := Op.load 24 (Operand.tmp 10), type := 24, pos := "tree.go:54", after := #[], guard := none },
  { dst := some 23, op := Op.buildSlice 22 1 #[(0, Operand.tmp 22)], type := 22, pos := "tree.go:54", after := #[{ on := 3, ground := Ground.data }], guard := none },
  { dst := some 24, op := Op.call { callee := Callee.builtin Builtin.append, args := #[Operand.tmp 21, Operand.tmp 23], argTypes := #[22, 22] }, type := 22, pos := "tree.go:54", after := #[{ on := 2, ground := Ground.data }, { on := 4, ground := Ground.data }], guard := none },
  { dst := none, op := Op.store 22 (Operand.tmp 7) (Operand.tmp 24), type := 0, pos := "tree.go:54", after := #[{ on := 5, ground := Ground.data }, { on := 5, ground := Ground.chain }, { on := 0, ground := Ground.phase }, { on := 1, ground := Ground.phase }, { on := 2, ground := Ground.phase }, { on := 3, ground := Ground.phase }, { on := 4, ground := Ground.phase }, { on := 5, ground := Ground.phase }], guard := none }]
def opsB : Array Oper := #[{ dst := some 35, op := Op.load 22 (Operand.tmp 8), type := 22, pos := "tree.go:56", after := #[], guard := none },
  { dst := some 36, op := Op.slice 22 (Operand.tmp 35) none (some (Operand.const (Value.int IntKind.i64 0))) none, type := 22, pos := "tree.go:56", after := #[{ on := 0, ground := Ground.data }], guard := none },
  { dst := some 37, op := Op.load 22 (Operand.tmp 7), type := 22, pos := "tree.go:56", after := #[], guard := none },
  { dst := some 38, op := Op.call { callee := Callee.builtin Builtin.append, args := #[Operand.tmp 36, Operand.tmp 37], argTypes := #[22, 22] }, type := 22, pos := "tree.go:56", after := #[{ on := 1, ground := Ground.data }, { on := 2, ground := Ground.data }], guard := none },
  { dst := none, op := Op.store 22 (Operand.tmp 8) (Operand.tmp 38), type := 0, pos := "tree.go:56", after := #[{ on := 3, ground := Ground.data }, { on := 3, ground := Ground.chain }, { on := 0, ground := Ground.phase }, { on := 1, ground := Ground.phase }, { on := 2, ground := Ground.phase }, { on := 3, ground := Ground.phase }], guard := none }]
/-- ahead of way = append(way[:deep], x) -/
structure PreA (ob bk n0 d : Nat) (x : El) (l : List Nd) (wv : Value) (W : World) : Prop where
  hbk : W.heap[bk]? = some (.cells (encN x.nd x.v) 24 (0, 0))
  hob : W.heap[ob]? = some (.cells #[wv] 22 (0, 0))
  hx : SlV (Bl n0) W x.v x.nd.kids
  hn0 : n0 ≤ W.heap.size
  no : n0 ≤ ob
  hd : d ≤ l.length
  hj : d ≤ 1000000
  row : RowN n0 (Bl n0) W wv l
  nbk : wv.ownBlock ≠ some bk
  nob : wv.ownBlock ≠ some ob
/-- behind it -/
structure PostA (ob n0 d : Nat) (x : El) (l : List Nd) (wv : Value) (W W' : World) (g cap : Nat) : Prop where
  out : W'.heap[ob]? = some (.cells #[.slice (some ⟨g, 0, none⟩) (d + 1) cap] 22 (0, 0))
  row : RowN n0 (Bl n0) W' (.slice (some ⟨g, 0, none⟩) (d + 1) cap) (l.take d ++ [x.nd])
  keep : Kx (fun b => b = ob ∨ wv.ownBlock = some b) W W'
  at_ : wv.ownBlock = some g ∨ W.heap.size ≤ g
set_option maxRecDepth 100000 in
set_option maxHeartbeats 2000000 in
theorem at_tail (Q : Exit → Act → World → Prop) (t0 t1 t2 t3 t4 t5 t6 t11 t12 t13 t14 t15 t16 t17 t18 t19 t20 t22 t24 t25 t26 t27 t28 t29 t30 t31 t32 t33 t34 t35 t36 t37 t38 t39 t40 : Value) (ob fo bk n0 d : Nat) (x : El) (l : List Nd) (wv : Value) (a2 : Option Addr) (c2 : Nat) (W : World) (hP : PreA ob bk n0 d x l wv W) (hcut : RowN n0 (Bl n0) W (.slice a2 d c2) (l.take d)) (hsame : (Value.slice a2 d c2).ownBlock = wv.ownBlock)
    (hQ : ∀ (t19 t20 t21 t22 t23 t24 : Value) W' g cap, PostA ob n0 d x l wv W W' g cap → Q .normal { tmps := #[t0, t1, t2, t3, t4, t5, t6, .pointer (some ⟨ob, 0, none⟩), .pointer (some ⟨fo, 0, none⟩), .int .i64 d, .pointer (some ⟨bk, 0, none⟩), t11, t12, t13, t14, t15, t16, t17, t18, t19, t20, t21, t22, t23, t24, t25, t26, t27, t28, t29, t30, t31, t32, t33, t34, t35, t36, t37, t38, t39, t40], defers := [] } W')
    (tb : Nat) (wc : World) (hB : Below W.heap.size W wc) (hT : wc.heap[tb]? = some (.cells #[.int .i64 x.nd.kind, .int .i64 x.nd.fr, .int .i64 x.nd.to, .string x.nd.text, .slice x.a x.nd.kids.length x.c] 24 (0, 0))) :
    wpAnyH Try.prog .any opsA Q (SI bk x) 2 #[true, true, true, true, true, false, false] { tmps := #[t0, t1, t2, t3, t4, t5, t6, .pointer (some ⟨ob, 0, none⟩), .pointer (some ⟨fo, 0, none⟩), .int .i64 d, .pointer (some ⟨bk, 0, none⟩), t11, t12, t13, t14, t15, t16, t17, t18, t19, t20, .slice a2 d c2, t22, .slice (some ⟨tb, 0, none⟩) 1 1, t24, t25, t26, t27, t28, t29, t30, t31, t32, t33, t34, t35, t36, t37, t38, t39, t40], defers := [] } wc := by
  obtain ⟨i24, i1, i2, i3, i4⟩ := info24_ex
  have hS : SI bk x wc := (hB.block _ (Array.getElem?_eq_some_iff.1 hP.hbk).1).trans hP.hbk
  obtain ⟨vs, hvl, hown, hks⟩ := hcut.ex
  have hkl : (l.take d).length = d := by have := hP.hd; simp; omega
  obtain ⟨ld, hld⟩ : ∃ y, l.take d = y := ⟨_, rfl⟩
  refine wpAnyH_ready (rs := [5]) (by kernel_rfl) (by simp) ?_
  refine AllReadyH.cons (o := { dst := some 24, op := Op.call { callee := Callee.builtin Builtin.append, args := #[Operand.tmp 21, Operand.tmp 23], argTypes := #[22, 22] }, type := 22, pos := "tree.go:54", after := #[{ on := 2, ground := Ground.data }, { on := 4, ground := Ground.data }], guard := none }) rfl (fun K hK => ?_) AllReadyH.nil
  rw [if_pos (by rfl)]
  refine wp_append_lies _ _ _ _ rfl n0 24 i24 _ 5 64 Try.underlying22 i1 i2 i3 i4 rfl (by omega) (.slice a2 d c2) d (flatV (l.take d) vs) rfl (by rw [hkl] at hown; exact own_kept hown hB) ⟨tb, 0, none⟩ 1 1 [.int .i64 x.nd.kind, .int .i64 x.nd.fr, .int .i64 x.nd.to, .string x.nd.text, .slice x.a x.nd.kids.length x.c] rfl rfl (World.news_of_block hT) (by simp [Value.oneCell']) (by omega) (by have := hP.hj; unfold maxLen; omega) (by have := hP.hj; omega) (by have := hP.hn0; have := hB.size; omega) wc.heap.size rfl ?_
  intro g cap wA hown1 hgrow hat hlt
  rw [hsame] at hgrow hat
  have hkA : Kx (fun b => wv.ownBlock = some b) wc wA := grownBy_kx hgrow
  have hSA : SI bk x wA := hkA.keep _ _ hS hP.nbk
  have hg1 : wv.ownBlock = some g ∨ W.heap.size ≤ g := hat.imp id (fun e => by rw [e]; exact hB.size)
  have hgo : g ≠ ob := by
    rintro rfl
    rcases hg1 with h | h
    · exact hP.nob h
    · have := (Array.getElem?_eq_some_iff.1 hP.hob).1; omega
  have hbo : bk ≠ ob := by
    rintro rfl
    have h1 := hP.hbk
    rw [hP.hob] at h1
    simp at h1
  have hoA : wA.heap[ob]? = some (.cells #[wv] 22 (0, 0)) := hkA.keep _ _ ((hB.block _ (Array.getElem?_eq_some_iff.1 hP.hob).1).trans hP.hob) hP.nob
  have hrow : RowN n0 (Bl n0) wA (.slice (some ⟨g, 0, none⟩) ((l.take d).length + 1) cap) (l.take d ++ [x.nd]) := by
    have hlt2 : ∀ b, (Value.slice a2 d c2).ownBlock = some b → n0 ≤ b := fun b h => (hcut.lt b h).1
    refine RowN.push hvl (W := wc) (v := .slice a2 d c2) (fun i hi => (hks i hi).kept hB) ((hP.hx.kept hB).with (fun b o ob _ h => ⟨h, fun e => by have := hlt2 b e; have : b < n0 := h; omega⟩)) (by rw [hsame]; exact hgrow) (by rw [hsame]; exact hat) (by rw [hkl]; exact hown1)
  rw [hkl] at hrow
  refine hK.out _ _ hSA (fun _ => ?_)
  clear hK K
  simp only [Act.put, List.setIfInBounds_toArray, List.set_cons_zero, List.set_cons_succ]
  have r0 := cell_of hoA 0
  simp only [List.getElem?_toArray, List.getElem?_cons_zero] at r0
  have z0 : wA.frozen? ⟨ob, 0, none⟩ = false := by simp [World.frozen?, hoA]
  refine wpAnyH_ready (rs := [6]) (by kernel_rfl) (by simp) ?_
  refine AllReadyH.cons (o := { dst := none, op := Op.store 22 (Operand.tmp 7) (Operand.tmp 24), type := 0, pos := "tree.go:54", after := #[{ on := 5, ground := Ground.data }, { on := 5, ground := Ground.chain }, { on := 0, ground := Ground.phase }, { on := 1, ground := Ground.phase }, { on := 2, ground := Ground.phase }, { on := 3, ground := Ground.phase }, { on := 4, ground := Ground.phase }, { on := 5, ground := Ground.phase }], guard := none }) rfl (fun K hK => ?_) AllReadyH.nil
  go_simp
  have k8 := kx_set wA ⟨ob, 0, none⟩ (.slice (some ⟨g, 0, none⟩) (d + 1) cap)
  refine hK.out _ _ (k8.keep _ _ hSA hbo) (fun _ => ?_)
  clear hK K
  refine wpAnyH_done (by kernel_rfl) ?_ _
  refine hQ _ _ _ _ _ _ _ g cap ⟨?_, ?_, ?_, hg1⟩
  · have := heap_setCell_same wA ob 0 _ 22 (.slice (some ⟨g, 0, none⟩) (d + 1) cap) hoA
    simpa using this
  · refine hrow.to k8 (fun b h e => ?_) (fun b o ob' _ h e => ?_)
    · have e' : g = b := by simpa [Value.ownBlock] using h
      exact hgo (e'.trans e)
    · have h2 : b < n0 := h
      have h3 : b = ob := e
      have := hP.no
      omega
  · exact ((Kx.of_whole hB).trans hkA).andThen k8 (fun _ _ h => .inr h) (fun _ _ h => .inl h)
set_option maxRecDepth 100000 in
set_option maxHeartbeats 2000000 in
theorem at_r6_some (Q : Exit → Act → World → Prop) (hpn : ∀ c (a : Act) (d : Option Tmp) (v : Value) w, Q (.panic c) (a.put d v) w → Q (.panic c) a w) (t0 t1 t2 t3 t4 t5 t6 t11 t12 t13 t14 t15 t16 t17 t18 t19 t20 t21 t22 t23 t24 t25 t26 t27 t28 t29 t30 t31 t32 t33 t34 t35 t36 t37 t38 t39 t40 : Value) (ob fo bk n0 d : Nat) (x : El) (l : List Nd) (gw cw : Nat) (W : World) (hP : PreA ob bk n0 d x l (.slice (some ⟨gw, 0, none⟩) l.length cw) W) (hdc : (d : Int) ≤ (cw : Int))
    (hQ : ∀ (t19 t20 t21 t22 t23 t24 : Value) W' g cap, PostA ob n0 d x l (.slice (some ⟨gw, 0, none⟩) l.length cw) W W' g cap → Q .normal { tmps := #[t0, t1, t2, t3, t4, t5, t6, .pointer (some ⟨ob, 0, none⟩), .pointer (some ⟨fo, 0, none⟩), .int .i64 d, .pointer (some ⟨bk, 0, none⟩), t11, t12, t13, t14, t15, t16, t17, t18, t19, t20, t21, t22, t23, t24, t25, t26, t27, t28, t29, t30, t31, t32, t33, t34, t35, t36, t37, t38, t39, t40], defers := [] } W') :
    wpAnyH Try.prog .any opsA Q (SI bk x) 7 #[false, false, false, false, false, false, false] { tmps := #[t0, t1, t2, t3, t4, t5, t6, .pointer (some ⟨ob, 0, none⟩), .pointer (some ⟨fo, 0, none⟩), .int .i64 d, .pointer (some ⟨bk, 0, none⟩), t11, t12, t13, t14, t15, t16, t17, t18, t19, t20, t21, t22, t23, t24, t25, t26, t27, t28, t29, t30, t31, t32, t33, t34, t35, t36, t37, t38, t39, t40], defers := [] } W.drew := by
  obtain ⟨w0, hw0⟩ : ∃ y, W.drew = y := ⟨_, rfl⟩
  have hBw0 : Below W.heap.size W w0 := hw0 ▸ below_drew W
  rw [hw0]
  clear hw0
  have hSw0 : SI bk x w0 := (hBw0.block _ (Array.getElem?_eq_some_iff.1 hP.hbk).1).trans hP.hbk
  refine wpAnyH_take (i := 3) (oi := { dst := some 22, op := Op.load 24 (Operand.tmp 10), type := 24, pos := "tree.go:54", after := #[], guard := none }) (v := ?_) rfl (by kernel_rfl) (by kernel_rfl) (by kernel_rfl) (fun _ _ _ h => hpn _ _ _ _ _ h) (Or.inl ⟨by rfl, ?_⟩) (hSw0) ?_
  rotate_left
  · intro w hSw; have q0 := cell_of hSw 0; have q1 := cell_of hSw 1; have q2 := cell_of hSw 2; have q3 := cell_of hSw 3; have q4 := cell_of hSw 4; simp only [encN, El.v, List.getElem?_toArray, List.getElem?_cons_zero, List.getElem?_cons_succ] at q0 q1 q2 q3 q4; clear hSw; (go_simp <;> with_reducible rfl)
  simp only [Act.put, List.setIfInBounds_toArray, List.set_cons_zero, List.set_cons_succ]
  refine wpAnyH_take (i := 1) (oi := { dst := some 20, op := Op.move (Operand.tmp 9), type := 3, pos := "tree.go:54", after := #[], guard := none }) (v := ?_) rfl (by kernel_rfl) (by kernel_rfl) (by kernel_rfl) (fun _ _ _ h => hpn _ _ _ _ _ h) (Or.inl ⟨by rfl, ?_⟩) (hSw0) ?_
  rotate_left
  · intro w hSw; (go_simp <;> with_reducible rfl)
  simp only [Act.put, List.setIfInBounds_toArray, List.set_cons_zero, List.set_cons_succ]
  refine wpAnyH_ready (rs := [0, 4]) (by kernel_rfl) (by simp) ?_
  refine AllReadyH.cons (o := { dst := some 19, op := Op.load 22 (Operand.tmp 7), type := 22, pos := "tree.go:54", after := #[], guard := none }) rfl (fun K hK => ?_) (AllReadyH.cons (o := { dst := some 23, op := Op.buildSlice 22 1 #[(0, Operand.tmp 22)], type := 22, pos := "tree.go:54", after := #[{ on := 3, ground := Ground.data }], guard := none }) rfl (fun K hK => ?_) AllReadyH.nil)
  · have r0 := cell_of ((hBw0.block _ (Array.getElem?_eq_some_iff.1 hP.hob).1).trans hP.hob) 0
    simp only [List.getElem?_toArray, List.getElem?_cons_zero] at r0
    go_simp
    refine hK.out _ _ hSw0 (fun _ => ?_)
    clear hK K r0
    simp only [List.setIfInBounds_toArray, List.set_cons_zero]
    refine wpAnyH_take (i := 2) (oi := { dst := some 21, op := Op.slice 22 (Operand.tmp 19) none (some (Operand.tmp 20)) none, type := 22, pos := "tree.go:54", after := #[{ on := 0, ground := Ground.data }, { on := 1, ground := Ground.data }], guard := none }) (v := ?_) rfl (by kernel_rfl) (by kernel_rfl) (by kernel_rfl) (fun _ _ _ h => hpn _ _ _ _ _ h) (Or.inl ⟨by rfl, ?_⟩) (hSw0) ?_
    rotate_left
    · intro w hSw; (go_simp <;> with_reducible rfl)
    simp only [Act.put, List.setIfInBounds_toArray, List.set_cons_zero, List.set_cons_succ]
    refine wpAnyH_ready (rs := [4]) (by kernel_rfl) (by simp) ?_
    refine AllReadyH.cons (o := { dst := some 23, op := Op.buildSlice 22 1 #[(0, Operand.tmp 22)], type := 22, pos := "tree.go:54", after := #[{ on := 3, ground := Ground.data }], guard := none }) rfl (fun K hK => ?_) AllReadyH.nil
    go_simp
    obtain ⟨w1, hw1⟩ : ∃ y, (w0.alloc (.cells #[.int .i64 x.nd.kind, .int .i64 x.nd.fr, .int .i64 x.nd.to, .string x.nd.text, .slice x.a x.nd.kids.length x.c] 24)) = y := ⟨_, rfl⟩
    have hC : Below w0.heap.size w0 w1 := hw1 ▸ below_alloc _ _
    obtain ⟨tb, htb⟩ : ∃ y, w0.heap.size = y := ⟨_, rfl⟩
    have hTw1 : w1.heap[tb]? = some (.cells #[.int .i64 x.nd.kind, .int .i64 x.nd.fr, .int .i64 x.nd.to, .string x.nd.text, .slice x.a x.nd.kids.length x.c] 24 (0, 0)) := by rw [← hw1, ← htb]; exact heap_alloc_new _ _
    rw [hw1, htb]
    have hBw1 : Below W.heap.size W w1 := bthen hBw0 hC
    have hSw1 : SI bk x w1 := (hBw1.block _ (Array.getElem?_eq_some_iff.1 hP.hbk).1).trans hP.hbk
    clear hw1
    refine hK.out _ _ hSw1 (fun _ => ?_)
    clear hK K hC
    simp only [List.setIfInBounds_toArray, List.set_cons_zero, List.set_cons_succ]
    exact at_tail Q t0 t1 t2 t3 t4 t5 t6 t11 t12 t13 t14 t15 t16 t17 t18 _ _ _ t24 t25 t26 t27 t28 t29 t30 t31 t32 t33 t34 t35 t36 t37 t38 t39 t40 ob fo bk n0 d x l _ _ _ W hP (hP.row.cut d hP.hd (by simp)) rfl hQ tb w1 hBw1 hTw1
  · go_simp
    obtain ⟨w1, hw1⟩ : ∃ y, (w0.alloc (.cells #[.int .i64 x.nd.kind, .int .i64 x.nd.fr, .int .i64 x.nd.to, .string x.nd.text, .slice x.a x.nd.kids.length x.c] 24)) = y := ⟨_, rfl⟩
    have hC : Below w0.heap.size w0 w1 := hw1 ▸ below_alloc _ _
    obtain ⟨tb, htb⟩ : ∃ y, w0.heap.size = y := ⟨_, rfl⟩
    have hTw1 : w1.heap[tb]? = some (.cells #[.int .i64 x.nd.kind, .int .i64 x.nd.fr, .int .i64 x.nd.to, .string x.nd.text, .slice x.a x.nd.kids.length x.c] 24 (0, 0)) := by rw [← hw1, ← htb]; exact heap_alloc_new _ _
    rw [hw1, htb]
    have hBw1 : Below W.heap.size W w1 := bthen hBw0 hC
    have hSw1 : SI bk x w1 := (hBw1.block _ (Array.getElem?_eq_some_iff.1 hP.hbk).1).trans hP.hbk
    clear hw1
    refine hK.out _ _ hSw1 (fun _ => ?_)
    clear hK K hC
    simp only [List.setIfInBounds_toArray, List.set_cons_zero, List.set_cons_succ]
    refine wpAnyH_ready (rs := [0]) (by kernel_rfl) (by simp) ?_
    refine AllReadyH.cons (o := { dst := some 19, op := Op.load 22 (Operand.tmp 7), type := 22, pos := "tree.go:54", after := #[], guard := none }) rfl (fun K hK => ?_) AllReadyH.nil
    have r0 := cell_of ((hBw1.block _ (Array.getElem?_eq_some_iff.1 hP.hob).1).trans hP.hob) 0
    simp only [List.getElem?_toArray, List.getElem?_cons_zero] at r0
    go_simp
    refine hK.out _ _ hSw1 (fun _ => ?_)
    clear hK K r0
    simp only [List.setIfInBounds_toArray, List.set_cons_zero]
    refine wpAnyH_take (i := 2) (oi := { dst := some 21, op := Op.slice 22 (Operand.tmp 19) none (some (Operand.tmp 20)) none, type := 22, pos := "tree.go:54", after := #[{ on := 0, ground := Ground.data }, { on := 1, ground := Ground.data }], guard := none }) (v := ?_) rfl (by kernel_rfl) (by kernel_rfl) (by kernel_rfl) (fun _ _ _ h => hpn _ _ _ _ _ h) (Or.inl ⟨by rfl, ?_⟩) (hSw1) ?_
    rotate_left
    · intro w hSw; (go_simp <;> with_reducible rfl)
    simp only [Act.put, List.setIfInBounds_toArray, List.set_cons_zero, List.set_cons_succ]
    exact at_tail Q t0 t1 t2 t3 t4 t5 t6 t11 t12 t13 t14 t15 t16 t17 t18 _ _ _ t24 t25 t26 t27 t28 t29 t30 t31 t32 t33 t34 t35 t36 t37 t38 t39 t40 ob fo bk n0 d x l _ _ _ W hP (hP.row.cut d hP.hd (by simp)) rfl hQ tb w1 hBw1 hTw1
set_option maxRecDepth 100000 in
set_option maxHeartbeats 2000000 in
theorem at_r6_nil (Q : Exit → Act → World → Prop) (hpn : ∀ c (a : Act) (d : Option Tmp) (v : Value) w, Q (.panic c) (a.put d v) w → Q (.panic c) a w) (t0 t1 t2 t3 t4 t5 t6 t11 t12 t13 t14 t15 t16 t17 t18 t19 t20 t21 t22 t23 t24 t25 t26 t27 t28 t29 t30 t31 t32 t33 t34 t35 t36 t37 t38 t39 t40 : Value) (ob fo bk n0 : Nat) (x : El)  (W : World) (hP : PreA ob bk n0 0 x [] (.slice none 0 0) W)
    (hQ : ∀ (t19 t20 t21 t22 t23 t24 : Value) W' g cap, PostA ob n0 0 x [] (.slice none 0 0) W W' g cap → Q .normal { tmps := #[t0, t1, t2, t3, t4, t5, t6, .pointer (some ⟨ob, 0, none⟩), .pointer (some ⟨fo, 0, none⟩), .int .i64 0, .pointer (some ⟨bk, 0, none⟩), t11, t12, t13, t14, t15, t16, t17, t18, t19, t20, t21, t22, t23, t24, t25, t26, t27, t28, t29, t30, t31, t32, t33, t34, t35, t36, t37, t38, t39, t40], defers := [] } W') :
    wpAnyH Try.prog .any opsA Q (SI bk x) 7 #[false, false, false, false, false, false, false] { tmps := #[t0, t1, t2, t3, t4, t5, t6, .pointer (some ⟨ob, 0, none⟩), .pointer (some ⟨fo, 0, none⟩), .int .i64 0, .pointer (some ⟨bk, 0, none⟩), t11, t12, t13, t14, t15, t16, t17, t18, t19, t20, t21, t22, t23, t24, t25, t26, t27, t28, t29, t30, t31, t32, t33, t34, t35, t36, t37, t38, t39, t40], defers := [] } W.drew := by
  obtain ⟨w0, hw0⟩ : ∃ y, W.drew = y := ⟨_, rfl⟩
  have hBw0 : Below W.heap.size W w0 := hw0 ▸ below_drew W
  rw [hw0]
  clear hw0
  have hSw0 : SI bk x w0 := (hBw0.block _ (Array.getElem?_eq_some_iff.1 hP.hbk).1).trans hP.hbk
  refine wpAnyH_take (i := 3) (oi := { dst := some 22, op := Op.load 24 (Operand.tmp 10), type := 24, pos := "tree.go:54", after := #[], guard := none }) (v := ?_) rfl (by kernel_rfl) (by kernel_rfl) (by kernel_rfl) (fun _ _ _ h => hpn _ _ _ _ _ h) (Or.inl ⟨by rfl, ?_⟩) (hSw0) ?_
  rotate_left
  · intro w hSw; have q0 := cell_of hSw 0; have q1 := cell_of hSw 1; have q2 := cell_of hSw 2; have q3 := cell_of hSw 3; have q4 := cell_of hSw 4; simp only [encN, El.v, List.getElem?_toArray, List.getElem?_cons_zero, List.getElem?_cons_succ] at q0 q1 q2 q3 q4; clear hSw; (go_simp <;> with_reducible rfl)
  simp only [Act.put, List.setIfInBounds_toArray, List.set_cons_zero, List.set_cons_succ]
  refine wpAnyH_take (i := 1) (oi := { dst := some 20, op := Op.move (Operand.tmp 9), type := 3, pos := "tree.go:54", after := #[], guard := none }) (v := ?_) rfl (by kernel_rfl) (by kernel_rfl) (by kernel_rfl) (fun _ _ _ h => hpn _ _ _ _ _ h) (Or.inl ⟨by rfl, ?_⟩) (hSw0) ?_
  rotate_left
  · intro w hSw; (go_simp <;> with_reducible rfl)
  simp only [Act.put, List.setIfInBounds_toArray, List.set_cons_zero, List.set_cons_succ]
  refine wpAnyH_ready (rs := [0, 4]) (by kernel_rfl) (by simp) ?_
  refine AllReadyH.cons (o := { dst := some 19, op := Op.load 22 (Operand.tmp 7), type := 22, pos := "tree.go:54", after := #[], guard := none }) rfl (fun K hK => ?_) (AllReadyH.cons (o := { dst := some 23, op := Op.buildSlice 22 1 #[(0, Operand.tmp 22)], type := 22, pos := "tree.go:54", after := #[{ on := 3, ground := Ground.data }], guard := none }) rfl (fun K hK => ?_) AllReadyH.nil)
  · have r0 := cell_of ((hBw0.block _ (Array.getElem?_eq_some_iff.1 hP.hob).1).trans hP.hob) 0
    simp only [List.getElem?_toArray, List.getElem?_cons_zero] at r0
    go_simp
    refine hK.out _ _ hSw0 (fun _ => ?_)
    clear hK K r0
    simp only [List.setIfInBounds_toArray, List.set_cons_zero]
    refine wpAnyH_take (i := 2) (oi := { dst := some 21, op := Op.slice 22 (Operand.tmp 19) none (some (Operand.tmp 20)) none, type := 22, pos := "tree.go:54", after := #[{ on := 0, ground := Ground.data }, { on := 1, ground := Ground.data }], guard := none }) (v := ?_) rfl (by kernel_rfl) (by kernel_rfl) (by kernel_rfl) (fun _ _ _ h => hpn _ _ _ _ _ h) (Or.inl ⟨by rfl, ?_⟩) (hSw0) ?_
    rotate_left
    · intro w hSw; (go_simp <;> with_reducible rfl)
    simp only [Act.put, List.setIfInBounds_toArray, List.set_cons_zero, List.set_cons_succ]
    refine wpAnyH_ready (rs := [4]) (by kernel_rfl) (by simp) ?_
    refine AllReadyH.cons (o := { dst := some 23, op := Op.buildSlice 22 1 #[(0, Operand.tmp 22)], type := 22, pos := "tree.go:54", after := #[{ on := 3, ground := Ground.data }], guard := none }) rfl (fun K hK => ?_) AllReadyH.nil
    go_simp
    obtain ⟨w1, hw1⟩ : ∃ y, (w0.alloc (.cells #[.int .i64 x.nd.kind, .int .i64 x.nd.fr, .int .i64 x.nd.to, .string x.nd.text, .slice x.a x.nd.kids.length x.c] 24)) = y := ⟨_, rfl⟩
    have hC : Below w0.heap.size w0 w1 := hw1 ▸ below_alloc _ _
    obtain ⟨tb, htb⟩ : ∃ y, w0.heap.size = y := ⟨_, rfl⟩
    have hTw1 : w1.heap[tb]? = some (.cells #[.int .i64 x.nd.kind, .int .i64 x.nd.fr, .int .i64 x.nd.to, .string x.nd.text, .slice x.a x.nd.kids.length x.c] 24 (0, 0)) := by rw [← hw1, ← htb]; exact heap_alloc_new _ _
    rw [hw1, htb]
    have hBw1 : Below W.heap.size W w1 := bthen hBw0 hC
    have hSw1 : SI bk x w1 := (hBw1.block _ (Array.getElem?_eq_some_iff.1 hP.hbk).1).trans hP.hbk
    clear hw1
    refine hK.out _ _ hSw1 (fun _ => ?_)
    clear hK K hC
    simp only [List.setIfInBounds_toArray, List.set_cons_zero, List.set_cons_succ]
    exact at_tail Q t0 t1 t2 t3 t4 t5 t6 t11 t12 t13 t14 t15 t16 t17 t18 _ _ _ t24 t25 t26 t27 t28 t29 t30 t31 t32 t33 t34 t35 t36 t37 t38 t39 t40 ob fo bk n0 0 x [] _ _ _ W hP (RowN.nil _ _ _) rfl hQ tb w1 hBw1 hTw1
  · go_simp
    obtain ⟨w1, hw1⟩ : ∃ y, (w0.alloc (.cells #[.int .i64 x.nd.kind, .int .i64 x.nd.fr, .int .i64 x.nd.to, .string x.nd.text, .slice x.a x.nd.kids.length x.c] 24)) = y := ⟨_, rfl⟩
    have hC : Below w0.heap.size w0 w1 := hw1 ▸ below_alloc _ _
    obtain ⟨tb, htb⟩ : ∃ y, w0.heap.size = y := ⟨_, rfl⟩
    have hTw1 : w1.heap[tb]? = some (.cells #[.int .i64 x.nd.kind, .int .i64 x.nd.fr, .int .i64 x.nd.to, .string x.nd.text, .slice x.a x.nd.kids.length x.c] 24 (0, 0)) := by rw [← hw1, ← htb]; exact heap_alloc_new _ _
    rw [hw1, htb]
    have hBw1 : Below W.heap.size W w1 := bthen hBw0 hC
    have hSw1 : SI bk x w1 := (hBw1.block _ (Array.getElem?_eq_some_iff.1 hP.hbk).1).trans hP.hbk
    clear hw1
    refine hK.out _ _ hSw1 (fun _ => ?_)
    clear hK K hC
    simp only [List.setIfInBounds_toArray, List.set_cons_zero, List.set_cons_succ]
    refine wpAnyH_ready (rs := [0]) (by kernel_rfl) (by simp) ?_
    refine AllReadyH.cons (o := { dst := some 19, op := Op.load 22 (Operand.tmp 7), type := 22, pos := "tree.go:54", after := #[], guard := none }) rfl (fun K hK => ?_) AllReadyH.nil
    have r0 := cell_of ((hBw1.block _ (Array.getElem?_eq_some_iff.1 hP.hob).1).trans hP.hob) 0
    simp only [List.getElem?_toArray, List.getElem?_cons_zero] at r0
    go_simp
    refine hK.out _ _ hSw1 (fun _ => ?_)
    clear hK K r0
    simp only [List.setIfInBounds_toArray, List.set_cons_zero]
    refine wpAnyH_take (i := 2) (oi := { dst := some 21, op := Op.slice 22 (Operand.tmp 19) none (some (Operand.tmp 20)) none, type := 22, pos := "tree.go:54", after := #[{ on := 0, ground := Ground.data }, { on := 1, ground := Ground.data }], guard := none }) (v := ?_) rfl (by kernel_rfl) (by kernel_rfl) (by kernel_rfl) (fun _ _ _ h => hpn _ _ _ _ _ h) (Or.inl ⟨by rfl, ?_⟩) (hSw1) ?_
    rotate_left
    · intro w hSw; (go_simp <;> with_reducible rfl)
    simp only [Act.put, List.setIfInBounds_toArray, List.set_cons_zero, List.set_cons_succ]
    exact at_tail Q t0 t1 t2 t3 t4 t5 t6 t11 t12 t13 t14 t15 t16 t17 t18 _ _ _ t24 t25 t26 t27 t28 t29 t30 t31 t32 t33 t34 t35 t36 t37 t38 t39 t40 ob fo bk n0 0 x [] _ _ _ W hP (RowN.nil _ _ _) rfl hQ tb w1 hBw1 hTw1
/-- ahead of found = append(found[:0], way...) -/
structure PreB (ob fo n0 k : Nat) (l F : List Nd) (gw cw : Nat) (fv : Value) (W : World) : Prop where
  hob : W.heap[ob]? = some (.cells #[.slice (some ⟨gw, 0, none⟩) k cw] 22 (0, 0))
  hfo : W.heap[fo]? = some (.cells #[fv] 22 (0, 0))
  hn0 : n0 ≤ W.heap.size
  nf : n0 ≤ fo
  ne : ob ≠ fo
  hk : l.length = k
  k0 : 0 < k
  k1 : k ≤ 1000000
  row : RowN n0 (Bl n0) W (.slice (some ⟨gw, 0, none⟩) k cw) l
  rowf : RowN n0 (Bl n0) W fv F
  apart : fv.ownBlock ≠ some gw
  nob : fv.ownBlock ≠ some ob
  nfo : fv.ownBlock ≠ some fo
/-- behind it -/
structure PostB (fo n0 k : Nat) (l : List Nd) (fv : Value) (W W' : World) (g cap : Nat) : Prop where
  out : W'.heap[fo]? = some (.cells #[.slice (some ⟨g, 0, none⟩) k cap] 22 (0, 0))
  row : RowN n0 (Bl n0) W' (.slice (some ⟨g, 0, none⟩) k cap) l
  keep : Kx (fun b => b = fo ∨ fv.ownBlock = some b) W W'
  at_ : fv.ownBlock = some g ∨ W.heap.size ≤ g
def SB (ob : Nat) (gw k cw : Nat) : World → Prop := fun w' => w'.heap[ob]? = some (.cells #[.slice (some ⟨gw, 0, none⟩) k cw] 22 (0, 0))
set_option maxRecDepth 100000 in
set_option maxHeartbeats 2000000 in
theorem at_r8_some (Q : Exit → Act → World → Prop) (hpn : ∀ c (a : Act) (d : Option Tmp) (v : Value) w, Q (.panic c) (a.put d v) w → Q (.panic c) a w) (t0 t1 t2 t3 t4 t5 t6 t9 t10 t11 t12 t13 t14 t15 t16 t17 t18 t19 t20 t21 t22 t23 t24 t25 t26 t27 t28 t29 t30 t31 t32 t33 t34 t35 t36 t37 t38 t39 t40 : Value) (ob fo n0 k : Nat) (l F : List Nd) (gw cw : Nat) (gf cf : Nat) (W : World) (hP : PreB ob fo n0 k l F gw cw (Value.slice (some ⟨gf, 0, none⟩) F.length cf) W)
    (hQ : ∀ a' W' g cap, PostB fo n0 k l (Value.slice (some ⟨gf, 0, none⟩) F.length cf) W W' g cap → Q .normal a' W') :
    wpAnyH Try.prog .any opsB Q (SB ob gw k cw) 5 #[false, false, false, false, false] { tmps := #[t0, t1, t2, t3, t4, t5, t6, .pointer (some ⟨ob, 0, none⟩), .pointer (some ⟨fo, 0, none⟩), t9, t10, t11, t12, t13, t14, t15, t16, t17, t18, t19, t20, t21, t22, t23, t24, t25, t26, t27, t28, t29, t30, t31, t32, t33, t34, t35, t36, t37, t38, t39, t40], defers := [] } W.drew := by
  obtain ⟨i24, i1, i2, i3, i4⟩ := info24_ex
  obtain ⟨w0, hw0⟩ : ∃ y, W.drew = y := ⟨_, rfl⟩
  have hB : Below W.heap.size W w0 := hw0 ▸ below_drew W
  rw [hw0]
  clear hw0
  have hS : SB ob gw k cw w0 := (hB.block _ (Array.getElem?_eq_some_iff.1 hP.hob).1).trans hP.hob
  refine wpAnyH_take (i := 2) (oi := { dst := some 37, op := Op.load 22 (Operand.tmp 7), type := 22, pos := "tree.go:56", after := #[], guard := none }) (v := ?_) rfl (by kernel_rfl) (by kernel_rfl) (by kernel_rfl) (fun _ _ _ h => hpn _ _ _ _ _ h) (Or.inl ⟨by rfl, ?_⟩) (hS) ?_
  rotate_left
  · intro w hSw; have q0 := cell_of hSw 0; simp only [List.getElem?_toArray, List.getElem?_cons_zero] at q0; clear hSw; (go_simp <;> with_reducible rfl)
  simp only [Act.put, List.setIfInBounds_toArray, List.set_cons_zero, List.set_cons_succ]
  refine wpAnyH_ready (rs := [0]) (by kernel_rfl) (by simp) ?_
  refine AllReadyH.cons (o := { dst := some 35, op := Op.load 22 (Operand.tmp 8), type := 22, pos := "tree.go:56", after := #[], guard := none }) rfl (fun K hK => ?_) AllReadyH.nil
  have hf0 := (hB.block _ (Array.getElem?_eq_some_iff.1 hP.hfo).1).trans hP.hfo
  have r0 := cell_of hf0 0
  simp only [List.getElem?_toArray, List.getElem?_cons_zero] at r0
  go_simp
  refine hK.out _ _ hS (fun _ => ?_)
  clear hK K r0
  simp only [List.setIfInBounds_toArray, List.set_cons_zero]
  refine wpAnyH_take (i := 1) (oi := { dst := some 36, op := Op.slice 22 (Operand.tmp 35) none (some (Operand.const (Value.int IntKind.i64 0))) none, type := 22, pos := "tree.go:56", after := #[{ on := 0, ground := Ground.data }], guard := none }) (v := ?_) rfl (by kernel_rfl) (by kernel_rfl) (by kernel_rfl) (fun _ _ _ h => hpn _ _ _ _ _ h) (Or.inl ⟨by rfl, ?_⟩) (hS) ?_
  rotate_left
  · intro w hSw; (go_simp <;> with_reducible rfl)
  simp only [Act.put, List.setIfInBounds_toArray, List.set_cons_zero, List.set_cons_succ]
  obtain ⟨vs, hvl, hown, hks⟩ := hP.row.ex
  have hrf := (hP.rowf.cut 0 (Nat.zero_le _) (by simp))
  obtain ⟨xsf, hof⟩ := hrf.own
  have hxs : xsf = [] := List.eq_nil_of_length_eq_zero (by have := hof.1; simpa using this)
  subst hxs
  have hkl := hP.hk
  have hfll : (flatV l vs).length = k * 5 := by rw [flatV_len l vs hvl, hkl]
  rw [hkl] at hown
  have hrl := hrf.lt
  refine wpAnyH_ready (rs := [3]) (by kernel_rfl) (by simp) ?_
  refine AllReadyH.cons (o := { dst := some 38, op := Op.call { callee := Callee.builtin Builtin.append, args := #[Operand.tmp 36, Operand.tmp 37], argTypes := #[22, 22] }, type := 22, pos := "tree.go:56", after := #[{ on := 1, ground := Ground.data }, { on := 2, ground := Ground.data }], guard := none }) rfl (fun K hK => ?_) AllReadyH.nil
  rw [if_pos (by rfl)]
  refine wp_append_lies _ _ _ _ rfl n0 24 i24 _ 5 64 Try.underlying22 i1 i2 i3 i4 rfl (by omega) (.slice (some ⟨gf, 0, none⟩) 0 cf) 0 [] rfl (own_kept hof hB) ⟨gw, 0, none⟩ k cw (flatV l vs) rfl hfll ((own_kept hown hB).cells rfl) (flatV_one l vs hvl (fun i hi => (hks i (hvl ▸ hi)).one)) hP.k0 (by have := hP.k1; unfold maxLen; omega) (by have := hP.k1; omega) (by have := hP.hn0; have := hB.size; omega) w0.heap.size rfl ?_
  intro g cap wA hown1 hgrow hat hlt
  rw [Nat.zero_add] at hown1
  rw [Nat.zero_add]
  rw [List.nil_append] at hown1
  have hkA : Kx (fun b => (Value.slice (some ⟨gf, 0, none⟩) F.length cf).ownBlock = some b) w0 wA := grownBy_kx hgrow
  have hSA : SB ob gw k cw wA := hkA.keep _ _ hS hP.nob
  have hg1 : (Value.slice (some ⟨gf, 0, none⟩) F.length cf).ownBlock = some g ∨ W.heap.size ≤ g := hat.imp id (fun e => by rw [e]; exact hB.size)
  have hgf : g ≠ fo := by
    rintro rfl
    rcases hg1 with h | h
    · exact hP.nfo h
    · have := (Array.getElem?_eq_some_iff.1 hP.hfo).1; omega
  have hfA : wA.heap[fo]? = some (.cells #[(Value.slice (some ⟨gf, 0, none⟩) F.length cf)] 22 (0, 0)) := hkA.keep _ _ hf0 hP.nfo
  have hrow : RowN n0 (Bl n0) wA (.slice (some ⟨g, 0, none⟩) (([] : List Nd).length + l.length) cap) ([] ++ l) := by
    refine RowN.join (vs := []) (vs2 := vs) rfl (W := w0) (v := (.slice (some ⟨gf, 0, none⟩) 0 cf)) (fun i hi => by cases hi) hvl (fun i hi => ?_) hgrow hat (by rw [List.length_nil, Nat.zero_add, hkl]; simpa [flatV] using hown1)
    exact ((hks i hi).kept hB).with (fun b o ob _ h => ⟨h.1, fun e => by have := (hrl b e).1; have : b < n0 := h.1; omega⟩)
  rw [List.length_nil, Nat.zero_add, hkl, List.nil_append] at hrow
  refine hK.out _ _ hSA (fun _ => ?_)
  clear hK K
  simp only [Act.put, List.setIfInBounds_toArray, List.set_cons_zero, List.set_cons_succ]
  have r0 := cell_of hfA 0
  simp only [List.getElem?_toArray, List.getElem?_cons_zero] at r0
  have z0 : wA.frozen? ⟨fo, 0, none⟩ = false := by simp [World.frozen?, hfA]
  refine wpAnyH_ready (rs := [4]) (by kernel_rfl) (by simp) ?_
  refine AllReadyH.cons (o := { dst := none, op := Op.store 22 (Operand.tmp 8) (Operand.tmp 38), type := 0, pos := "tree.go:56", after := #[{ on := 3, ground := Ground.data }, { on := 3, ground := Ground.chain }, { on := 0, ground := Ground.phase }, { on := 1, ground := Ground.phase }, { on := 2, ground := Ground.phase }, { on := 3, ground := Ground.phase }], guard := none }) rfl (fun K hK => ?_) AllReadyH.nil
  go_simp
  have k8 := kx_set wA ⟨fo, 0, none⟩ (.slice (some ⟨g, 0, none⟩) k cap)
  refine hK.out _ _ (k8.keep _ _ hSA hP.ne) (fun _ => ?_)
  clear hK K
  refine wpAnyH_done (by kernel_rfl) ?_ _
  refine hQ _ _ g cap ⟨?_, ?_, ?_, hg1⟩
  · have := heap_setCell_same wA fo 0 _ 22 (.slice (some ⟨g, 0, none⟩) k cap) hfA
    simpa using this
  · refine hrow.to k8 (fun b h e => ?_) (fun b o ob' _ h e => ?_)
    · have e' : g = b := by simpa [Value.ownBlock] using h
      exact hgf (e'.trans e)
    · have h2 : b < n0 := h
      have h3 : b = fo := e
      have := hP.nf
      omega
  · exact ((Kx.of_whole hB).trans hkA).andThen k8 (fun _ _ h => .inr h) (fun _ _ h => .inl h)
set_option maxRecDepth 100000 in
set_option maxHeartbeats 2000000 in
theorem at_r8_nil (Q : Exit → Act → World → Prop) (hpn : ∀ c (a : Act) (d : Option Tmp) (v : Value) w, Q (.panic c) (a.put d v) w → Q (.panic c) a w) (t0 t1 t2 t3 t4 t5 t6 t9 t10 t11 t12 t13 t14 t15 t16 t17 t18 t19 t20 t21 t22 t23 t24 t25 t26 t27 t28 t29 t30 t31 t32 t33 t34 t35 t36 t37 t38 t39 t40 : Value) (ob fo n0 k : Nat) (l F : List Nd) (gw cw : Nat) (W : World) (hP : PreB ob fo n0 k l F gw cw (Value.slice none 0 0) W)
    (hQ : ∀ a' W' g cap, PostB fo n0 k l (Value.slice none 0 0) W W' g cap → Q .normal a' W') :
    wpAnyH Try.prog .any opsB Q (SB ob gw k cw) 5 #[false, false, false, false, false] { tmps := #[t0, t1, t2, t3, t4, t5, t6, .pointer (some ⟨ob, 0, none⟩), .pointer (some ⟨fo, 0, none⟩), t9, t10, t11, t12, t13, t14, t15, t16, t17, t18, t19, t20, t21, t22, t23, t24, t25, t26, t27, t28, t29, t30, t31, t32, t33, t34, t35, t36, t37, t38, t39, t40], defers := [] } W.drew := by
  obtain ⟨i24, i1, i2, i3, i4⟩ := info24_ex
  obtain ⟨w0, hw0⟩ : ∃ y, W.drew = y := ⟨_, rfl⟩
  have hB : Below W.heap.size W w0 := hw0 ▸ below_drew W
  rw [hw0]
  clear hw0
  have hS : SB ob gw k cw w0 := (hB.block _ (Array.getElem?_eq_some_iff.1 hP.hob).1).trans hP.hob
  refine wpAnyH_take (i := 2) (oi := { dst := some 37, op := Op.load 22 (Operand.tmp 7), type := 22, pos := "tree.go:56", after := #[], guard := none }) (v := ?_) rfl (by kernel_rfl) (by kernel_rfl) (by kernel_rfl) (fun _ _ _ h => hpn _ _ _ _ _ h) (Or.inl ⟨by rfl, ?_⟩) (hS) ?_
  rotate_left
  · intro w hSw; have q0 := cell_of hSw 0; simp only [List.getElem?_toArray, List.getElem?_cons_zero] at q0; clear hSw; (go_simp <;> with_reducible rfl)
  simp only [Act.put, List.setIfInBounds_toArray, List.set_cons_zero, List.set_cons_succ]
  refine wpAnyH_ready (rs := [0]) (by kernel_rfl) (by simp) ?_
  refine AllReadyH.cons (o := { dst := some 35, op := Op.load 22 (Operand.tmp 8), type := 22, pos := "tree.go:56", after := #[], guard := none }) rfl (fun K hK => ?_) AllReadyH.nil
  have hf0 := (hB.block _ (Array.getElem?_eq_some_iff.1 hP.hfo).1).trans hP.hfo
  have r0 := cell_of hf0 0
  simp only [List.getElem?_toArray, List.getElem?_cons_zero] at r0
  go_simp
  refine hK.out _ _ hS (fun _ => ?_)
  clear hK K r0
  simp only [List.setIfInBounds_toArray, List.set_cons_zero]
  refine wpAnyH_take (i := 1) (oi := { dst := some 36, op := Op.slice 22 (Operand.tmp 35) none (some (Operand.const (Value.int IntKind.i64 0))) none, type := 22, pos := "tree.go:56", after := #[{ on := 0, ground := Ground.data }], guard := none }) (v := ?_) rfl (by kernel_rfl) (by kernel_rfl) (by kernel_rfl) (fun _ _ _ h => hpn _ _ _ _ _ h) (Or.inl ⟨by rfl, ?_⟩) (hS) ?_
  rotate_left
  · intro w hSw; (go_simp <;> with_reducible rfl)
  simp only [Act.put, List.setIfInBounds_toArray, List.set_cons_zero, List.set_cons_succ]
  obtain ⟨vs, hvl, hown, hks⟩ := hP.row.ex
  have hrf := (RowN.nil n0 (Bl n0) W)
  obtain ⟨xsf, hof⟩ := hrf.own
  have hxs : xsf = [] := List.eq_nil_of_length_eq_zero (by have := hof.1; simpa using this)
  subst hxs
  have hkl := hP.hk
  have hfll : (flatV l vs).length = k * 5 := by rw [flatV_len l vs hvl, hkl]
  rw [hkl] at hown
  have hrl := hrf.lt
  refine wpAnyH_ready (rs := [3]) (by kernel_rfl) (by simp) ?_
  refine AllReadyH.cons (o := { dst := some 38, op := Op.call { callee := Callee.builtin Builtin.append, args := #[Operand.tmp 36, Operand.tmp 37], argTypes := #[22, 22] }, type := 22, pos := "tree.go:56", after := #[{ on := 1, ground := Ground.data }, { on := 2, ground := Ground.data }], guard := none }) rfl (fun K hK => ?_) AllReadyH.nil
  rw [if_pos (by rfl)]
  refine wp_append_lies _ _ _ _ rfl n0 24 i24 _ 5 64 Try.underlying22 i1 i2 i3 i4 rfl (by omega) (.slice none 0 0) 0 [] rfl (own_kept hof hB) ⟨gw, 0, none⟩ k cw (flatV l vs) rfl hfll ((own_kept hown hB).cells rfl) (flatV_one l vs hvl (fun i hi => (hks i (hvl ▸ hi)).one)) hP.k0 (by have := hP.k1; unfold maxLen; omega) (by have := hP.k1; omega) (by have := hP.hn0; have := hB.size; omega) w0.heap.size rfl ?_
  intro g cap wA hown1 hgrow hat hlt
  rw [Nat.zero_add] at hown1
  rw [Nat.zero_add]
  rw [List.nil_append] at hown1
  have hkA : Kx (fun b => (Value.slice none 0 0).ownBlock = some b) w0 wA := grownBy_kx hgrow
  have hSA : SB ob gw k cw wA := hkA.keep _ _ hS hP.nob
  have hg1 : (Value.slice none 0 0).ownBlock = some g ∨ W.heap.size ≤ g := hat.imp id (fun e => by rw [e]; exact hB.size)
  have hgf : g ≠ fo := by
    rintro rfl
    rcases hg1 with h | h
    · exact hP.nfo h
    · have := (Array.getElem?_eq_some_iff.1 hP.hfo).1; omega
  have hfA : wA.heap[fo]? = some (.cells #[(Value.slice none 0 0)] 22 (0, 0)) := hkA.keep _ _ hf0 hP.nfo
  have hrow : RowN n0 (Bl n0) wA (.slice (some ⟨g, 0, none⟩) (([] : List Nd).length + l.length) cap) ([] ++ l) := by
    refine RowN.join (vs := []) (vs2 := vs) rfl (W := w0) (v := (.slice none 0 0)) (fun i hi => by cases hi) hvl (fun i hi => ?_) hgrow hat (by rw [List.length_nil, Nat.zero_add, hkl]; simpa [flatV] using hown1)
    exact ((hks i hi).kept hB).with (fun b o ob _ h => ⟨h.1, fun e => by have := (hrl b e).1; have : b < n0 := h.1; omega⟩)
  rw [List.length_nil, Nat.zero_add, hkl, List.nil_append] at hrow
  refine hK.out _ _ hSA (fun _ => ?_)
  clear hK K
  simp only [Act.put, List.setIfInBounds_toArray, List.set_cons_zero, List.set_cons_succ]
  have r0 := cell_of hfA 0
  simp only [List.getElem?_toArray, List.getElem?_cons_zero] at r0
  have z0 : wA.frozen? ⟨fo, 0, none⟩ = false := by simp [World.frozen?, hfA]
  refine wpAnyH_ready (rs := [4]) (by kernel_rfl) (by simp) ?_
  refine AllReadyH.cons (o := { dst := none, op := Op.store 22 (Operand.tmp 8) (Operand.tmp 38), type := 0, pos := "tree.go:56", after := #[{ on := 3, ground := Ground.data }, { on := 3, ground := Ground.chain }, { on := 0, ground := Ground.phase }, { on := 1, ground := Ground.phase }, { on := 2, ground := Ground.phase }, { on := 3, ground := Ground.phase }], guard := none }) rfl (fun K hK => ?_) AllReadyH.nil
  go_simp
  have k8 := kx_set wA ⟨fo, 0, none⟩ (.slice (some ⟨g, 0, none⟩) k cap)
  refine hK.out _ _ (k8.keep _ _ hSA hP.ne) (fun _ => ?_)
  clear hK K
  refine wpAnyH_done (by kernel_rfl) ?_ _
  refine hQ _ _ g cap ⟨?_, ?_, ?_, hg1⟩
  · have := heap_setCell_same wA fo 0 _ 22 (.slice (some ⟨g, 0, none⟩) k cap) hfA
    simpa using this
  · refine hrow.to k8 (fun b h e => ?_) (fun b o ob' _ h e => ?_)
    · have e' : g = b := by simpa [Value.ownBlock] using h
      exact hgf (e'.trans e)
    · have h2 : b < n0 := h
      have h3 : b = fo := e
      have := hP.nf
      omega
  · exact ((Kx.of_whole hB).trans hkA).andThen k8 (fun _ _ h => .inr h) (fun _ _ h => .inl h)
end Go.Proofs.Ytgknigjpdnfkdaa
