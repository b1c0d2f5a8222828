/-
  The region of tree.Idents that appends.
-/
import Derived.Test.YtgknigjpdnfkdaaSize
import Derived.Test.YtgknigjpdnfkdaaRound
import Derived.Test.YtgknigjpdnfkdaaFresh
namespace Go.Proofs.Ytgknigjpdnfkdaa
open Go.RowKit
def opsI : Array Oper := #[{ dst := some 13, op := Op.load 22 (Operand.tmp 3), type := 22, pos := "tree.go:67", after := #[], guard := none },
  { dst := some 14, op := Op.load 24 (Operand.tmp 5), type := 24, pos := "tree.go:67", after := #[], guard := none },
  { dst := some 15, op := Op.call { callee := Callee.value (Operand.func 34), args := #[Operand.tmp 14], argTypes := #[24] }, type := 24, pos := "tree.go:67", after := #[{ on := 1, ground := Ground.data }], guard := none },
  { dst := some 16, op := Op.call { callee := Callee.builtin Builtin.len, args := #[Operand.tmp 13], argTypes := #[22] }, type := 3, pos := "tree.go:67", after := #[{ on := 0, ground := Ground.data }], guard := none },
  { dst := some 17, op := Op.buildSlice 22 1 #[(0, Operand.const (Value.agg #[Value.int IntKind.i64 0, Value.int IntKind.i64 0, Value.int IntKind.i64 0, Value.string { data := #[] }, Value.slice none 0 0]))], type := 22, pos := "tree.go:67", after := #[], guard := none },
  { dst := some 18, op := Op.call { callee := Callee.builtin Builtin.append, args := #[Operand.tmp 13, Operand.tmp 17], argTypes := #[22, 22] }, type := 22, pos := "tree.go:67", after := #[{ on := 0, ground := Ground.data }, { on := 4, ground := Ground.data }, { on := 2, ground := Ground.chain }, { on := 0, ground := Ground.phase }, { on := 1, ground := Ground.phase }, { on := 2, ground := Ground.phase }, { on := 3, ground := Ground.phase }, { on := 4, ground := Ground.phase }], guard := none },
  { dst := some 19, op := Op.indexAddr 22 (Operand.tmp 18) (Operand.tmp 16), type := 0, pos := "tree.go:67", after := #[{ on := 5, ground := Ground.data }, { on := 3, ground := Ground.data }, { on := 0, ground := Ground.phase }, { on := 1, ground := Ground.phase }, { on := 2, ground := Ground.phase }, { on := 3, ground := Ground.phase }, { on := 4, ground := Ground.phase }, { on := 5, ground := Ground.phase }, { on := 8, ground := Ground.gcOnly Departure.appendInPlace }], guard := none },
  { dst := none, op := Op.store 24 (Operand.tmp 19) (Operand.tmp 15), type := 0, pos := "tree.go:67", after := #[{ on := 6, ground := Ground.data }, { on := 2, ground := Ground.data }, { on := 5, ground := Ground.chain }, { on := 0, ground := Ground.phase }, { on := 1, ground := Ground.phase }, { on := 2, ground := Ground.phase }, { on := 3, ground := Ground.phase }, { on := 4, ground := Ground.phase }, { on := 5, ground := Ground.phase }, { on := 8, ground := Ground.gcOnly Departure.appendInPlace }], guard := none },
  { dst := none, op := Op.store 22 (Operand.tmp 3) (Operand.tmp 18), type := 0, pos := "tree.go:67", after := #[{ on := 5, ground := Ground.data }, { on := 5, ground := Ground.chain }, { on := 7, ground := Ground.textOnly Departure.appendInPlace }, { on := 0, ground := Ground.phase }, { on := 1, ground := Ground.phase }, { on := 2, ground := Ground.phase }, { on := 3, ground := Ground.phase }, { on := 4, ground := Ground.phase }, { on := 5, ground := Ground.phase }, { on := 6, ground := Ground.textOnly Departure.appendInPlace }, { on := 7, ground := Ground.textOnly Departure.appendInPlace }], guard := none }]
def SI (bk : Nat) (x : El) : World → Prop := fun w' => w'.heap[bk]? = some (.cells (encN x.nd x.v) 24 (0, 0))
def actI (t0 t1 t2 t4 t6 t7 t8 t9 t10 t11 t12 t13 t14 t15 t16 t17 t18 t19 t20 : Value) (ob bk : Nat) : Act := { tmps := #[t0, t1, t2, .pointer (some ⟨ob, 0, none⟩), t4, .pointer (some ⟨bk, 0, none⟩), t6, t7, t8, t9, t10, t11, t12, t13, t14, t15, t16, t17, t18, t19, t20], defers := [] }
/-- what is known ahead of the region -/
structure PreI (ob bk n0 j : Nat) (x : El) (l : List Nd) (vs : List Value) (a2 : Option Addr) (c2 : Nat) (W : World) : Prop where
  hbk : W.heap[bk]? = some (.cells (encN x.nd x.v) 24 (0, 0))
  hob : W.heap[ob]? = some (.cells #[.slice a2 j c2] 22 (0, 0))
  hx : SlV (Bl n0) W x.v x.nd.kids
  sz : x.nd.sz ≤ 1000000
  hn0 : n0 ≤ W.heap.size
  hj : j ≤ 1000000
  hl : l.length = j
  hvl : vs.length = l.length
  own : W.ownsRow n0 24 5 (.slice a2 j c2) j (flatV l vs)
  ks : ∀ i (hi : i < l.length), SlV (fun b o ob => Bf n0 b o ob ∧ (Value.slice a2 j c2).ownBlock ≠ some b) W (vs[i]'(hvl ▸ hi)) l[i].kids
  nbk : (Value.slice a2 j c2).ownBlock ≠ some bk
  nob : (Value.slice a2 j c2).ownBlock ≠ some ob
/-- what is known behind it -/
structure PostI (ob n0 j : Nat) (x : El) (l : List Nd) (a2 : Option Addr) (c2 : Nat) (W W' : World) (g cap : Nat) : Prop where
  out : W'.heap[ob]? = some (.cells #[.slice (some ⟨g, 0, none⟩) (j + 1) cap] 22 (0, 0))
  row : RowN n0 (Bf n0) W' (.slice (some ⟨g, 0, none⟩) (j + 1) cap) (l ++ [x.nd])
  keep : Kx (fun b => b = ob ∨ (Value.slice a2 j c2).ownBlock = some b) W W'
  at_ : (Value.slice a2 j c2).ownBlock = some g ∨ W.heap.size ≤ g
theorem list_set5 {α : Type} (ys zs : List α) (k i : Nat) (h : k = ys.length + i) (u : α) : (ys ++ zs).set k u = ys ++ zs.set i u := by
  subst h
  rw [List.set_append_right _ _ (by omega)]
  congr 1
  congr 1
  omega
theorem own_store5 {W : World} {n0 g j cap : Nat} {ys : List Value} {z0 z1 z2 z3 z4 : Value} (h : W.ownsRow n0 24 5 (.slice (some ⟨g, 0, none⟩) (j + 1) cap) (j + 1) (ys ++ [z0, z1, z2, z3, z4])) (u0 u1 u2 u3 u4 : Value) :
    (((((W.setCell ⟨g, j * 5, none⟩ u0).setCell ⟨g, j * 5 + 1, none⟩ u1).setCell ⟨g, j * 5 + 2, none⟩ u2).setCell ⟨g, j * 5 + 3, none⟩ u3).setCell ⟨g, j * 5 + 4, none⟩ u4).ownsRow n0 24 5 (.slice (some ⟨g, 0, none⟩) (j + 1) cap) (j + 1) (ys ++ [u0, u1, u2, u3, u4]) := by
  have hl : ys.length = j * 5 := by have := h.1; simp at this; omega
  have h0 := (h.stored (j * 5) u0).1
  rw [list_set5 ys _ _ 0 (by omega)] at h0
  have h1 := (h0.stored (j * 5 + 1) u1).1
  rw [list_set5 ys _ _ 1 (by omega)] at h1
  have h2 := (h1.stored (j * 5 + 2) u2).1
  rw [list_set5 ys _ _ 2 (by omega)] at h2
  have h3 := (h2.stored (j * 5 + 3) u3).1
  rw [list_set5 ys _ _ 3 (by omega)] at h3
  have h4 := (h3.stored (j * 5 + 4) u4).1
  rw [list_set5 ys _ _ 4 (by omega)] at h4
  exact h4
set_option maxRecDepth 100000 in
set_option maxHeartbeats 2000000 in
theorem idents_tail (Q : Exit → Act → World → Prop) (hpn : ∀ c (a : Act) (d : Option Tmp) (v : Value) w, Q (.panic c) (a.put d v) w → Q (.panic c) a w) (t0 t1 t2 t4 t6 t7 t8 t9 t10 t11 t12 t14 t18 t19 t20 : Value) (ob bk n0 j : Nat) (x : El) (l : List Nd) (vs : List Value) (a2 : Option Addr) (c2 : Nat) (W : World) (hP : PreI ob bk n0 j x l vs a2 c2 W)
    (hQ : ∀ a' W' g cap, PostI ob n0 j x l a2 c2 W W' g cap → Q .normal a' W')
    (a3 : Option Addr) (c3 tb : Nat) (wc : World) (hB : Below W.heap.size W wc) (hT : wc.heap[tb]? = some (.cells #[.int .i64 0, .int .i64 0, .int .i64 0, .string ⟨#[]⟩, .slice none 0 0] 24 (0, 0))) (hF : SlV (Bf W.heap.size) wc (.slice a3 x.nd.kids.length c3) x.nd.kids) :
    wpAnyH Try.prog .any opsI Q (SI bk x) 4 #[true, true, true, true, true, false, false, false, false] (actI t0 t1 t2 t4 t6 t7 t8 t9 t10 t11 t12 (.slice a2 j c2) t14 (.agg #[.int .i64 x.nd.kind, .int .i64 x.nd.fr, .int .i64 x.nd.to, .string x.nd.text, .slice a3 x.nd.kids.length c3]) (.int .i64 j) (.slice (some ⟨tb, 0, none⟩) 1 1) t18 t19 t20 ob bk) wc := by
  unfold actI
  obtain ⟨i24, i1, i2, i3, i4⟩ := info24_ex
  have hS : SI bk x wc := (hB.block _ (Array.getElem?_eq_some_iff.1 hP.hbk).1).trans hP.hbk
  refine wpAnyH_ready (rs := [5]) (by kernel_rfl) (by simp) ?_
  refine AllReadyH.cons (o := { dst := some 18, op := Op.call { callee := Callee.builtin Builtin.append, args := #[Operand.tmp 13, Operand.tmp 17], argTypes := #[22, 22] }, type := 22, pos := "tree.go:67", after := #[{ on := 0, ground := Ground.data }, { on := 4, ground := Ground.data }, { on := 2, ground := Ground.chain }, { on := 0, ground := Ground.phase }, { on := 1, ground := Ground.phase }, { on := 2, ground := Ground.phase }, { on := 3, ground := Ground.phase }, { on := 4, ground := Ground.phase }], guard := none }) rfl (fun K hK => ?_) AllReadyH.nil
  rw [if_pos (by rfl)]
  refine wp_append_lies _ _ _ _ rfl n0 24 i24 _ 5 64 Try.underlying22 i1 i2 i3 i4 rfl (by omega) (.slice a2 j c2) j _ rfl (own_kept hP.own hB) ⟨tb, 0, none⟩ 1 1 [.int .i64 0, .int .i64 0, .int .i64 0, .string ⟨#[]⟩, .slice none 0 0] rfl rfl (World.news_of_block hT) (by simp [Value.oneCell']) (by omega) (by have := hP.hj; unfold maxLen; omega) (by have := hP.hj; omega) (by have := hP.hn0; have := hB.size; omega) wc.heap.size rfl ?_
  intro g cap wA hown hgrow hat hlt
  have hkA : Kx (fun b => (Value.slice a2 j c2).ownBlock = some b) wc wA := grownBy_kx hgrow
  have hSA : SI bk x wA := hkA.keep _ _ hS hP.nbk
  have hg1 : (Value.slice a2 j c2).ownBlock = some g ∨ W.heap.size ≤ g := hat.imp id (fun e => by rw [e]; exact hB.size)
  have hgb : g ≠ bk := by
    rintro rfl
    rcases hg1 with h | h
    · exact hP.nbk h
    · have := (Array.getElem?_eq_some_iff.1 hP.hbk).1; omega
  have hgo : g ≠ ob := by
    rintro rfl
    rcases hg1 with h | h
    · exact hP.nob h
    · have := (Array.getElem?_eq_some_iff.1 hP.hob).1; omega
  have hbo : bk ≠ ob := by
    rintro rfl
    have h1 := hP.hbk
    rw [hP.hob] at h1
    simp at h1
  have hoA : wA.heap[ob]? = some (.cells #[.slice a2 j c2] 22 (0, 0)) := hkA.keep _ _ ((hB.block _ (Array.getElem?_eq_some_iff.1 hP.hob).1).trans hP.hob) hP.nob
  have hfl : (flatV l vs).length = j * 5 := by have := hP.own.1; omega
  have hcz : ∀ i, i < 5 → wA.cell? ⟨g, j * 5 + i, none⟩ = ([.int .i64 0, .int .i64 0, .int .i64 0, .string ⟨#[]⟩, .slice none 0 0])[i]? := fun i hi => by
    rw [hown.cellAt _ (by omega), List.getElem?_append_right (by omega), hfl]
    congr 1
    omega
  have p0 := hcz 0 (by omega)
  have p1 := hcz 1 (by omega)
  have p2 := hcz 2 (by omega)
  have p3 := hcz 3 (by omega)
  have p4 := hcz 4 (by omega)
  simp only [Nat.add_zero, List.getElem?_cons_zero, List.getElem?_cons_succ] at p0 p1 p2 p3 p4
  have f0 := hown.frozenAt (j * 5)
  have f1 := hown.frozenAt (j * 5 + 1)
  have f2 := hown.frozenAt (j * 5 + 2)
  have f3 := hown.frozenAt (j * 5 + 3)
  have f4 := hown.frozenAt (j * 5 + 4)
  have r0 := cell_of hoA 0
  simp only [List.getElem?_toArray, List.getElem?_cons_zero] at r0
  have z0 : wA.frozen? ⟨ob, 0, none⟩ = false := by simp [World.frozen?, hoA]
  have hjl : (j : Int) < (j : Int) + 1 := by omega
  -- what is left: the two stores, in either order
  have fin : ∀ W', W'.heap[ob]? = some (.cells #[.slice (some ⟨g, 0, none⟩) (j + 1) cap] 22 (0, 0)) → W'.ownsRow n0 24 5 (.slice (some ⟨g, 0, none⟩) (j + 1) cap) (j + 1) (flatV l vs ++ [.int .i64 x.nd.kind, .int .i64 x.nd.fr, .int .i64 x.nd.to, .string x.nd.text, .slice a3 x.nd.kids.length c3]) → Kx (fun b => b = ob ∨ b = g) wA W' → PostI ob n0 j x l a2 c2 W W' g cap := by
    intro W' h1 h2 h3
    have hW : Kx (fun b => (Value.slice a2 j c2).ownBlock = some b) W wA := (Kx.of_whole hB).trans hkA
    refine ⟨h1, ?_, ?_, hg1⟩
    · have hl := hP.hl
      subst hl
      have hk3 : Kx (fun b => b = g) wA (W'.setCell ⟨ob, 0, none⟩ (.slice none 0 0)) ∨ True := .inr trivial
      have conv : ∀ {z : Value} {ks : List Nd}, SlV (fun b o ob => Bf n0 b o ob ∧ (Value.slice a2 l.length c2).ownBlock ≠ some b) wc z ks → SlV (fun b o ob => Bf n0 b o ob ∧ (Value.slice (some ⟨g, 0, none⟩) (l.length + 1) cap).ownBlock ≠ some b) W' z ks := fun hz => by
        refine (hz.to' hkA (B' := fun b o ob => Bf n0 b o ob ∧ b ≠ g) (fun b o ob h4 h5 => ⟨h5.1, ?_⟩) (fun b o ob _ h5 e => h5.2 e)).to' h3 (fun b o ob _ h5 => ⟨h5.1, fun e => h5.2 ?_⟩) (fun b o ob' h4 h5 h6 => ?_)
        · rintro rfl
          have hb := (Array.getElem?_eq_some_iff.1 h4).1
          rcases hat with h | h
          · exact h5.2 h
          · omega
        · have : g = b := by simpa [Value.ownBlock] using e
          exact this.symm
        · rcases h6 with rfl | rfl
          · obtain ⟨_, _, cs, rfl⟩ := h5.1
            rw [hoA] at h4
            simp at h4
          · exact h5.2 rfl
      have hl1 : (vs ++ [Value.slice a3 x.nd.kids.length c3]).length = (l ++ [x.nd]).length := by simp [hP.hvl]
      have hll : (l ++ [x.nd]).length = l.length + 1 := by simp
      refine ⟨vs ++ [.slice a3 x.nd.kids.length c3], hl1, ?_, fun i hi => ?_⟩
      · rw [flatV_append l vs hP.hvl, hll]
        simpa [flatV] using h2
      · rcases Nat.lt_or_ge i l.length with h4 | h4
        · have := conv ((hP.ks i h4).kept hB)
          simpa [List.getElem_append, h4, hP.hvl ▸ h4] using this
        · have hi' : i = l.length := by simp at hi; omega
          subst hi'
          have := conv (hF.with (B' := fun b o ob => Bf n0 b o ob ∧ (Value.slice a2 l.length c2).ownBlock ≠ some b) (fun b o ob _ h5 => ⟨Bf.mono hP.hn0 _ _ _ h5, fun e => by have := (hP.own.lt b e).2; have := h5.1; omega⟩))
          simpa [List.getElem_append, hP.hvl] using this
    · refine hW.andThen h3 (fun b _ h => .inr h) (fun b hb h => ?_)
      rcases h with h | h
      · exact .inl h
      · rw [h] at hb ⊢
        rcases hg1 with h4 | h4
        · exact .inr h4
        · omega
  refine hK.out _ _ hSA (fun _ => ?_)
  clear hK K hgrow hat hcz
  simp only [Act.put, List.setIfInBounds_toArray, List.set_cons_zero, List.set_cons_succ]
  refine wpAnyH_take (i := 6) (oi := { dst := some 19, op := Op.indexAddr 22 (Operand.tmp 18) (Operand.tmp 16), type := 0, pos := "tree.go:67", after := #[{ on := 5, ground := Ground.data }, { on := 3, ground := Ground.data }, { on := 0, ground := Ground.phase }, { on := 1, ground := Ground.phase }, { on := 2, ground := Ground.phase }, { on := 3, ground := Ground.phase }, { on := 4, ground := Ground.phase }, { on := 5, ground := Ground.phase }, { on := 8, ground := Ground.gcOnly Departure.appendInPlace }], guard := none }) (v := ?_) rfl (by kernel_rfl) (by kernel_rfl) (by kernel_rfl) (fun _ _ _ h => hpn _ _ _ _ _ h) (Or.inl ⟨by rfl, ?_⟩) (hSA) ?_
  rotate_left
  · intro w hSw; (go_simp <;> with_reducible rfl)
  simp only [Act.put, List.setIfInBounds_toArray, List.set_cons_zero, List.set_cons_succ]
  refine wpAnyH_ready (rs := [7, 8]) (by kernel_rfl) (by simp) ?_
  refine AllReadyH.cons (o := { dst := none, op := Op.store 24 (Operand.tmp 19) (Operand.tmp 15), type := 0, pos := "tree.go:67", after := #[{ on := 6, ground := Ground.data }, { on := 2, ground := Ground.data }, { on := 5, ground := Ground.chain }, { on := 0, ground := Ground.phase }, { on := 1, ground := Ground.phase }, { on := 2, ground := Ground.phase }, { on := 3, ground := Ground.phase }, { on := 4, ground := Ground.phase }, { on := 5, ground := Ground.phase }, { on := 8, ground := Ground.gcOnly Departure.appendInPlace }], guard := none }) rfl (fun K hK => ?_) (AllReadyH.cons (o := { dst := none, op := Op.store 22 (Operand.tmp 3) (Operand.tmp 18), type := 0, pos := "tree.go:67", after := #[{ on := 5, ground := Ground.data }, { on := 5, ground := Ground.chain }, { on := 7, ground := Ground.textOnly Departure.appendInPlace }, { on := 0, ground := Ground.phase }, { on := 1, ground := Ground.phase }, { on := 2, ground := Ground.phase }, { on := 3, ground := Ground.phase }, { on := 4, ground := Ground.phase }, { on := 5, ground := Ground.phase }, { on := 6, ground := Ground.textOnly Departure.appendInPlace }, { on := 7, ground := Ground.textOnly Departure.appendInPlace }], guard := none }) rfl (fun K hK => ?_) AllReadyH.nil)
  · go_simp
    have k7 : Kx (fun b => b = g) wA (((((wA.setCell ⟨g, j * 5, none⟩ (.int .i64 x.nd.kind)).setCell ⟨g, j * 5 + 1, none⟩ (.int .i64 x.nd.fr)).setCell ⟨g, j * 5 + 2, none⟩ (.int .i64 x.nd.to)).setCell ⟨g, j * 5 + 3, none⟩ (.string x.nd.text)).setCell ⟨g, j * 5 + 4, none⟩ (.slice a3 x.nd.kids.length c3)) := (((((Kx.refl _ _).set (by simp only) _).set (by simp only) _).set (by simp only) _).set (by simp only) _).set (by simp only) _
    have own7 := own_store5 hown (.int .i64 x.nd.kind) (.int .i64 x.nd.fr) (.int .i64 x.nd.to) (.string x.nd.text) (.slice a3 x.nd.kids.length c3)
    generalize (((((wA.setCell ⟨g, j * 5, none⟩ (.int .i64 x.nd.kind)).setCell ⟨g, j * 5 + 1, none⟩ (.int .i64 x.nd.fr)).setCell ⟨g, j * 5 + 2, none⟩ (.int .i64 x.nd.to)).setCell ⟨g, j * 5 + 3, none⟩ (.string x.nd.text)).setCell ⟨g, j * 5 + 4, none⟩ (.slice a3 x.nd.kids.length c3)) = w7 at *
    have hS7 : SI bk x w7 := k7.keep _ _ hSA (fun e => hgb e.symm)
    have ho7 := k7.keep _ _ hoA (fun e => hgo e.symm)
    refine hK.out _ _ hS7 (fun _ => ?_)
    clear hK K p0 p1 p2 p3 p4 f0 f1 f2 f3 f4 r0 z0
    simp only [List.setIfInBounds_toArray, List.set_cons_zero, List.set_cons_succ]
    have r0 := cell_of ho7 0
    simp only [List.getElem?_toArray, List.getElem?_cons_zero] at r0
    have z0 : w7.frozen? ⟨ob, 0, none⟩ = false := by simp [World.frozen?, ho7]
    refine wpAnyH_ready (rs := [8]) (by kernel_rfl) (by simp) ?_
    refine AllReadyH.cons (o := { dst := none, op := Op.store 22 (Operand.tmp 3) (Operand.tmp 18), type := 0, pos := "tree.go:67", after := #[{ on := 5, ground := Ground.data }, { on := 5, ground := Ground.chain }, { on := 7, ground := Ground.textOnly Departure.appendInPlace }, { on := 0, ground := Ground.phase }, { on := 1, ground := Ground.phase }, { on := 2, ground := Ground.phase }, { on := 3, ground := Ground.phase }, { on := 4, ground := Ground.phase }, { on := 5, ground := Ground.phase }, { on := 6, ground := Ground.textOnly Departure.appendInPlace }, { on := 7, ground := Ground.textOnly Departure.appendInPlace }], guard := none }) rfl (fun K hK => ?_) AllReadyH.nil
    go_simp
    have k8 := kx_set w7 ⟨ob, 0, none⟩ (.slice (some ⟨g, 0, none⟩) (j + 1) cap)
    refine hK.out _ _ (k8.keep _ _ hS7 hbo) (fun _ => ?_)
    clear hK K
    refine wpAnyH_done (by kernel_rfl) ?_ _
    refine hQ _ _ g cap (fin _ ?_ ?_ (k7.andThen k8 (fun _ _ e => .inr e) (fun _ _ e => .inl e)))
    · have := heap_setCell_same w7 ob 0 _ 22 (.slice (some ⟨g, 0, none⟩) (j + 1) cap) ho7
      simpa using this
    · exact own7.kept (kx_grownBy (row := some ob) (k8.mono (fun b _ e => by rw [e]))) (.inr (by simp [Value.ownBlock]; exact hgo))
  · go_simp
    have k8 := kx_set wA ⟨ob, 0, none⟩ (.slice (some ⟨g, 0, none⟩) (j + 1) cap)
    have ho8 : (wA.setCell ⟨ob, 0, none⟩ (.slice (some ⟨g, 0, none⟩) (j + 1) cap)).heap[ob]? = some (.cells #[.slice (some ⟨g, 0, none⟩) (j + 1) cap] 22 (0, 0)) := by
      have := heap_setCell_same wA ob 0 _ 22 (.slice (some ⟨g, 0, none⟩) (j + 1) cap) hoA
      simpa using this
    have own8 := hown.kept (kx_grownBy (row := some ob) (k8.mono (fun b _ e => by rw [e]))) (.inr (by simp [Value.ownBlock]; exact hgo))
    generalize (wA.setCell ⟨ob, 0, none⟩ (.slice (some ⟨g, 0, none⟩) (j + 1) cap)) = w8 at *
    have hS8 : SI bk x w8 := k8.keep _ _ hSA hbo
    refine hK.out _ _ hS8 (fun _ => ?_)
    clear hK K r0 z0 f0 f1 f2 f3 f4
    simp only [List.setIfInBounds_toArray, List.set_cons_zero, List.set_cons_succ]
    replace p0 := k8.cell p0 hgo
    replace p1 := k8.cell p1 hgo
    replace p2 := k8.cell p2 hgo
    replace p3 := k8.cell p3 hgo
    replace p4 := k8.cell p4 hgo
    have f0 := own8.frozenAt (j * 5)
    have f1 := own8.frozenAt (j * 5 + 1)
    have f2 := own8.frozenAt (j * 5 + 2)
    have f3 := own8.frozenAt (j * 5 + 3)
    have f4 := own8.frozenAt (j * 5 + 4)
    refine wpAnyH_ready (rs := [7]) (by kernel_rfl) (by simp) ?_
    refine AllReadyH.cons (o := { dst := none, op := Op.store 24 (Operand.tmp 19) (Operand.tmp 15), type := 0, pos := "tree.go:67", after := #[{ on := 6, ground := Ground.data }, { on := 2, ground := Ground.data }, { on := 5, ground := Ground.chain }, { on := 0, ground := Ground.phase }, { on := 1, ground := Ground.phase }, { on := 2, ground := Ground.phase }, { on := 3, ground := Ground.phase }, { on := 4, ground := Ground.phase }, { on := 5, ground := Ground.phase }, { on := 8, ground := Ground.gcOnly Departure.appendInPlace }], guard := none }) rfl (fun K hK => ?_) AllReadyH.nil
    go_simp
    have k7 : Kx (fun b => b = g) w8 (((((w8.setCell ⟨g, j * 5, none⟩ (.int .i64 x.nd.kind)).setCell ⟨g, j * 5 + 1, none⟩ (.int .i64 x.nd.fr)).setCell ⟨g, j * 5 + 2, none⟩ (.int .i64 x.nd.to)).setCell ⟨g, j * 5 + 3, none⟩ (.string x.nd.text)).setCell ⟨g, j * 5 + 4, none⟩ (.slice a3 x.nd.kids.length c3)) := (((((Kx.refl _ _).set (by simp only) _).set (by simp only) _).set (by simp only) _).set (by simp only) _).set (by simp only) _
    have own7 := own_store5 own8 (.int .i64 x.nd.kind) (.int .i64 x.nd.fr) (.int .i64 x.nd.to) (.string x.nd.text) (.slice a3 x.nd.kids.length c3)
    generalize (((((w8.setCell ⟨g, j * 5, none⟩ (.int .i64 x.nd.kind)).setCell ⟨g, j * 5 + 1, none⟩ (.int .i64 x.nd.fr)).setCell ⟨g, j * 5 + 2, none⟩ (.int .i64 x.nd.to)).setCell ⟨g, j * 5 + 3, none⟩ (.string x.nd.text)).setCell ⟨g, j * 5 + 4, none⟩ (.slice a3 x.nd.kids.length c3)) = w7 at *
    refine hK.out _ _ (k7.keep _ _ hS8 (fun e => hgb e.symm)) (fun _ => ?_)
    clear hK K
    refine wpAnyH_done (by kernel_rfl) ?_ _
    exact hQ _ _ g cap (fin _ (k7.keep _ _ ho8 (fun e => hgo e.symm)) own7 (k8.andThen k7 (fun _ _ e => .inl e) (fun _ _ e => .inr e)))
set_option maxRecDepth 100000 in
set_option maxHeartbeats 2000000 in
theorem idents_region (Q : Exit → Act → World → Prop) (hpn : ∀ c (a : Act) (d : Option Tmp) (v : Value) w, Q (.panic c) (a.put d v) w → Q (.panic c) a w) (t0 t1 t2 t4 t6 t7 t8 t9 t10 t11 t12 t13 t14 t15 t16 t17 t18 t19 t20 : Value) (ob bk n0 j : Nat) (x : El) (l : List Nd) (vs : List Value) (a2 : Option Addr) (c2 : Nat) (W : World) (hP : PreI ob bk n0 j x l vs a2 c2 W)
    (hQ : ∀ a' W' g cap, PostI ob n0 j x l a2 c2 W W' g cap → Q .normal a' W') :
    wpAnyH Try.prog .any opsI Q (SI bk x) 9 #[false, false, false, false, false, false, false, false, false] (actI t0 t1 t2 t4 t6 t7 t8 t9 t10 t11 t12 t13 t14 t15 t16 t17 t18 t19 t20 ob bk) W.drew := by
  unfold actI
  obtain ⟨w0, hw0⟩ : ∃ y, W.drew = y := ⟨_, rfl⟩
  have hBw0 : Below W.heap.size W w0 := hw0 ▸ below_drew W
  rw [hw0]
  clear hw0
  have hSw0 : SI bk x w0 := (hBw0.block _ (Array.getElem?_eq_some_iff.1 hP.hbk).1).trans hP.hbk
  refine wpAnyH_take (i := 1) (oi := { dst := some 14, op := Op.load 24 (Operand.tmp 5), type := 24, pos := "tree.go:67", after := #[], guard := none }) (v := ?_) rfl (by kernel_rfl) (by kernel_rfl) (by kernel_rfl) (fun _ _ _ h => hpn _ _ _ _ _ h) (Or.inl ⟨by rfl, ?_⟩) (hSw0) ?_
  rotate_left
  · intro w hSw; have q0 := cell_of hSw 0; have q1 := cell_of hSw 1; have q2 := cell_of hSw 2; have q3 := cell_of hSw 3; have q4 := cell_of hSw 4; simp only [encN, El.v, List.getElem?_toArray, List.getElem?_cons_zero, List.getElem?_cons_succ] at q0 q1 q2 q3 q4; clear hSw; (go_simp <;> with_reducible rfl)
  simp only [Act.put, List.setIfInBounds_toArray, List.set_cons_zero, List.set_cons_succ]
  refine wpAnyH_ready (rs := [0, 2, 4]) (by kernel_rfl) (by simp) ?_
  refine (AllReadyH.cons (o := { dst := some 13, op := Op.load 22 (Operand.tmp 3), type := 22, pos := "tree.go:67", after := #[], guard := none }) rfl (fun K hK => ?_) (AllReadyH.cons (o := { dst := some 15, op := Op.call { callee := Callee.value (Operand.func 34), args := #[Operand.tmp 14], argTypes := #[24] }, type := 24, pos := "tree.go:67", after := #[{ on := 1, ground := Ground.data }], guard := none }) rfl (fun K hK => ?_) (AllReadyH.cons (o := { dst := some 17, op := Op.buildSlice 22 1 #[(0, Operand.const (Value.agg #[Value.int IntKind.i64 0, Value.int IntKind.i64 0, Value.int IntKind.i64 0, Value.string { data := #[] }, Value.slice none 0 0]))], type := 22, pos := "tree.go:67", after := #[], guard := none }) rfl (fun K hK => ?_) AllReadyH.nil)))
  · have r0 := cell_of ((hBw0.block _ (Array.getElem?_eq_some_iff.1 hP.hob).1).trans hP.hob) 0
    simp only [List.getElem?_toArray, List.getElem?_cons_zero] at r0
    go_simp
    refine hK.out _ _ hSw0 (fun _ => ?_)
    clear hK K r0
    simp only [List.setIfInBounds_toArray, List.set_cons_zero]
    refine wpAnyH_take (i := 3) (oi := { dst := some 16, op := Op.call { callee := Callee.builtin Builtin.len, args := #[Operand.tmp 13], argTypes := #[22] }, type := 3, pos := "tree.go:67", after := #[{ on := 0, ground := Ground.data }], guard := none }) (v := ?_) rfl (by kernel_rfl) (by kernel_rfl) (by kernel_rfl) (fun _ _ _ h => hpn _ _ _ _ _ h) (Or.inl ⟨by rfl, ?_⟩) (hSw0) ?_
    rotate_left
    · intro w hSw; (go_simp <;> with_reducible rfl)
    simp only [Act.put, List.setIfInBounds_toArray, List.set_cons_zero, List.set_cons_succ]
    refine wpAnyH_ready (rs := [2, 4]) (by kernel_rfl) (by simp) ?_
    refine (AllReadyH.cons (o := { dst := some 15, op := Op.call { callee := Callee.value (Operand.func 34), args := #[Operand.tmp 14], argTypes := #[24] }, type := 24, pos := "tree.go:67", after := #[{ on := 1, ground := Ground.data }], guard := none }) rfl (fun K hK => ?_) (AllReadyH.cons (o := { dst := some 17, op := Op.buildSlice 22 1 #[(0, Operand.const (Value.agg #[Value.int IntKind.i64 0, Value.int IntKind.i64 0, Value.int IntKind.i64 0, Value.string { data := #[] }, Value.slice none 0 0]))], type := 22, pos := "tree.go:67", after := #[], guard := none }) rfl (fun K hK => ?_) AllReadyH.nil))
    · have FC := fresh_any x.nd hP.sz w0 x.v (Bl n0) (hP.hx.kept hBw0)
      simp only [aggN, encN, El.v] at FC
      go_simp
      refine FC.mono ?_
      clear FC
      rintro e w1 ⟨a3, c3, rfl, hFw1, hC⟩
      go_wp2_with fail
      have hBw1 : Below W.heap.size W w1 := bthen hBw0 hC
      have hSw1 : SI bk x w1 := (hBw1.block _ (Array.getElem?_eq_some_iff.1 hP.hbk).1).trans hP.hbk
      replace hFw1 := hFw1.with (fun b o ob _ h => Bf.mono hBw0.size b o ob h)
      refine hK.out _ _ hSw1 (fun _ => ?_)
      clear hK K hC
      simp only [List.setIfInBounds_toArray, List.set_cons_zero, List.set_cons_succ]
      refine wpAnyH_ready (rs := [4]) (by kernel_rfl) (by simp) ?_
      refine (AllReadyH.cons (o := { dst := some 17, op := Op.buildSlice 22 1 #[(0, Operand.const (Value.agg #[Value.int IntKind.i64 0, Value.int IntKind.i64 0, Value.int IntKind.i64 0, Value.string { data := #[] }, Value.slice none 0 0]))], type := 22, pos := "tree.go:67", after := #[], guard := none }) rfl (fun K hK => ?_) AllReadyH.nil)
      · go_simp
        obtain ⟨w2, hw2⟩ : ∃ y, (w1.alloc (.cells #[.int .i64 0, .int .i64 0, .int .i64 0, .string ⟨#[]⟩, .slice none 0 0] 24)) = y := ⟨_, rfl⟩
        have hC : Below w1.heap.size w1 w2 := hw2 ▸ below_alloc _ _
        obtain ⟨tb, htb⟩ : ∃ y, w1.heap.size = y := ⟨_, rfl⟩
        have hTw2 : w2.heap[tb]? = some (.cells #[.int .i64 0, .int .i64 0, .int .i64 0, .string ⟨#[]⟩, .slice none 0 0] 24 (0, 0)) := by rw [← hw2, ← htb]; exact heap_alloc_new _ _
        rw [hw2, htb]
        have hBw2 : Below W.heap.size W w2 := bthen hBw1 hC
        have hSw2 : SI bk x w2 := (hBw2.block _ (Array.getElem?_eq_some_iff.1 hP.hbk).1).trans hP.hbk
        have hFw2 := hFw1.kept hC
        clear hw2
        refine hK.out _ _ hSw2 (fun _ => ?_)
        clear hK K hC
        simp only [List.setIfInBounds_toArray, List.set_cons_zero, List.set_cons_succ]
        exact idents_tail Q hpn t0 t1 t2 t4 t6 t7 t8 t9 t10 t11 t12 _ t18 t19 t20 ob bk n0 j x l vs a2 c2 W hP hQ a3 c3 tb w2 hBw2 hTw2 hFw2
    · go_simp
      obtain ⟨w1, hw1⟩ : ∃ y, (w0.alloc (.cells #[.int .i64 0, .int .i64 0, .int .i64 0, .string ⟨#[]⟩, .slice none 0 0] 24)) = y := ⟨_, rfl⟩
      have hC : Below w0.heap.size w0 w1 := hw1 ▸ below_alloc _ _
      obtain ⟨tb, htb⟩ : ∃ y, w0.heap.size = y := ⟨_, rfl⟩
      have hTw1 : w1.heap[tb]? = some (.cells #[.int .i64 0, .int .i64 0, .int .i64 0, .string ⟨#[]⟩, .slice none 0 0] 24 (0, 0)) := by rw [← hw1, ← htb]; exact heap_alloc_new _ _
      rw [hw1, htb]
      have hBw1 : Below W.heap.size W w1 := bthen hBw0 hC
      have hSw1 : SI bk x w1 := (hBw1.block _ (Array.getElem?_eq_some_iff.1 hP.hbk).1).trans hP.hbk
      clear hw1
      refine hK.out _ _ hSw1 (fun _ => ?_)
      clear hK K hC
      simp only [List.setIfInBounds_toArray, List.set_cons_zero, List.set_cons_succ]
      refine wpAnyH_ready (rs := [2]) (by kernel_rfl) (by simp) ?_
      refine (AllReadyH.cons (o := { dst := some 15, op := Op.call { callee := Callee.value (Operand.func 34), args := #[Operand.tmp 14], argTypes := #[24] }, type := 24, pos := "tree.go:67", after := #[{ on := 1, ground := Ground.data }], guard := none }) rfl (fun K hK => ?_) AllReadyH.nil)
      · have FC := fresh_any x.nd hP.sz w1 x.v (Bl n0) (hP.hx.kept hBw1)
        simp only [aggN, encN, El.v] at FC
        go_simp
        refine FC.mono ?_
        clear FC
        rintro e w2 ⟨a3, c3, rfl, hFw2, hC⟩
        go_wp2_with fail
        have hBw2 : Below W.heap.size W w2 := bthen hBw1 hC
        have hSw2 : SI bk x w2 := (hBw2.block _ (Array.getElem?_eq_some_iff.1 hP.hbk).1).trans hP.hbk
        replace hFw2 := hFw2.with (fun b o ob _ h => Bf.mono hBw1.size b o ob h)
        have hTw2 := (hC.block _ (Array.getElem?_eq_some_iff.1 hTw1).1).trans hTw1
        refine hK.out _ _ hSw2 (fun _ => ?_)
        clear hK K hC
        simp only [List.setIfInBounds_toArray, List.set_cons_zero, List.set_cons_succ]
        exact idents_tail Q hpn t0 t1 t2 t4 t6 t7 t8 t9 t10 t11 t12 _ t18 t19 t20 ob bk n0 j x l vs a2 c2 W hP hQ a3 c3 tb w2 hBw2 hTw2 hFw2
  · have FC := fresh_any x.nd hP.sz w0 x.v (Bl n0) (hP.hx.kept hBw0)
    simp only [aggN, encN, El.v] at FC
    go_simp
    refine FC.mono ?_
    clear FC
    rintro e w1 ⟨a3, c3, rfl, hFw1, hC⟩
    go_wp2_with fail
    have hBw1 : Below W.heap.size W w1 := bthen hBw0 hC
    have hSw1 : SI bk x w1 := (hBw1.block _ (Array.getElem?_eq_some_iff.1 hP.hbk).1).trans hP.hbk
    replace hFw1 := hFw1.with (fun b o ob _ h => Bf.mono hBw0.size b o ob h)
    refine hK.out _ _ hSw1 (fun _ => ?_)
    clear hK K hC
    simp only [List.setIfInBounds_toArray, List.set_cons_zero, List.set_cons_succ]
    refine wpAnyH_ready (rs := [0, 4]) (by kernel_rfl) (by simp) ?_
    refine (AllReadyH.cons (o := { dst := some 13, op := Op.load 22 (Operand.tmp 3), type := 22, pos := "tree.go:67", after := #[], guard := none }) rfl (fun K hK => ?_) (AllReadyH.cons (o := { dst := some 17, op := Op.buildSlice 22 1 #[(0, Operand.const (Value.agg #[Value.int IntKind.i64 0, Value.int IntKind.i64 0, Value.int IntKind.i64 0, Value.string { data := #[] }, Value.slice none 0 0]))], type := 22, pos := "tree.go:67", after := #[], guard := none }) rfl (fun K hK => ?_) AllReadyH.nil))
    · have r0 := cell_of ((hBw1.block _ (Array.getElem?_eq_some_iff.1 hP.hob).1).trans hP.hob) 0
      simp only [List.getElem?_toArray, List.getElem?_cons_zero] at r0
      go_simp
      refine hK.out _ _ hSw1 (fun _ => ?_)
      clear hK K r0
      simp only [List.setIfInBounds_toArray, List.set_cons_zero]
      refine wpAnyH_take (i := 3) (oi := { dst := some 16, op := Op.call { callee := Callee.builtin Builtin.len, args := #[Operand.tmp 13], argTypes := #[22] }, type := 3, pos := "tree.go:67", after := #[{ on := 0, ground := Ground.data }], guard := none }) (v := ?_) rfl (by kernel_rfl) (by kernel_rfl) (by kernel_rfl) (fun _ _ _ h => hpn _ _ _ _ _ h) (Or.inl ⟨by rfl, ?_⟩) (hSw1) ?_
      rotate_left
      · intro w hSw; (go_simp <;> with_reducible rfl)
      simp only [Act.put, List.setIfInBounds_toArray, List.set_cons_zero, List.set_cons_succ]
      refine wpAnyH_ready (rs := [4]) (by kernel_rfl) (by simp) ?_
      refine (AllReadyH.cons (o := { dst := some 17, op := Op.buildSlice 22 1 #[(0, Operand.const (Value.agg #[Value.int IntKind.i64 0, Value.int IntKind.i64 0, Value.int IntKind.i64 0, Value.string { data := #[] }, Value.slice none 0 0]))], type := 22, pos := "tree.go:67", after := #[], guard := none }) rfl (fun K hK => ?_) AllReadyH.nil)
      · go_simp
        obtain ⟨w2, hw2⟩ : ∃ y, (w1.alloc (.cells #[.int .i64 0, .int .i64 0, .int .i64 0, .string ⟨#[]⟩, .slice none 0 0] 24)) = y := ⟨_, rfl⟩
        have hC : Below w1.heap.size w1 w2 := hw2 ▸ below_alloc _ _
        obtain ⟨tb, htb⟩ : ∃ y, w1.heap.size = y := ⟨_, rfl⟩
        have hTw2 : w2.heap[tb]? = some (.cells #[.int .i64 0, .int .i64 0, .int .i64 0, .string ⟨#[]⟩, .slice none 0 0] 24 (0, 0)) := by rw [← hw2, ← htb]; exact heap_alloc_new _ _
        rw [hw2, htb]
        have hBw2 : Below W.heap.size W w2 := bthen hBw1 hC
        have hSw2 : SI bk x w2 := (hBw2.block _ (Array.getElem?_eq_some_iff.1 hP.hbk).1).trans hP.hbk
        have hFw2 := hFw1.kept hC
        clear hw2
        refine hK.out _ _ hSw2 (fun _ => ?_)
        clear hK K hC
        simp only [List.setIfInBounds_toArray, List.set_cons_zero, List.set_cons_succ]
        exact idents_tail Q hpn t0 t1 t2 t4 t6 t7 t8 t9 t10 t11 t12 _ t18 t19 t20 ob bk n0 j x l vs a2 c2 W hP hQ a3 c3 tb w2 hBw2 hTw2 hFw2
    · go_simp
      obtain ⟨w2, hw2⟩ : ∃ y, (w1.alloc (.cells #[.int .i64 0, .int .i64 0, .int .i64 0, .string ⟨#[]⟩, .slice none 0 0] 24)) = y := ⟨_, rfl⟩
      have hC : Below w1.heap.size w1 w2 := hw2 ▸ below_alloc _ _
      obtain ⟨tb, htb⟩ : ∃ y, w1.heap.size = y := ⟨_, rfl⟩
      have hTw2 : w2.heap[tb]? = some (.cells #[.int .i64 0, .int .i64 0, .int .i64 0, .string ⟨#[]⟩, .slice none 0 0] 24 (0, 0)) := by rw [← hw2, ← htb]; exact heap_alloc_new _ _
      rw [hw2, htb]
      have hBw2 : Below W.heap.size W w2 := bthen hBw1 hC
      have hSw2 : SI bk x w2 := (hBw2.block _ (Array.getElem?_eq_some_iff.1 hP.hbk).1).trans hP.hbk
      have hFw2 := hFw1.kept hC
      clear hw2
      refine hK.out _ _ hSw2 (fun _ => ?_)
      clear hK K hC
      simp only [List.setIfInBounds_toArray, List.set_cons_zero, List.set_cons_succ]
      refine wpAnyH_ready (rs := [0]) (by kernel_rfl) (by simp) ?_
      refine (AllReadyH.cons (o := { dst := some 13, op := Op.load 22 (Operand.tmp 3), type := 22, pos := "tree.go:67", after := #[], guard := none }) rfl (fun K hK => ?_) AllReadyH.nil)
      · have r0 := cell_of ((hBw2.block _ (Array.getElem?_eq_some_iff.1 hP.hob).1).trans hP.hob) 0
        simp only [List.getElem?_toArray, List.getElem?_cons_zero] at r0
        go_simp
        refine hK.out _ _ hSw2 (fun _ => ?_)
        clear hK K r0
        simp only [List.setIfInBounds_toArray, List.set_cons_zero]
        refine wpAnyH_take (i := 3) (oi := { dst := some 16, op := Op.call { callee := Callee.builtin Builtin.len, args := #[Operand.tmp 13], argTypes := #[22] }, type := 3, pos := "tree.go:67", after := #[{ on := 0, ground := Ground.data }], guard := none }) (v := ?_) rfl (by kernel_rfl) (by kernel_rfl) (by kernel_rfl) (fun _ _ _ h => hpn _ _ _ _ _ h) (Or.inl ⟨by rfl, ?_⟩) (hSw2) ?_
        rotate_left
        · intro w hSw; (go_simp <;> with_reducible rfl)
        simp only [Act.put, List.setIfInBounds_toArray, List.set_cons_zero, List.set_cons_succ]
        exact idents_tail Q hpn t0 t1 t2 t4 t6 t7 t8 t9 t10 t11 t12 _ t18 t19 t20 ob bk n0 j x l vs a2 c2 W hP hQ a3 c3 tb w2 hBw2 hTw2 hFw2
  · go_simp
    obtain ⟨w1, hw1⟩ : ∃ y, (w0.alloc (.cells #[.int .i64 0, .int .i64 0, .int .i64 0, .string ⟨#[]⟩, .slice none 0 0] 24)) = y := ⟨_, rfl⟩
    have hC : Below w0.heap.size w0 w1 := hw1 ▸ below_alloc _ _
    obtain ⟨tb, htb⟩ : ∃ y, w0.heap.size = y := ⟨_, rfl⟩
    have hTw1 : w1.heap[tb]? = some (.cells #[.int .i64 0, .int .i64 0, .int .i64 0, .string ⟨#[]⟩, .slice none 0 0] 24 (0, 0)) := by rw [← hw1, ← htb]; exact heap_alloc_new _ _
    rw [hw1, htb]
    have hBw1 : Below W.heap.size W w1 := bthen hBw0 hC
    have hSw1 : SI bk x w1 := (hBw1.block _ (Array.getElem?_eq_some_iff.1 hP.hbk).1).trans hP.hbk
    clear hw1
    refine hK.out _ _ hSw1 (fun _ => ?_)
    clear hK K hC
    simp only [List.setIfInBounds_toArray, List.set_cons_zero, List.set_cons_succ]
    refine wpAnyH_ready (rs := [0, 2]) (by kernel_rfl) (by simp) ?_
    refine (AllReadyH.cons (o := { dst := some 13, op := Op.load 22 (Operand.tmp 3), type := 22, pos := "tree.go:67", after := #[], guard := none }) rfl (fun K hK => ?_) (AllReadyH.cons (o := { dst := some 15, op := Op.call { callee := Callee.value (Operand.func 34), args := #[Operand.tmp 14], argTypes := #[24] }, type := 24, pos := "tree.go:67", after := #[{ on := 1, ground := Ground.data }], guard := none }) rfl (fun K hK => ?_) AllReadyH.nil))
    · have r0 := cell_of ((hBw1.block _ (Array.getElem?_eq_some_iff.1 hP.hob).1).trans hP.hob) 0
      simp only [List.getElem?_toArray, List.getElem?_cons_zero] at r0
      go_simp
      refine hK.out _ _ hSw1 (fun _ => ?_)
      clear hK K r0
      simp only [List.setIfInBounds_toArray, List.set_cons_zero]
      refine wpAnyH_take (i := 3) (oi := { dst := some 16, op := Op.call { callee := Callee.builtin Builtin.len, args := #[Operand.tmp 13], argTypes := #[22] }, type := 3, pos := "tree.go:67", after := #[{ on := 0, ground := Ground.data }], guard := none }) (v := ?_) rfl (by kernel_rfl) (by kernel_rfl) (by kernel_rfl) (fun _ _ _ h => hpn _ _ _ _ _ h) (Or.inl ⟨by rfl, ?_⟩) (hSw1) ?_
      rotate_left
      · intro w hSw; (go_simp <;> with_reducible rfl)
      simp only [Act.put, List.setIfInBounds_toArray, List.set_cons_zero, List.set_cons_succ]
      refine wpAnyH_ready (rs := [2]) (by kernel_rfl) (by simp) ?_
      refine (AllReadyH.cons (o := { dst := some 15, op := Op.call { callee := Callee.value (Operand.func 34), args := #[Operand.tmp 14], argTypes := #[24] }, type := 24, pos := "tree.go:67", after := #[{ on := 1, ground := Ground.data }], guard := none }) rfl (fun K hK => ?_) AllReadyH.nil)
      · have FC := fresh_any x.nd hP.sz w1 x.v (Bl n0) (hP.hx.kept hBw1)
        simp only [aggN, encN, El.v] at FC
        go_simp
        refine FC.mono ?_
        clear FC
        rintro e w2 ⟨a3, c3, rfl, hFw2, hC⟩
        go_wp2_with fail
        have hBw2 : Below W.heap.size W w2 := bthen hBw1 hC
        have hSw2 : SI bk x w2 := (hBw2.block _ (Array.getElem?_eq_some_iff.1 hP.hbk).1).trans hP.hbk
        replace hFw2 := hFw2.with (fun b o ob _ h => Bf.mono hBw1.size b o ob h)
        have hTw2 := (hC.block _ (Array.getElem?_eq_some_iff.1 hTw1).1).trans hTw1
        refine hK.out _ _ hSw2 (fun _ => ?_)
        clear hK K hC
        simp only [List.setIfInBounds_toArray, List.set_cons_zero, List.set_cons_succ]
        exact idents_tail Q hpn t0 t1 t2 t4 t6 t7 t8 t9 t10 t11 t12 _ t18 t19 t20 ob bk n0 j x l vs a2 c2 W hP hQ a3 c3 tb w2 hBw2 hTw2 hFw2
    · have FC := fresh_any x.nd hP.sz w1 x.v (Bl n0) (hP.hx.kept hBw1)
      simp only [aggN, encN, El.v] at FC
      go_simp
      refine FC.mono ?_
      clear FC
      rintro e w2 ⟨a3, c3, rfl, hFw2, hC⟩
      go_wp2_with fail
      have hBw2 : Below W.heap.size W w2 := bthen hBw1 hC
      have hSw2 : SI bk x w2 := (hBw2.block _ (Array.getElem?_eq_some_iff.1 hP.hbk).1).trans hP.hbk
      replace hFw2 := hFw2.with (fun b o ob _ h => Bf.mono hBw1.size b o ob h)
      have hTw2 := (hC.block _ (Array.getElem?_eq_some_iff.1 hTw1).1).trans hTw1
      refine hK.out _ _ hSw2 (fun _ => ?_)
      clear hK K hC
      simp only [List.setIfInBounds_toArray, List.set_cons_zero, List.set_cons_succ]
      refine wpAnyH_ready (rs := [0]) (by kernel_rfl) (by simp) ?_
      refine (AllReadyH.cons (o := { dst := some 13, op := Op.load 22 (Operand.tmp 3), type := 22, pos := "tree.go:67", after := #[], guard := none }) rfl (fun K hK => ?_) AllReadyH.nil)
      · have r0 := cell_of ((hBw2.block _ (Array.getElem?_eq_some_iff.1 hP.hob).1).trans hP.hob) 0
        simp only [List.getElem?_toArray, List.getElem?_cons_zero] at r0
        go_simp
        refine hK.out _ _ hSw2 (fun _ => ?_)
        clear hK K r0
        simp only [List.setIfInBounds_toArray, List.set_cons_zero]
        refine wpAnyH_take (i := 3) (oi := { dst := some 16, op := Op.call { callee := Callee.builtin Builtin.len, args := #[Operand.tmp 13], argTypes := #[22] }, type := 3, pos := "tree.go:67", after := #[{ on := 0, ground := Ground.data }], guard := none }) (v := ?_) rfl (by kernel_rfl) (by kernel_rfl) (by kernel_rfl) (fun _ _ _ h => hpn _ _ _ _ _ h) (Or.inl ⟨by rfl, ?_⟩) (hSw2) ?_
        rotate_left
        · intro w hSw; (go_simp <;> with_reducible rfl)
        simp only [Act.put, List.setIfInBounds_toArray, List.set_cons_zero, List.set_cons_succ]
        exact idents_tail Q hpn t0 t1 t2 t4 t6 t7 t8 t9 t10 t11 t12 _ t18 t19 t20 ob bk n0 j x l vs a2 c2 W hP hQ a3 c3 tb w2 hBw2 hTw2 hFw2
end Go.Proofs.Ytgknigjpdnfkdaa
