/-
  strings.Builder: copyCheck and WriteString, walked; String out of the library.
-/
import Derived.Test.YtifcikhgbafegabMka
import Derived.Test.YtifcikhgbafegabShelf
import Derived.Shelf.Strings.Builder1
namespace Go.Proofs.Ytifcikhgbafegab
open Go.RowKit
attribute [local go_sem ↓] Go.wp_at_zero Go.wp_at_succ
theorem infoBd : (Try.prog.info? 46).map (fun i => i.bytes) = some 32 := by kernel_rfl
theorem infoU8 : (Try.prog.info? 5).map (fun i => (i.zero, i.size, i.bytes)) = some (some (.int .u8 0), 1, 1) := by kernel_rfl
theorem szBd : (Try.prog.info? 46).map (·.size) = some 2 := by kernel_rfl
theorem liBd : liesAt Try.prog Try.prog.depth 46 (2 / Try.prog.cellsOf 46) 0 46 1 = true := by kernel_rfl
set_option maxRecDepth 100000 in
set_option maxHeartbeats 1000000 in
theorem cc_used (b : Nat) (w : World) (h0 : w.cell? ⟨b, 0, none⟩ = some (.pointer (some ⟨b, 0, none⟩))) :
    Calls Try.prog 35 #[.pointer (some ⟨b, 0, none⟩)] w fun e w' => e = .returned (.tuple #[]) ∧ w' = w := by
  obtain ⟨j, hj, _⟩ := Option.map_eq_some_iff.1 szBd
  go_enter Try.func35, Try.ntmps35
  go_wp2
  rw [Lib.run_neq_ptr_same w _ Try.underlying43 hj]
  go_wp2
  go_end0
  exact ⟨rfl, rfl⟩
set_option maxRecDepth 100000 in
set_option maxHeartbeats 1000000 in
theorem cc_fresh (b : Nat) (w : World) (h0 : w.cell? ⟨b, 0, none⟩ = some (.pointer none)) (hsh : w.shape? b = some (46, 2)) (hfz : w.frozen? ⟨b, 0, none⟩ = false) :
    Calls Try.prog 35 #[.pointer (some ⟨b, 0, none⟩)] w fun e w' => e = .returned (.tuple #[]) ∧ w' = w.setCell ⟨b, 0, none⟩ (.pointer (some ⟨b, 0, none⟩)) := by
  obtain ⟨j, hj, hjs⟩ := Option.map_eq_some_iff.1 szBd
  go_enter Try.func35, Try.ntmps35
  go_wp2
  rw [Lib.run_to_unsafe w ⟨b, 0, none⟩ Try.underlying43 Try.underlying97 hj (by rw [hjs]; decide) hsh (Nat.zero_lt_succ 1)]
  simp only [Result.andThen]
  rw [Oper.upon_value]
  go_wp2
  rw [run_callFunc_extern Try.func55 (by kernel_rfl) (by kernel_rfl) (by kernel_rfl) (e := Extern.AbiNoEscape.same) (by kernel_rfl)]
  rw [Lib.run_noEscape]
  simp only [Result.andThen]
  rw [Oper.upon_value]
  go_wp2
  rw [Lib.run_from_unsafe w ⟨b, 0, none⟩ Try.underlying97 Try.underlying43 hj hsh liBd]
  simp only [Result.andThen]
  rw [Oper.upon_value]
  go_wp2
  go_end0
  exact ⟨rfl, rfl⟩
/-- an appended text's row stays in its block, or is a new one -/
theorem append_blockS {P : Program} (w : World) (base : Nat) (t u ty e : TypeId) (i : TypeInfo) (ht : P.underlying t = some (.slice e)) (hu : P.underlying u = some .string) (hi : P.info? e = some i) (hz : i.zero = some (.int .u8 0))
    (hsize : i.size = 1) (hby : i.bytes = 1) (v : Value) (n : Nat) (xs : List Value) (hown : w.ownsRow base e 1 v n xs) (s : ByteArray) (h63 : n + s.size ≤ maxLen) (hbytes : n + s.size ≤ 140737488355328)
    (v' : Value) (w' : World) (hr : (Builtin.append_ #[t, u] ty #[v, .string s]).run P w = .ok v' w') : ∀ k, v'.ownBlock = some k → v.ownBlock = some k ∨ w.heap.size ≤ k := by
  have hxl : xs.length = n := by simpa using hown.1
  have hsmall : n + s.size ≤ 9223372036854775807 := by simp only [maxLen] at h63; omega
  rcases hown.2 with ⟨rfl, rfl⟩ | ⟨g, cap, cur, rfl, hbg, hg, hnc, hcm, hcs, htake⟩
  · obtain ⟨v2, w2, hr2, ho2, -, -⟩ := Lib.run_append_own_string (P := P) w w.heap.size t u ty e i ht hu hi hz hsize hby _ 0 [] (World.ownsRow_nil w _ e 1) s (by omega) (by omega) (Nat.le_refl _)
    rw [hr] at hr2
    obtain ⟨rfl, rfl⟩ : v' = v2 ∧ w' = w2 := by simpa using hr2
    intro k hk
    exact .inr (ho2.lt k hk).1
  · by_cases hroom : n + s.size ≤ cap
    · have hcs' : cur.size = cap := by simpa using hcs
      have hr2 := Lib.run_append_room_string (P := P) w t u ty e i ht hu hi hsize g n cap cur hg s hroom (by omega)
      rw [hr] at hr2
      obtain ⟨rfl, _⟩ : v' = _ ∧ w' = _ := by simpa using hr2
      intro k hk
      exact .inl hk
    · have holds : ∀ j u, xs[j]? = some u → w.cell? ((⟨g, 0, none⟩ : Addr).add j) = some u := hown.cells (g := g) rfl
      have hr2 := Lib.run_append_grow_string (P := P) w t u ty e i (.int .u8 0) ht hu hi hz ⟨g, 0, none⟩ n cap xs (by rw [hsize]; simpa using hxl) holds s (by omega) (by omega) (by rw [hby]; exact growslice_fits (by omega) (by omega))
      rw [hr] at hr2
      obtain ⟨rfl, _⟩ : v' = _ ∧ w' = _ := by simpa using hr2
      intro k hk
      obtain rfl : w.heap.size = k := by simpa [Value.ownBlock] using hk
      exact .inr (Nat.le_refl _)
theorem wpList_append_atS {P : Program} (w : World) {ops : Array Oper} {rest : List Oper} {o : Oper} {a : Act} {Q : Exit → Act → World → Prop} (hgd : o.guard = none) (sl x : Operand) (t u : TypeId)
    (ho : o.op = .call { callee := .builtin .append, args := #[sl, x], argTypes := #[t, u] })
    (base : Nat) (e : TypeId) (i : TypeInfo) (ht : P.underlying t = some (.slice e)) (hu : P.underlying u = some .string) (hi : P.info? e = some i) (hz : i.zero = some (.int .u8 0))
    (hsize : i.size = 1) (hby : i.bytes = 1)
    (v : Value) (n : Nat) (xs : List Value) (hs : a.eval sl = v) (hown : w.ownsRow base e 1 v n xs) (s : ByteArray) (hx : a.eval x = .string s)
    (h63 : n + s.size ≤ maxLen) (hbytes : n + s.size ≤ 140737488355328) (hbase : base ≤ w.heap.size)
    (h : ∀ v' w', w'.ownsRow base e 1 v' (n + s.size) (xs ++ Lib.strCells s) → w.grownBy w' v.ownBlock → (∀ k, v'.ownBlock = some k → v.ownBlock = some k ∨ w.heap.size ≤ k) → wpList P ops Q rest (a.put o.dst v') w') : wpList P ops Q (o :: rest) a w := by
  refine wpList_plain hgd fun K hK => ?_
  obtain ⟨v', w', hr, h2, h3, h4⟩ := Lib.run_append_own_string (P := P) w base t u o.type e i ht hu hi hz hsize hby v n xs hown s h63 hbytes hbase
  have h5 := append_blockS (P := P) w base t u o.type e i ht hu hi hz hsize hby v n xs hown s h63 hbytes v' w' hr
  unfold Oper.wp execOp
  simp only [ho, resolve, invoke, builtin, Sem.run_bind, Sem.run_pure, Result.andThen_ok, List.map_toArray, List.map_cons, List.map_nil, hs, hx, hr]
  exact hK _ _ (h v' w' h2 h3 h5)
/-- a Builder that holds these bytes -/
structure Bd (base : Nat) (W : World) (b : Nat) (v : Value) (bs : List Value) : Prop where
  blk : W.heap[b]? = some (.cells #[.pointer none, v] 46 (0, 0)) ∨ W.heap[b]? = some (.cells #[.pointer (some ⟨b, 0, none⟩), v] 46 (0, 0))
  row : W.ownsRow base 5 1 v bs.length bs
/-- what WriteString does -/
structure WtQ (base : Nat) (w : World) (b : Nat) (v : Value) (bs : List Value) (e : Ending) (w' : World) : Prop where
  e : ∃ u, e = .returned u
  ex : ∃ v', Bd base w' b v' bs ∧ ∀ k, v'.ownBlock = some k → v.ownBlock = some k ∨ w.heap.size ≤ k
  kx : Kx (fun c => c = b ∨ v.ownBlock = some c) w w'
theorem own_ne {W : World} {base b n T : Nat} {p v : Value} {bs : List Value} (h : W.heap[b]? = some (.cells #[p, v] T (0, 0))) (hr : W.ownsRow base 5 1 v n bs) (hT : T ≠ 5) : v.ownBlock ≠ some b := by
  rcases hr.2 with ⟨rfl, _⟩ | ⟨g, cap, cur, rfl, _, hg, _⟩
  · simp [Value.ownBlock]
  · intro e
    obtain rfl : g = b := by simpa [Value.ownBlock] using e
    rw [h] at hg; simp at hg; exact hT hg.2
set_option maxRecDepth 100000 in
set_option maxHeartbeats 2000000 in
theorem wstr_used {base : Nat} {w : World} {b : Nat} {v : Value} {bs : List Value} (s : ByteArray) (hb : w.heap[b]? = some (.cells #[.pointer (some ⟨b, 0, none⟩), v] 46 (0, 0))) (hr : w.ownsRow base 5 1 v bs.length bs) (hlen : bs.length + s.size ≤ 140737488355328) (hbase : base ≤ w.heap.size) :
    Calls Try.prog 18 #[.pointer (some ⟨b, 0, none⟩), .string s] w (WtQ base w b v (bs ++ Lib.strCells s)) := by
  obtain ⟨i0, hi, hz0, hz1, hz2⟩ := info_parts infoU8
  have hne := own_ne hb hr (by decide)
  have hlt := (Array.getElem?_eq_some_iff.1 hb).1
  have c0 := cell_of hb 0
  have c1 := cell_of hb 1
  simp only [List.getElem?_toArray, List.getElem?_cons_zero, List.getElem?_cons_succ] at c0 c1
  have hcc := cc_used b w c0
  have HB : Hid (w.heap[b]? = some (.cells #[.pointer (some ⟨b, 0, none⟩), v] 46 (0, 0))) := hb
  have HR : Hid (w.ownsRow base 5 1 v bs.length bs) := hr
  obtain ⟨va, vn, vc, rfl⟩ : ∃ va vn vc, v = .slice va vn vc := by
    rcases hr.2 with ⟨rfl, _⟩ | ⟨g, cap, cur, rfl, _⟩
    · exact ⟨_, _, _, rfl⟩
    · exact ⟨_, _, _, rfl⟩
  clear hb hr
  go_enter Try.func18, Try.ntmps18
  go_wp2_with (first
    | (go_at_call 35; refine hcc.mono ?_; rintro e w1 ⟨rfl, hw1⟩; obtain rfl := hw1.symm; clear hcc hw1)
    | (at_builtin; refine wpList_append_atS _ rfl _ _ 44 9 rfl base 5 i0 Try.underlying44 Try.underlying9 hi hz0 hz1 hz2 _ _ _ rfl HR.out s rfl (by unfold maxLen; omega) hlen hbase ?_; intro v' w2 hown' hgrow hblk; have hb2 : w2.heap[b]? = some (.cells #[.pointer (some ⟨b, 0, none⟩), .slice va vn vc] 46 (0, 0)) := (hgrow.block b hlt (fun e => hne e.symm)).trans HB.out; have d0 := cell_of hb2 0; have d1 := cell_of hb2 1; simp only [List.getElem?_toArray, List.getElem?_cons_zero, List.getElem?_cons_succ] at d0 d1; have f1 : w2.frozen? ⟨b, 1, none⟩ = false := Lib.frozen_of_heap hb2 1; obtain ⟨ao, n', cap, rfl⟩ : ∃ ao n' cap, v' = .slice ao n' cap := (by
        rcases hown'.2 with ⟨hv, _⟩ | ⟨g, cap, cur, hv, _⟩
        · exact ⟨_, _, _, hv⟩
        · exact ⟨_, _, _, hv⟩); have HB2 : Hid _ := hb2; have HO : Hid _ := hown'; have HG : Hid _ := hgrow; have HK : Hid _ := hblk; clear hb2 hown' hgrow hblk))
  go_ret2
  have hset : (w2.setCell ⟨b, 1, none⟩ (.slice ao n' cap)).heap[b]? = some (.cells #[.pointer (some ⟨b, 0, none⟩), .slice ao n' cap] 46 (0, 0)) := by
    obtain ⟨hlt2, hk⟩ := Array.getElem?_eq_some_iff.1 HB2.out
    show (w2.heap.modify b _)[b]? = _
    rw [Array.getElem?_eq_getElem (by rw [Array.size_modify]; exact hlt2), Array.getElem_modify_self, hk]
    rfl
  have hkb : ∀ k, (Value.slice ao n' cap).ownBlock = some k → k ≠ b := fun k hk e => by
    rcases HK.out k hk with h | h
    · exact hne (e ▸ h)
    · omega
  refine ⟨⟨_, rfl⟩, ⟨_, ⟨.inr hset, ?_⟩, HK.out⟩, ?_⟩
  · rw [List.length_append, Lib.strCells_length]
    exact ownsRow_kx HO.out (kx_set (w := w2) (B := b) (o := 1)) (fun k hk => hkb k hk)
  · exact (grownBy_kx HG.out).andThen kx_set (fun c _ h => .inr h) (fun c _ h => .inl h)
set_option maxRecDepth 100000 in
set_option maxHeartbeats 2000000 in
theorem wstr_fresh {base : Nat} {w : World} {b : Nat} {v : Value} {bs : List Value} (s : ByteArray) (hb0 : w.heap[b]? = some (.cells #[.pointer none, v] 46 (0, 0))) (hr0 : w.ownsRow base 5 1 v bs.length bs) (hlen : bs.length + s.size ≤ 140737488355328) (hbase : base ≤ w.heap.size) :
    Calls Try.prog 18 #[.pointer (some ⟨b, 0, none⟩), .string s] w (WtQ base w b v (bs ++ Lib.strCells s)) := by
  obtain ⟨i0, hi, hz0, hz1, hz2⟩ := info_parts infoU8
  have hlt0 := (Array.getElem?_eq_some_iff.1 hb0).1
  have c00 := cell_of hb0 0
  simp only [List.getElem?_toArray, List.getElem?_cons_zero] at c00
  have hcc := cc_fresh b w c00 (by simp [World.shape?, hb0]) (Lib.frozen_of_heap hb0 0)
  have hne0 := own_ne hb0 hr0 (by decide)
  obtain ⟨w0, hw0⟩ : ∃ w0, w.setCell ⟨b, 0, none⟩ (.pointer (some ⟨b, 0, none⟩)) = w0 := ⟨_, rfl⟩
  have hb : w0.heap[b]? = some (.cells #[.pointer (some ⟨b, 0, none⟩), v] 46 (0, 0)) := by
    rw [← hw0]
    obtain ⟨hlt2, hk⟩ := Array.getElem?_eq_some_iff.1 hb0
    show (w.heap.modify b _)[b]? = _
    rw [Array.getElem?_eq_getElem (by rw [Array.size_modify]; exact hlt2), Array.getElem_modify_self, hk]
    rfl
  have hkx0 : Kx (· = b) w w0 := hw0 ▸ kx_set
  have hr : w0.ownsRow base 5 1 v bs.length bs := ownsRow_kx hr0 hkx0 (fun k hk e => hne0 (e ▸ hk))
  have hz9 : w0.heap.size = w.heap.size := by rw [← hw0]; simp
  rw [hw0] at hcc
  have HKX0 : Hid (Kx (· = b) w w0) := hkx0
  have hne := own_ne hb hr (by decide)
  have hlt := (Array.getElem?_eq_some_iff.1 hb).1
  have c0 := cell_of hb 0
  have c1 := cell_of hb 1
  simp only [List.getElem?_toArray, List.getElem?_cons_zero, List.getElem?_cons_succ] at c0 c1
  have HB : Hid (w0.heap[b]? = some (.cells #[.pointer (some ⟨b, 0, none⟩), v] 46 (0, 0))) := hb
  have HR : Hid (w0.ownsRow base 5 1 v bs.length bs) := hr
  obtain ⟨va, vn, vc, rfl⟩ : ∃ va vn vc, v = .slice va vn vc := by
    rcases hr.2 with ⟨rfl, _⟩ | ⟨g, cap, cur, rfl, _⟩
    · exact ⟨_, _, _, rfl⟩
    · exact ⟨_, _, _, rfl⟩
  clear hb hr hb0 hr0 c00 hw0 hkx0
  go_enter Try.func18, Try.ntmps18
  go_wp2_with (first
    | (go_at_call 35; refine hcc.mono ?_; rintro e w1 ⟨rfl, hw1⟩; obtain rfl := hw1.symm; clear hcc)
    | (at_builtin; refine wpList_append_atS _ rfl _ _ 44 9 rfl base 5 i0 Try.underlying44 Try.underlying9 hi hz0 hz1 hz2 _ _ _ rfl HR.out s rfl (by unfold maxLen; omega) hlen (by omega) ?_; intro v' w2 hown' hgrow hblk; have hb2 : w2.heap[b]? = some (.cells #[.pointer (some ⟨b, 0, none⟩), .slice va vn vc] 46 (0, 0)) := (hgrow.block b hlt (fun e => hne e.symm)).trans HB.out; have d0 := cell_of hb2 0; have d1 := cell_of hb2 1; simp only [List.getElem?_toArray, List.getElem?_cons_zero, List.getElem?_cons_succ] at d0 d1; have f1 : w2.frozen? ⟨b, 1, none⟩ = false := Lib.frozen_of_heap hb2 1; obtain ⟨ao, n', cap, rfl⟩ : ∃ ao n' cap, v' = .slice ao n' cap := (by
        rcases hown'.2 with ⟨hv, _⟩ | ⟨g, cap, cur, hv, _⟩
        · exact ⟨_, _, _, hv⟩
        · exact ⟨_, _, _, hv⟩); have HB2 : Hid _ := hb2; have HO : Hid _ := hown'; have HG : Hid _ := hgrow; have HK : Hid _ := hblk; clear hb2 hown' hgrow hblk))
  go_ret2
  have hset : (w2.setCell ⟨b, 1, none⟩ (.slice ao n' cap)).heap[b]? = some (.cells #[.pointer (some ⟨b, 0, none⟩), .slice ao n' cap] 46 (0, 0)) := by
    obtain ⟨hlt2, hk⟩ := Array.getElem?_eq_some_iff.1 HB2.out
    show (w2.heap.modify b _)[b]? = _
    rw [Array.getElem?_eq_getElem (by rw [Array.size_modify]; exact hlt2), Array.getElem_modify_self, hk]
    rfl
  have hkb : ∀ k, (Value.slice ao n' cap).ownBlock = some k → k ≠ b := fun k hk e => by
    rcases HK.out k hk with h | h
    · exact hne (e ▸ h)
    · omega
  refine ⟨⟨_, rfl⟩, ⟨_, ⟨.inr hset, ?_⟩, fun k hk => by rw [← hz9]; exact HK.out k hk⟩, ?_⟩
  · rw [List.length_append, Lib.strCells_length]
    exact ownsRow_kx HO.out (kx_set (w := w2) (B := b) (o := 1)) (fun k hk => hkb k hk)
  · have k2 : Kx (fun c => c = b ∨ (Value.slice va vn vc).ownBlock = some c) w0 (w2.setCell ⟨b, 1, none⟩ (.slice ao n' cap)) := (grownBy_kx HG.out).andThen kx_set (fun c _ h => .inr h) (fun c _ h => .inl h)
    exact HKX0.out.andThen k2 (fun c _ h => .inl h) (fun c _ h => h)
theorem wstr_any {base : Nat} {w : World} {b : Nat} {v : Value} {bs : List Value} (s : ByteArray) (h : Bd base w b v bs) (hlen : bs.length + s.size ≤ 140737488355328) (hbase : base ≤ w.heap.size) :
    Calls Try.prog 18 #[.pointer (some ⟨b, 0, none⟩), .string s] w (WtQ base w b v (bs ++ Lib.strCells s)) := by
  rcases h.blk with hb | hb
  · exact wstr_fresh s hb h.row hlen hbase
  · exact wstr_used s hb h.row hlen hbase
theorem bstr_any {base : Nat} {w : World} {b : Nat} {v : Value} {l : List UInt8} (h : Bd base w b v (Lib.byteCells l)) (hbb : base ≤ b) :
    Calls Try.prog 20 #[.pointer (some ⟨b, 0, none⟩)] w fun e w' => e = .returned (.string ⟨l.toArray⟩) ∧ Below base w w' := by
  have hlt : b < w.heap.size := by rcases h.blk with hb | hb <;> exact (Array.getElem?_eq_some_iff.1 hb).1
  refine Try.Builder_String_any base b l w ?_ (by omega)
  rcases h.blk with hb | hb
  · exact .inl ⟨hbb, v, hb, h.row, own_ne hb h.row (by decide)⟩
  · exact .inr ⟨hbb, v, hb, h.row, own_ne hb h.row (by decide)⟩
end Go.Proofs.Ytifcikhgbafegab

