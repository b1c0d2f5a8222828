/-
  The document's Bool, Str, Int, known, Unary, walked.
-/
import Derived.Test.YtfkkhabpnnealaaGreatDoorKoA
import Derived.Test.YtfkkhabpnnealaaGreatDoorRefH
import Derived.Test.YtfkkhabpnnealaaGreatDoorRefG
namespace Go.Proofs.YtfkkhabpnnealaaGreatDoor
open Go.RowKit
attribute [local go_sem ↓] Go.wp_at_zero Go.wp_at_succ
/-- a constant is answered: its number in form, in new memory -/
structure CnR (w : World) (base : Nat) (v : Value) (k : Int) (s : Bool) (N : Nat) (t : ByteArray) (b : Bool) : Prop where
  ex : ∃ ao n cap, v = cnV k s ao n cap t b ∧ IntR w base (.agg #[.bool s, .slice ao n cap]) s N
theorem res_cell {P : Program} {f : Func} {tmps : Array Value} {W : World} {a t : Nat} {ad : Addr} {v : Value} (hf : f.results = #[.cell a t]) (ha : tmps.getD a undef = .pointer (some ad)) (hl : (loadVar t ad).run P W = .ok v W) : (results f tmps).run P W = .ok v W := by
  unfold results
  rw [hf]
  have ha2 : tmps[a]?.getD undef = .pointer (some ad) := by rw [← ha]; simp
  simp [ha2, asAddr, hl]
theorem new_blk (w : World) (o : Obj) : (w.alloc o).heap[w.heap.size]? = some o := by show (w.heap.push _)[w.heap.size]? = _; simp
set_option maxRecDepth 100000 in
theorem resC {w : World} {g : Nat} {a b c d e : Value} (hg : w.heap[g]? = some (.cells #[a, b, c, d, e] 26 (0, 0))) : (loadVar 26 ⟨g, 0, none⟩).run Tryz.prog w = .ok (.agg #[a, b, c, d, e]) w :=
  run_loadVar_row w g _ _ _ _ _ hg Tryz.underlying26 rfl rfl
theorem zero_num (w : World) (base : Nat) : IntR w base (.agg #[.bool false, .slice none 0 0]) false 0 :=
  ⟨none, 0, 0, [], rfl, Sl.nil w, trivial, rfl, fun h => by cases h⟩
set_option maxRecDepth 100000 in
set_option maxHeartbeats 2000000 in
theorem rbool_any (b : Bool) (w : World) : Calls Tryz.prog 21 #[.bool b] w fun e w' => e = .returned (cnV 3 false none 0 0 ⟨#[]⟩ b) ∧ Below w.heap.size w w' := by
  go_enter Tryz.func21, Tryz.ntmps21
  go_wp2_with fail
  exact bodyPost_ret (res_cell rfl rfl (resC (new_blk w _))) rfl ⟨rfl, (Below.refl _ w).alloc (Nat.le_refl _) _⟩
set_option maxRecDepth 100000 in
set_option maxHeartbeats 2000000 in
theorem rstr_any (t : ByteArray) (w : World) : Calls Tryz.prog 19 #[.string t] w fun e w' => e = .returned (cnV 2 false none 0 0 t false) ∧ Below w.heap.size w w' := by
  go_enter Tryz.func19, Tryz.ntmps19
  go_wp2_with fail
  exact bodyPost_ret (res_cell rfl rfl (resC (new_blk w _))) rfl ⟨rfl, (Below.refl _ w).alloc (Nat.le_refl _) _⟩
theorem bx5 {w : World} {B : Nat} {a b c d e : Value} {T : TypeId} (h : w.heap[B]? = some (.cells #[a, b, c, d, e] T (0, 0))) : w.cell? ⟨B, 0, none⟩ = some a ∧ w.cell? ⟨B, 1, none⟩ = some b ∧ w.cell? ⟨B, 2, none⟩ = some c ∧ w.cell? ⟨B, 3, none⟩ = some d ∧ w.cell? ⟨B, 4, none⟩ = some e := by
  simp [World.cell?, h]
theorem bx5f {w : World} {B : Nat} {a b c d e : Value} {T : TypeId} (h : w.heap[B]? = some (.cells #[a, b, c, d, e] T (0, 0))) : w.frozen? ⟨B, 0, none⟩ = false ∧ w.frozen? ⟨B, 1, none⟩ = false ∧ w.frozen? ⟨B, 2, none⟩ = false ∧ w.frozen? ⟨B, 3, none⟩ = false ∧ w.frozen? ⟨B, 4, none⟩ = false := by
  simp [World.frozen?, h]
theorem set5 {w : World} {B : Nat} {a b c d e a' b' c' d' e' : Value} {T : TypeId} (h : w.heap[B]? = some (.cells #[a, b, c, d, e] T (0, 0))) : (((((w.setCell ⟨B, 0, none⟩ a').setCell ⟨B, 1, none⟩ b').setCell ⟨B, 2, none⟩ c').setCell ⟨B, 3, none⟩ d').setCell ⟨B, 4, none⟩ e').heap[B]? = some (.cells #[a', b', c', d', e'] T (0, 0)) := by
  simp [World.setCell, Array.getElem?_modify, h]
theorem below5 {W w : World} {B n : Nat} {a b c d e : Value} (h : Below n W w) (hB : n ≤ B) : Below n W (((((w.setCell ⟨B, 0, none⟩ a).setCell ⟨B, 1, none⟩ b).setCell ⟨B, 2, none⟩ c).setCell ⟨B, 3, none⟩ d).setCell ⟨B, 4, none⟩ e) :=
  ((((h.setCell (p := ⟨B, 0, none⟩) hB a).setCell (p := ⟨B, 1, none⟩) hB b).setCell (p := ⟨B, 2, none⟩) hB c).setCell (p := ⟨B, 3, none⟩) hB d).setCell (p := ⟨B, 4, none⟩) hB e
theorem IntR.set5 {w : World} {base B : Nat} {v a b c d e : Value} {s : Bool} {N : Nat} (h : IntR w base v s N) (hB : B < base) : IntR (((((w.setCell ⟨B, 0, none⟩ a).setCell ⟨B, 1, none⟩ b).setCell ⟨B, 2, none⟩ c).setCell ⟨B, 3, none⟩ d).setCell ⟨B, 4, none⟩ e) base v s N :=
  ((((h.setCell (a := ⟨B, 0, none⟩) hB a).setCell (a := ⟨B, 1, none⟩) hB b).setCell (a := ⟨B, 2, none⟩) hB c).setCell (a := ⟨B, 3, none⟩) hB d).setCell (a := ⟨B, 4, none⟩) hB e
theorem kept5 {W W' : World} (h : Below W.heap.size W W') {b : Nat} {o : Obj} (hb : W.heap[b]? = some o) : W'.heap[b]? = some o :=
  (h.block b (Array.getElem?_eq_some_iff.1 hb).1).trans hb
set_option maxRecDepth 100000 in
set_option maxHeartbeats 2000000 in
theorem rint_any (v : Int) (w : World) (h0 : -9223372036854775808 ≤ v) (h1 : v ≤ 9223372036854775807) : Calls Tryz.prog 17 #[.int .i64 v] w fun e w' => (∃ x, e = .returned x ∧ CnR w' w.heap.size x 1 (sgB (decide (v < 0)) v.natAbs) v.natAbs ⟨#[]⟩ false) ∧ Below w.heap.size w w' := by
  obtain ⟨s, hs9⟩ : ∃ s, sgB (decide (v < 0)) v.natAbs = s := ⟨_, rfl⟩
  rw [hs9]
  have HS9 : Hid (sgB (decide (v < 0)) v.natAbs = s) := hs9
  clear hs9
  go_enter Tryz.func17, Tryz.ntmps17
  go_wp2_with fail
  refine (rof_any v _ h0 h1).mono ?_
  rintro e x1 ⟨x, rfl, hx, hb⟩
  rw [HS9.out] at hx
  obtain ⟨ao, n, cap, r, rfl, hs, hf, hv, hn⟩ := hx.ex
  have hz : (w.alloc (.cells #[.int .i64 0, .bool false, .slice none 0 0, .string ⟨#[]⟩, .bool false] 26)).heap.size = w.heap.size + 1 := by simp
  have HZ : Hid (x1.heap[w.heap.size]? = some (.cells #[.int .i64 0, .bool false, .slice none 0 0, .string ⟨#[]⟩, .bool false] 26 (0, 0))) := kept5 hb (new_blk w _)
  have k5 := bx5 HZ.out
  have k5f := bx5f HZ.out
  have HB : Hid (Below w.heap.size w x1) := ((Below.refl _ w).alloc (Nat.le_refl _) _).trans (hb.mono (by omega))
  have HX : Hid (IntR x1 (w.heap.size + 1) (.agg #[.bool s, .slice ao n cap]) s v.natAbs) := hz ▸ hx
  clear hx hb hs hf hv hn hz
  go_wp2_with fail
  have hm := set5 (a' := .int .i64 1) (b' := .bool s) (c' := .slice ao n cap) (d' := .string ⟨#[]⟩) (e' := .bool false) HZ.out
  have hi := HX.out.set5 (B := w.heap.size) (a := .int .i64 1) (b := .bool s) (c := .slice ao n cap) (d := .string ⟨#[]⟩) (e := .bool false) (by omega)
  have hb5 := below5 (B := w.heap.size) (a := .int .i64 1) (b := .bool s) (c := .slice ao n cap) (d := .string ⟨#[]⟩) (e := .bool false) HB.out (Nat.le_refl _)
  exact bodyPost_ret (v := .agg #[.int .i64 1, .bool s, .slice ao n cap, .string ⟨#[]⟩, .bool false]) (res_cell rfl rfl (resC hm)) rfl ⟨⟨_, rfl, ao, n, cap, rfl, hi.mono (base' := w.heap.size) (by omega)⟩, hb5⟩
end Go.Proofs.YtfkkhabpnnealaaGreatDoor

/-
  The document's Unary, walked.
-/
namespace Go.Proofs.YtfkkhabpnnealaaGreatDoor
open Go.RowKit
attribute [local go_sem ↓] Go.wp_at_zero Go.wp_at_succ
theorem res_ct {P : Program} {f : Func} {tmps : Array Value} {W : World} {a t b : Nat} {ad : Addr} {v u : Value} (hf : f.results = #[.cell a t, .tmp b]) (ha : tmps.getD a undef = .pointer (some ad)) (hb : tmps.getD b undef = u) (hl : (loadVar t ad).run P W = .ok v W) : (results f tmps).run P W = .ok (.tuple #[v, u]) W := by
  unfold results
  rw [hf]
  have ha2 : tmps[a]?.getD undef = .pointer (some ad) := by rw [← ha]; simp
  have hb2 : tmps[b]?.getD undef = u := by rw [← hb]; simp
  simp [ha2, hb2, asAddr, hl]
/-- what a sign gives: kind, sign, number, text, truth, error -/
structure Ans where
  k : Int
  s : Bool
  N : Nat
  t : ByteArray
  b : Bool
  e : Int
/-- it is answered -/
structure AnsQ (w : World) (r : Ans) (e : Ending) (w' : World) : Prop where
  ex : ∃ v, e = .returned (.tuple #[v, .int .i64 r.e]) ∧ CnR w' w.heap.size v r.k r.s r.N r.t r.b
  bl : Below w.heap.size w w'
def noA (e : Int) : Ans := ⟨0, false, 0, ⟨#[]⟩, false, e⟩
def unR (op : ByteArray) (k : Int) (s : Bool) (N : Nat) (b : Bool) : Ans :=
  if op.toList = [45] ∧ k = 1 then ⟨1, sgB (!s) N, N, ⟨#[]⟩, false, 0⟩ else if op.toList = [33] ∧ k = 3 then ⟨3, false, 0, ⟨#[]⟩, !b, 0⟩ else noA 6
set_option maxRecDepth 100000 in
set_option maxHeartbeats 4000000 in
theorem runary_any (op : ByteArray) (k : Int) (s : Bool) (ao : Option Addr) (n cap : Nat) (l : List Nat) (t : ByteArray) (b : Bool) (w : World) (hl : Sl w ao n cap l) (hz : ao = none → cap = 0) (hn : n ≤ 1000) :
    Calls Tryz.prog 7 #[.string op, cnV k s ao n cap t b] w (AnsQ w (unR op k s (vl 4294967296 l) b)) := by
  obtain ⟨q, hq⟩ : ∃ q, sgB (!s) (vl 4294967296 l) = q := ⟨_, rfl⟩
  have HNG : Hid (∀ W, Below w.heap.size w W → Calls Tryz.prog 26 #[.agg #[.bool s, .slice ao n cap]] W fun e w' => ∃ v, e = .returned v ∧ IntR w' W.heap.size v q (vl 4294967296 l) ∧ Below W.heap.size W w') := fun W hb => by
    have := rneg_any s ao n cap l W (hl.below hb (Nat.le_refl _)) hz hn
    rwa [hq] at this
  have HB2 : Hid (Below w.heap.size w ((w.alloc (.cells #[.int .i64 k, .bool s, .slice ao n cap, .string t, .bool b] 26)).alloc (.cells #[.int .i64 0, .bool false, .slice none 0 0, .string ⟨#[]⟩, .bool false] 26))) := ((Below.refl _ w).alloc (Nat.le_refl _) _).alloc (by simp) _
  have HZ2 : Hid (((w.alloc (.cells #[.int .i64 k, .bool s, .slice ao n cap, .string t, .bool b] 26)).alloc (.cells #[.int .i64 0, .bool false, .slice none 0 0, .string ⟨#[]⟩, .bool false] 26)).heap[w.heap.size + 1]? = some (.cells #[.int .i64 0, .bool false, .slice none 0 0, .string ⟨#[]⟩, .bool false] 26 (0, 0))) := by
    have := new_blk (w.alloc (.cells #[.int .i64 k, .bool s, .slice ao n cap, .string t, .bool b] 26)) (.cells #[.int .i64 0, .bool false, .slice none 0 0, .string ⟨#[]⟩, .bool false] 26)
    rw [World.size_alloc] at this
    exact this
  have HZ3 : Hid (((w.alloc (.cells #[.int .i64 k, .bool s, .slice ao n cap, .string t, .bool b] 26)).alloc (.cells #[.int .i64 0, .bool false, .slice none 0 0, .string ⟨#[]⟩, .bool false] 26)).heap.size = w.heap.size + 2) := by show _ = _; simp
  obtain ⟨U, hU⟩ : ∃ U, unR op k s (vl 4294967296 l) b = U := ⟨_, rfl⟩
  rw [hU]
  unfold unR at hU
  rw [hq] at hU
  clear hl hz hn hq
  by_cases h1 : op.toList = [45]
  · by_cases k1 : k = 1
    · subst k1
      have HU : Hid (U = ⟨1, q, vl 4294967296 l, ⟨#[]⟩, false, 0⟩) := by show _ = _; rw [← hU]; simp [h1]
      clear hU
      go_enter Tryz.func7, Tryz.ntmps7
      go_wp2_with fail
      refine (HNG.out _ HB2.out).mono ?_
      rintro e x1 ⟨x, rfl, hx, hb⟩
      obtain ⟨aq, m, cq, r, rfl, hs, hf, hv, hn9⟩ := hx.ex
      have HZ : Hid (x1.heap[w.heap.size + 1]? = some (.cells #[.int .i64 0, .bool false, .slice none 0 0, .string ⟨#[]⟩, .bool false] 26 (0, 0))) := kept5 hb HZ2.out
      have k5 := bx5 HZ.out
      have k5f := bx5f HZ.out
      have HB : Hid (Below w.heap.size w x1) := HB2.out.trans (hb.mono HB2.out.size)
      have HX : Hid (IntR x1 (w.heap.size + 2) (.agg #[.bool q, .slice aq m cq]) q (vl 4294967296 l)) := HZ3.out ▸ hx
      clear hx hb hs hf hv hn9
      go_wp2_with fail
      have hm := set5 (a' := .int .i64 1) (b' := .bool q) (c' := .slice aq m cq) (d' := .string ⟨#[]⟩) (e' := .bool false) HZ.out
      have hb5 := below5 (B := w.heap.size + 1) (a := .int .i64 1) (b := .bool q) (c := .slice aq m cq) (d := .string ⟨#[]⟩) (e := .bool false) HB.out (by omega)
      have hi := HX.out.set5 (B := w.heap.size + 1) (a := .int .i64 1) (b := .bool q) (c := .slice aq m cq) (d := .string ⟨#[]⟩) (e := .bool false) (by omega)
      exact bodyPost_ret (v := .tuple #[.agg #[.int .i64 1, .bool q, .slice aq m cq, .string ⟨#[]⟩, .bool false], .int .i64 0]) (res_ct rfl rfl rfl (resC hm)) rfl (by rw [HU.out]; exact ⟨⟨_, rfl, _, _, _, rfl, hi.mono (base' := w.heap.size) (by omega)⟩, hb5⟩)
    · have z : (k == 1) = false := by simpa using k1
      have HU : Hid (U = noA 6) := by show _ = _; rw [← hU]; simp [h1, k1]
      clear hU
      go_enter Tryz.func7, Tryz.ntmps7
      go_wp2_with fail
      exact bodyPost_ret (v := .tuple #[.agg #[.int .i64 0, .bool false, .slice none 0 0, .string ⟨#[]⟩, .bool false], .int .i64 6]) (res_ct rfl rfl rfl (resC HZ2.out)) rfl (by rw [HU.out]; exact ⟨⟨_, rfl, _, _, _, rfl, zero_num _ _⟩, HB2.out⟩)
  by_cases h3 : op.toList = [33]
  · by_cases k3 : k = 3
    · subst k3
      have HU : Hid (U = ⟨3, false, 0, ⟨#[]⟩, !b, 0⟩) := by show _ = _; rw [← hU]; simp [h3]
      clear hU
      go_enter Tryz.func7, Tryz.ntmps7
      go_wp2_with fail
      refine (rbool_any (!b) _).mono ?_
      rintro e x1 ⟨rfl, hb⟩
      have HZ : Hid (x1.heap[w.heap.size + 1]? = some (.cells #[.int .i64 0, .bool false, .slice none 0 0, .string ⟨#[]⟩, .bool false] 26 (0, 0))) := kept5 hb HZ2.out
      have k5 := bx5 HZ.out
      have k5f := bx5f HZ.out
      have HB : Hid (Below w.heap.size w x1) := HB2.out.trans (hb.mono HB2.out.size)
      clear hb
      go_wp2_with fail
      have hm := set5 (a' := .int .i64 3) (b' := .bool false) (c' := .slice none 0 0) (d' := .string ⟨#[]⟩) (e' := .bool (!b)) HZ.out
      have hb5 := below5 (B := w.heap.size + 1) (a := .int .i64 3) (b := .bool false) (c := .slice none 0 0) (d := .string ⟨#[]⟩) (e := .bool (!b)) HB.out (by omega)
      exact bodyPost_ret (v := .tuple #[.agg #[.int .i64 3, .bool false, .slice none 0 0, .string ⟨#[]⟩, .bool (!b)], .int .i64 0]) (res_ct rfl rfl rfl (resC hm)) rfl (by rw [HU.out]; exact ⟨⟨_, rfl, _, _, _, rfl, zero_num _ _⟩, hb5⟩)
    · have z : (k == 3) = false := by simpa using k3
      have HU : Hid (U = noA 6) := by show _ = _; rw [← hU]; simp [h3, k3]
      clear hU
      go_enter Tryz.func7, Tryz.ntmps7
      go_wp2_with fail
      exact bodyPost_ret (v := .tuple #[.agg #[.int .i64 0, .bool false, .slice none 0 0, .string ⟨#[]⟩, .bool false], .int .i64 6]) (res_ct rfl rfl rfl (resC HZ2.out)) rfl (by rw [HU.out]; exact ⟨⟨_, rfl, _, _, _, rfl, zero_num _ _⟩, HB2.out⟩)
  have HU : Hid (U = noA 6) := by show _ = _; rw [← hU]; simp [h1, h3]
  clear hU
  go_enter Tryz.func7, Tryz.ntmps7
  go_wp2_with fail
  exact bodyPost_ret (v := .tuple #[.agg #[.int .i64 0, .bool false, .slice none 0 0, .string ⟨#[]⟩, .bool false], .int .i64 6]) (res_ct rfl rfl rfl (resC HZ2.out)) rfl (by rw [HU.out]; exact ⟨⟨_, rfl, _, _, _, rfl, zero_num _ _⟩, HB2.out⟩)
end Go.Proofs.YtfkkhabpnnealaaGreatDoor

/-
  The document's compare, walked.
-/
namespace Go.Proofs.YtfkkhabpnnealaaGreatDoor
open Go.RowKit
attribute [local go_sem ↓] Go.wp_at_zero Go.wp_at_succ
/-- how two constants stand to each other -/
def cmC (k : Int) (s1 : Bool) (N1 : Nat) (t1 : ByteArray) (s2 : Bool) (N2 : Nat) (t2 : ByteArray) : Int :=
  if k = 1 then cmpV s1 N1 s2 N2 else if Op.bytesLess t1.toList t2.toList = true then -1 else if t1.toList = t2.toList then 0 else 1
/-- what a sign of order says of that -/
def cmO (op : ByteArray) (q : Int) : Bool := if op.toList = [60] then decide (q < 0) else if op.toList = [60, 61] then decide (q ≤ 0) else if op.toList = [62] then decide (0 < q) else decide (0 ≤ q)
def cmA (op : ByteArray) (k q : Int) : Ans := if k = 3 then noA 6 else ⟨3, false, 0, ⟨#[]⟩, cmO op q, 0⟩
theorem three_new {w : World} (a b c : Obj) : (((w.alloc a).alloc b).alloc c).heap[w.heap.size + 1 + 1]? = some c := by
  have := new_blk ((w.alloc a).alloc b) c
  rw [World.size_alloc, World.size_alloc] at this
  exact this
theorem three_below (w : World) (a b c : Obj) : Below w.heap.size w (((w.alloc a).alloc b).alloc c) := (((Below.refl _ w).alloc (Nat.le_refl _) _).alloc (by simp) _).alloc (by simp; omega) _
end Go.Proofs.YtfkkhabpnnealaaGreatDoor

/-
  The document's Binary at truth values and texts, walked.
-/
namespace Go.Proofs.YtfkkhabpnnealaaGreatDoor
open Go.RowKit
attribute [local go_sem ↓] Go.wp_at_zero Go.wp_at_succ
/-- what reckoning gives -/
def arA (e : Int) (s : Bool) (N : Nat) : Ans := if e = 0 then ⟨1, s, N, ⟨#[]⟩, false, 0⟩ else noA e
/-- what Binary gives of two constants of one kind; E: are they equal; A: what an order's sign gives -/
def biA (op : ByteArray) (k : Int) (E : Bool) (A : Ans) (s1 : Bool) (N1 : Nat) (t1 : ByteArray) (b1 : Bool) (s2 : Bool) (N2 : Nat) (t2 : ByteArray) (b2 : Bool) : Ans :=
  if op.toList = [61, 61] then ⟨3, false, 0, ⟨#[]⟩, E, 0⟩ else if op.toList = [33, 61] then ⟨3, false, 0, ⟨#[]⟩, !E, 0⟩
  else if op.toList = [38, 38] then (if k = 3 then ⟨3, false, 0, ⟨#[]⟩, b1 && b2, 0⟩ else noA 6) else if op.toList = [124, 124] then (if k = 3 then ⟨3, false, 0, ⟨#[]⟩, b1 || b2, 0⟩ else noA 6)
  else if op.toList = [60] ∨ op.toList = [60, 61] ∨ op.toList = [62] ∨ op.toList = [62, 61] then A
  else if k = 2 ∧ op.toList = [43] then (if 65536 < t1.size + t2.size then noA 2 else ⟨2, false, 0, t1 ++ t2, false, 0⟩)
  else if k ≠ 1 then noA 6
  else if op.toList = [43] then arA (addE s1 N1 s2 N2) (addS s1 N1 s2 N2) (addV s1 N1 s2 N2) else if op.toList = [45] then arA (addE s1 N1 (!s2) N2) (addS s1 N1 (!s2) N2) (addV s1 N1 (!s2) N2)
  else if op.toList = [42] then arA (mulE N1 N2) (mulS s1 N1 s2 N2) (mulV N1 N2) else if op.toList = [47] then arA (quoE N1 N2) (sgB (s1 != s2) (quoQ N1 N2)) (quoQ N1 N2) else if op.toList = [37] then arA (quoE N1 N2) (sgB s1 (quoR N1 N2)) (quoR N1 N2) else noA 6
end Go.Proofs.YtfkkhabpnnealaaGreatDoor

