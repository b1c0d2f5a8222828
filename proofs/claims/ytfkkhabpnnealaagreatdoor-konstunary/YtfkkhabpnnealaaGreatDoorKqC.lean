/-
  Type of konst and of the document: what both answer, and that they are alike.
-/
import Derived.Test.YtfkkhabpnnealaaGreatDoorKpG
import Derived.Test.YtfkkhabpnnealaaGreatDoorMka
import Derived.Test.YtfkkhabpnnealaaGreatDoorTyt
namespace Go.Proofs.YtfkkhabpnnealaaGreatDoor
open Go.RowKit
attribute [local go_sem ↓] Go.wp_at_zero Go.wp_at_succ
/-- a type without parts, as a value -/
abbrev t0V (k : Int) (an : Option Addr) (cn : Nat) (am : Option Addr) (cm : Nat) (ak : Option Addr) (ck : Nat) : Value := .agg #[.int .i64 k, .string ⟨#[]⟩, .int .i64 0, .bool false, .slice an 0 cn, .slice am 0 cm, .slice ak 0 ck]
theorem prt0 {K : T8.BQ} {W : World} (k : Int) (an : Option Addr) (cn : Nat) (am : Option Addr) (cm : Nat) (ak : Option Addr) (ck : Nat) : T8.Prt K W (.mk k ⟨#[]⟩ 0 false [] [] []) (.slice an 0 cn) (.slice am 0 cm) (.slice ak 0 ck) :=
  ⟨.inl ⟨_, _, rfl, rfl⟩, .inl ⟨_, _, rfl, rfl⟩, .inl ⟨_, _, rfl, rfl⟩⟩
/-- two of one kind are alike -/
theorem ttypes_any (k : Int) (an : Option Addr) (cn : Nat) (am : Option Addr) (cm : Nat) (ak : Option Addr) (ck : Nat) (bn : Option Addr) (dn : Nat) (bm : Option Addr) (dm : Nat) (bk : Option Addr) (dk : Nat) (w : World) :
    Calls Tryz.prog 13 #[t0V k an cn am cm ak ck, t0V k bn dn bm dm bk dk] w fun e w' => e = .returned (.bool true) ∧ Below w.heap.size w w' := by
  have h := T8.types_any (fun _ => True) (fun _ => True) (.mk k ⟨#[]⟩ 0 false [] [] []) (.mk k ⟨#[]⟩ 0 false [] [] []) w _ _ _ _ _ _ (prt0 k an cn am cm ak ck) (prt0 k bn dn bm dm bk dk)
  rw [T8.tyEq_true rfl] at h
  exact h
theorem kmake_any (k : Int) (hk : k ≠ 13) (w : World) : Calls Tryz.prog 37 #[.int .i64 k, .slice none 0 0] w fun e w' => (∃ an cn am cm ak ck, e = .returned (t0V k an cn am cm ak ck)) ∧ Below w.heap.size w w' := by
  have h := T8.make_any (B := fun _ => True) (w := w) k (a := none) (n := 0) (c := 0) (ks := []) (.inl ⟨_, _, rfl, rfl⟩) (fun x hx => by cases hx) (by simp [T8.cntL])
  refine h.mono fun e w' hq => ⟨?_, hq.bl⟩
  obtain ⟨vn, vm, vk, rfl, hp⟩ := hq.ex
  obtain ⟨an, cn, am, cm, ak, ck, rfl, rfl, rfl⟩ := hp.form
  refine ⟨an, cn, am, cm, ak, ck, ?_⟩
  simp [T8.agT, T8.mkT, T8.Ty.kind, T8.Ty.name, T8.Ty.n, T8.Ty.flag, T8.Ty.names, T8.Ty.marks, T8.Ty.kids, hk]
/-- a constant's type's kind -/
def tyK (k : Int) : Int := if k = 1 then 4 else if k = 2 then 5 else 6
set_option maxRecDepth 100000 in
set_option maxHeartbeats 4000000 in
theorem ktype_any (k : Int) (hk : k = 1 ∨ k = 2 ∨ k = 3) (s : Bool) (ao : Option Addr) (n cap : Nat) (t : ByteArray) (b : Bool) (w : World) :
    Calls Tryz.prog 14 #[cnV k s ao n cap t b] w fun e w' => (∃ an cn am cm ak ck, e = .returned (t0V (tyK k) an cn am cm ak ck)) ∧ Below w.heap.size w w' := by
  have HM : Hid (∀ q : Int, q ≠ 13 → ∀ W, Calls Tryz.prog 37 #[.int .i64 q, .slice none 0 0] W fun e w' => (∃ an cn am cm ak ck, e = .returned (t0V q an cn am cm ak ck)) ∧ Below W.heap.size W w') := fun q hq W => kmake_any q hq W
  rcases hk with rfl | rfl | rfl
  · have HB2 : Hid (Below w.heap.size w ((w.alloc (.cells #[.int .i64 1, .bool s, .slice ao n cap, .string t, .bool b] 26)).alloc (.cells #[.int .i64 0, .string ⟨#[]⟩, .int .i64 0, .bool false, .slice none 0 0, .slice none 0 0, .slice none 0 0] 41))) := two_below w _ _
    have HZ2 : Hid (((w.alloc (.cells #[.int .i64 1, .bool s, .slice ao n cap, .string t, .bool b] 26)).alloc (.cells #[.int .i64 0, .string ⟨#[]⟩, .int .i64 0, .bool false, .slice none 0 0, .slice none 0 0, .slice none 0 0] 41)).heap[w.heap.size + 1]? = some (.cells #[.int .i64 0, .string ⟨#[]⟩, .int .i64 0, .bool false, .slice none 0 0, .slice none 0 0, .slice none 0 0] 41 (0, 0))) := two_new _ _
    go_enter Tryz.func14, Tryz.ntmps14
    go_wp2_with fail
    refine (HM.out 4 (by decide) _).mono ?_
    rintro e x1 ⟨⟨an, cn, am, cm, ak, ck, rfl⟩, hb⟩
    have HZ : Hid (x1.heap[w.heap.size + 1]? = some (.cells #[.int .i64 0, .string ⟨#[]⟩, .int .i64 0, .bool false, .slice none 0 0, .slice none 0 0, .slice none 0 0] 41 (0, 0))) := kept5 hb HZ2.out
    have HB : Hid (Below w.heap.size w x1) := HB2.out.trans (hb.mono HB2.out.size)
    clear hb
    have k7 := T8.bx7 HZ.out
    have k7f := T8.bx7f HZ.out
    go_wp2_with fail
    have hm := T8.bx7_set (a' := .int .i64 4) (b' := .string ⟨#[]⟩) (c' := .int .i64 0) (d' := .bool false) (x' := .slice an 0 cn) (y' := .slice am 0 cm) (z' := .slice ak 0 ck) HZ.out
    have hb7 := T8.below_kx1 HB.out (T8.kx_set7 (w := x1) (g := w.heap.size + 1) (a := .int .i64 4) (b := .string ⟨#[]⟩) (c := .int .i64 0) (d := .bool false) (x := .slice an 0 cn) (y := .slice am 0 cm) (z := .slice ak 0 ck)) (by omega)
    exact bodyPost_ret (v := t0V 4 an cn am cm ak ck) (res_cell rfl rfl (T8.resT hm)) rfl ⟨⟨an, cn, am, cm, ak, ck, rfl⟩, hb7⟩
  · have HB2 : Hid (Below w.heap.size w ((w.alloc (.cells #[.int .i64 2, .bool s, .slice ao n cap, .string t, .bool b] 26)).alloc (.cells #[.int .i64 0, .string ⟨#[]⟩, .int .i64 0, .bool false, .slice none 0 0, .slice none 0 0, .slice none 0 0] 41))) := two_below w _ _
    have HZ2 : Hid (((w.alloc (.cells #[.int .i64 2, .bool s, .slice ao n cap, .string t, .bool b] 26)).alloc (.cells #[.int .i64 0, .string ⟨#[]⟩, .int .i64 0, .bool false, .slice none 0 0, .slice none 0 0, .slice none 0 0] 41)).heap[w.heap.size + 1]? = some (.cells #[.int .i64 0, .string ⟨#[]⟩, .int .i64 0, .bool false, .slice none 0 0, .slice none 0 0, .slice none 0 0] 41 (0, 0))) := two_new _ _
    go_enter Tryz.func14, Tryz.ntmps14
    go_wp2_with fail
    refine (HM.out 5 (by decide) _).mono ?_
    rintro e x1 ⟨⟨an, cn, am, cm, ak, ck, rfl⟩, hb⟩
    have HZ : Hid (x1.heap[w.heap.size + 1]? = some (.cells #[.int .i64 0, .string ⟨#[]⟩, .int .i64 0, .bool false, .slice none 0 0, .slice none 0 0, .slice none 0 0] 41 (0, 0))) := kept5 hb HZ2.out
    have HB : Hid (Below w.heap.size w x1) := HB2.out.trans (hb.mono HB2.out.size)
    clear hb
    have k7 := T8.bx7 HZ.out
    have k7f := T8.bx7f HZ.out
    go_wp2_with fail
    have hm := T8.bx7_set (a' := .int .i64 5) (b' := .string ⟨#[]⟩) (c' := .int .i64 0) (d' := .bool false) (x' := .slice an 0 cn) (y' := .slice am 0 cm) (z' := .slice ak 0 ck) HZ.out
    have hb7 := T8.below_kx1 HB.out (T8.kx_set7 (w := x1) (g := w.heap.size + 1) (a := .int .i64 5) (b := .string ⟨#[]⟩) (c := .int .i64 0) (d := .bool false) (x := .slice an 0 cn) (y := .slice am 0 cm) (z := .slice ak 0 ck)) (by omega)
    exact bodyPost_ret (v := t0V 5 an cn am cm ak ck) (res_cell rfl rfl (T8.resT hm)) rfl ⟨⟨an, cn, am, cm, ak, ck, rfl⟩, hb7⟩
  · have HB2 : Hid (Below w.heap.size w ((w.alloc (.cells #[.int .i64 3, .bool s, .slice ao n cap, .string t, .bool b] 26)).alloc (.cells #[.int .i64 0, .string ⟨#[]⟩, .int .i64 0, .bool false, .slice none 0 0, .slice none 0 0, .slice none 0 0] 41))) := two_below w _ _
    have HZ2 : Hid (((w.alloc (.cells #[.int .i64 3, .bool s, .slice ao n cap, .string t, .bool b] 26)).alloc (.cells #[.int .i64 0, .string ⟨#[]⟩, .int .i64 0, .bool false, .slice none 0 0, .slice none 0 0, .slice none 0 0] 41)).heap[w.heap.size + 1]? = some (.cells #[.int .i64 0, .string ⟨#[]⟩, .int .i64 0, .bool false, .slice none 0 0, .slice none 0 0, .slice none 0 0] 41 (0, 0))) := two_new _ _
    go_enter Tryz.func14, Tryz.ntmps14
    go_wp2_with fail
    refine (HM.out 6 (by decide) _).mono ?_
    rintro e x1 ⟨⟨an, cn, am, cm, ak, ck, rfl⟩, hb⟩
    have HZ : Hid (x1.heap[w.heap.size + 1]? = some (.cells #[.int .i64 0, .string ⟨#[]⟩, .int .i64 0, .bool false, .slice none 0 0, .slice none 0 0, .slice none 0 0] 41 (0, 0))) := kept5 hb HZ2.out
    have HB : Hid (Below w.heap.size w x1) := HB2.out.trans (hb.mono HB2.out.size)
    clear hb
    have k7 := T8.bx7 HZ.out
    have k7f := T8.bx7f HZ.out
    go_wp2_with fail
    have hm := T8.bx7_set (a' := .int .i64 6) (b' := .string ⟨#[]⟩) (c' := .int .i64 0) (d' := .bool false) (x' := .slice an 0 cn) (y' := .slice am 0 cm) (z' := .slice ak 0 ck) HZ.out
    have hb7 := T8.below_kx1 HB.out (T8.kx_set7 (w := x1) (g := w.heap.size + 1) (a := .int .i64 6) (b := .string ⟨#[]⟩) (c := .int .i64 0) (d := .bool false) (x := .slice an 0 cn) (y := .slice am 0 cm) (z := .slice ak 0 ck)) (by omega)
    exact bodyPost_ret (v := t0V 6 an cn am cm ak ck) (res_cell rfl rfl (T8.resT hm)) rfl ⟨⟨an, cn, am, cm, ak, ck, rfl⟩, hb7⟩
set_option maxRecDepth 100000 in
set_option maxHeartbeats 4000000 in
theorem rtype_any (k : Int) (hk : k = 1 ∨ k = 2 ∨ k = 3) (s : Bool) (ao : Option Addr) (n cap : Nat) (t : ByteArray) (b : Bool) (w : World) :
    Calls Tryz.prog 15 #[cnV k s ao n cap t b] w fun e w' => (∃ an cn am cm ak ck, e = .returned (t0V (tyK k) an cn am cm ak ck)) ∧ Below w.heap.size w w' := by
  have HM : Hid (∀ q : Int, q ≠ 13 → ∀ W, Calls Tryz.prog 38 #[.int .i64 q] W fun e w' => (∃ an cn am cm ak ck, e = .returned (t0V q an cn am cm ak ck)) ∧ Below W.heap.size W w') := fun q _ W => (T8.rbasic_any q W).mono fun e w' ⟨he, hb⟩ => ⟨⟨_, _, _, _, _, _, he⟩, hb⟩
  rcases hk with rfl | rfl | rfl
  · have HB2 : Hid (Below w.heap.size w ((w.alloc (.cells #[.int .i64 1, .bool s, .slice ao n cap, .string t, .bool b] 26)).alloc (.cells #[.int .i64 0, .string ⟨#[]⟩, .int .i64 0, .bool false, .slice none 0 0, .slice none 0 0, .slice none 0 0] 41))) := two_below w _ _
    have HZ2 : Hid (((w.alloc (.cells #[.int .i64 1, .bool s, .slice ao n cap, .string t, .bool b] 26)).alloc (.cells #[.int .i64 0, .string ⟨#[]⟩, .int .i64 0, .bool false, .slice none 0 0, .slice none 0 0, .slice none 0 0] 41)).heap[w.heap.size + 1]? = some (.cells #[.int .i64 0, .string ⟨#[]⟩, .int .i64 0, .bool false, .slice none 0 0, .slice none 0 0, .slice none 0 0] 41 (0, 0))) := two_new _ _
    go_enter Tryz.func15, Tryz.ntmps15
    go_wp2_with fail
    refine (HM.out 4 (by decide) _).mono ?_
    rintro e x1 ⟨⟨an, cn, am, cm, ak, ck, rfl⟩, hb⟩
    have HZ : Hid (x1.heap[w.heap.size + 1]? = some (.cells #[.int .i64 0, .string ⟨#[]⟩, .int .i64 0, .bool false, .slice none 0 0, .slice none 0 0, .slice none 0 0] 41 (0, 0))) := kept5 hb HZ2.out
    have HB : Hid (Below w.heap.size w x1) := HB2.out.trans (hb.mono HB2.out.size)
    clear hb
    have k7 := T8.bx7 HZ.out
    have k7f := T8.bx7f HZ.out
    go_wp2_with fail
    have hm := T8.bx7_set (a' := .int .i64 4) (b' := .string ⟨#[]⟩) (c' := .int .i64 0) (d' := .bool false) (x' := .slice an 0 cn) (y' := .slice am 0 cm) (z' := .slice ak 0 ck) HZ.out
    have hb7 := T8.below_kx1 HB.out (T8.kx_set7 (w := x1) (g := w.heap.size + 1) (a := .int .i64 4) (b := .string ⟨#[]⟩) (c := .int .i64 0) (d := .bool false) (x := .slice an 0 cn) (y := .slice am 0 cm) (z := .slice ak 0 ck)) (by omega)
    exact bodyPost_ret (v := t0V 4 an cn am cm ak ck) (res_cell rfl rfl (T8.resT hm)) rfl ⟨⟨an, cn, am, cm, ak, ck, rfl⟩, hb7⟩
  · have HB2 : Hid (Below w.heap.size w ((w.alloc (.cells #[.int .i64 2, .bool s, .slice ao n cap, .string t, .bool b] 26)).alloc (.cells #[.int .i64 0, .string ⟨#[]⟩, .int .i64 0, .bool false, .slice none 0 0, .slice none 0 0, .slice none 0 0] 41))) := two_below w _ _
    have HZ2 : Hid (((w.alloc (.cells #[.int .i64 2, .bool s, .slice ao n cap, .string t, .bool b] 26)).alloc (.cells #[.int .i64 0, .string ⟨#[]⟩, .int .i64 0, .bool false, .slice none 0 0, .slice none 0 0, .slice none 0 0] 41)).heap[w.heap.size + 1]? = some (.cells #[.int .i64 0, .string ⟨#[]⟩, .int .i64 0, .bool false, .slice none 0 0, .slice none 0 0, .slice none 0 0] 41 (0, 0))) := two_new _ _
    go_enter Tryz.func15, Tryz.ntmps15
    go_wp2_with fail
    refine (HM.out 5 (by decide) _).mono ?_
    rintro e x1 ⟨⟨an, cn, am, cm, ak, ck, rfl⟩, hb⟩
    have HZ : Hid (x1.heap[w.heap.size + 1]? = some (.cells #[.int .i64 0, .string ⟨#[]⟩, .int .i64 0, .bool false, .slice none 0 0, .slice none 0 0, .slice none 0 0] 41 (0, 0))) := kept5 hb HZ2.out
    have HB : Hid (Below w.heap.size w x1) := HB2.out.trans (hb.mono HB2.out.size)
    clear hb
    have k7 := T8.bx7 HZ.out
    have k7f := T8.bx7f HZ.out
    go_wp2_with fail
    have hm := T8.bx7_set (a' := .int .i64 5) (b' := .string ⟨#[]⟩) (c' := .int .i64 0) (d' := .bool false) (x' := .slice an 0 cn) (y' := .slice am 0 cm) (z' := .slice ak 0 ck) HZ.out
    have hb7 := T8.below_kx1 HB.out (T8.kx_set7 (w := x1) (g := w.heap.size + 1) (a := .int .i64 5) (b := .string ⟨#[]⟩) (c := .int .i64 0) (d := .bool false) (x := .slice an 0 cn) (y := .slice am 0 cm) (z := .slice ak 0 ck)) (by omega)
    exact bodyPost_ret (v := t0V 5 an cn am cm ak ck) (res_cell rfl rfl (T8.resT hm)) rfl ⟨⟨an, cn, am, cm, ak, ck, rfl⟩, hb7⟩
  · have HB2 : Hid (Below w.heap.size w ((w.alloc (.cells #[.int .i64 3, .bool s, .slice ao n cap, .string t, .bool b] 26)).alloc (.cells #[.int .i64 0, .string ⟨#[]⟩, .int .i64 0, .bool false, .slice none 0 0, .slice none 0 0, .slice none 0 0] 41))) := two_below w _ _
    have HZ2 : Hid (((w.alloc (.cells #[.int .i64 3, .bool s, .slice ao n cap, .string t, .bool b] 26)).alloc (.cells #[.int .i64 0, .string ⟨#[]⟩, .int .i64 0, .bool false, .slice none 0 0, .slice none 0 0, .slice none 0 0] 41)).heap[w.heap.size + 1]? = some (.cells #[.int .i64 0, .string ⟨#[]⟩, .int .i64 0, .bool false, .slice none 0 0, .slice none 0 0, .slice none 0 0] 41 (0, 0))) := two_new _ _
    go_enter Tryz.func15, Tryz.ntmps15
    go_wp2_with fail
    refine (HM.out 6 (by decide) _).mono ?_
    rintro e x1 ⟨⟨an, cn, am, cm, ak, ck, rfl⟩, hb⟩
    have HZ : Hid (x1.heap[w.heap.size + 1]? = some (.cells #[.int .i64 0, .string ⟨#[]⟩, .int .i64 0, .bool false, .slice none 0 0, .slice none 0 0, .slice none 0 0] 41 (0, 0))) := kept5 hb HZ2.out
    have HB : Hid (Below w.heap.size w x1) := HB2.out.trans (hb.mono HB2.out.size)
    clear hb
    have k7 := T8.bx7 HZ.out
    have k7f := T8.bx7f HZ.out
    go_wp2_with fail
    have hm := T8.bx7_set (a' := .int .i64 6) (b' := .string ⟨#[]⟩) (c' := .int .i64 0) (d' := .bool false) (x' := .slice an 0 cn) (y' := .slice am 0 cm) (z' := .slice ak 0 ck) HZ.out
    have hb7 := T8.below_kx1 HB.out (T8.kx_set7 (w := x1) (g := w.heap.size + 1) (a := .int .i64 6) (b := .string ⟨#[]⟩) (c := .int .i64 0) (d := .bool false) (x := .slice an 0 cn) (y := .slice am 0 cm) (z := .slice ak 0 ck)) (by omega)
    exact bodyPost_ret (v := t0V 6 an cn am cm ak ck) (res_cell rfl rfl (T8.resT hm)) rfl ⟨⟨an, cn, am, cm, ak, ck, rfl⟩, hb7⟩
end Go.Proofs.YtfkkhabpnnealaaGreatDoor

