/-
  longRemark of the reader, walked.
-/
import Derived.Test.YtmfdfkbcommjfaaDoorWalkH
namespace Go.Proofs.YtmfdfkbcommjfaaDoor
open Go.RowKit
attribute [local go_sem ↓] Go.wp_at_zero Go.wp_at_succ
/-- bytealg's MaxLen is a number -/
def Mx (w : World) : Prop := ∃ m, w.cell? ⟨2, 0, none⟩ = some (.int .i64 m)
theorem Mx.below {B : Nat} {w w' : World} (h : Mx w) (hb : Below B w w') (hB : 3 ≤ B) : Mx w' := by
  obtain ⟨m, h⟩ := h
  exact ⟨m, by rw [hb.cell (by show 2 < B; omega)]; exact h⟩
theorem cut_call (S : ByteArray) (p : Nat) (w : World) (hS : S.size ≤ 65536) (hM : Mx w) :
    Calls Tryd.prog 68 #[.string (S.extract p S.size), .string ⟨#[42, 47]⟩] w fun e w' => e = .returned (.tuple #[.string ⟨(Lib.cut (S.data.toList.drop p) [42, 47]).1.toArray⟩, .string ⟨(Lib.cut (S.data.toList.drop p) [42, 47]).2.1.toArray⟩, .bool (Lib.cut (S.data.toList.drop p) [42, 47]).2.2]) ∧ Below w.heap.size w w' := by
  obtain ⟨m, hm⟩ := hM
  have h := Tryd.strings_Cut (S.extract p S.size) ⟨#[42, 47]⟩ m w (by simp; omega) hm
  rw [ext_drop] at h
  refine h.mono ?_
  rintro e w' ⟨rfl, q, rfl⟩
  exact ⟨rfl, below_drewN (Below.refl _ _) q⟩
set_option maxRecDepth 100000 in
set_option maxHeartbeats 1000000 in
theorem long_bad (w : World) (base R : Nat) (S : ByteArray) (s : St) (h : Rd w base R S s) (p : Nat) (hp : p + 2 ≤ S.size) (hS : S.size ≤ 65536) (hM : Mx w) (hE : endOf (S.data.toList.drop (p + 2)) = none) :
    Calls Tryd.prog 60 #[.pointer (some ⟨R, 0, none⟩), .int .i64 p] w (PanP w base p) := by
  have c0 := h.cell0
  have hlt := h.lt
  have hle := h.le
  have h68 := cut_call S (p + 2) w hS hM
  rw [cut_none hE] at h68
  have z1 : (0 : Int) ≤ (p : Int) + 2 := by omega
  have z2 : (p : Int) + 2 ≤ (S.size : Int) := by omega
  have z3 : ((p : Int) + 2).toNat = p + 2 := by omega
  clear h hE hM
  go_enter Tryd.func60, Tryd.ntmps60
  go_wp2_with (first | (go_at_call 68; refine h68.mono ?_; rintro e w1 ⟨rfl, hb1⟩) | (go_at_call 62; refine (wrongAt_any _ _).mono ?_; rintro e w2 ⟨rfl, rfl⟩))
  exact ⟨rfl, rfl, ((hb1.alloc hb1.size _).mono (by omega))⟩
theorem arr_list (l : List UInt8) : (⟨l.toArray⟩ : ByteArray).data.toList = l := by simp
theorem arr_size (l : List UInt8) : (⟨l.toArray⟩ : ByteArray).size = l.length := by simp [ByteArray.size]
set_option maxRecDepth 100000 in
set_option maxHeartbeats 2000000 in
theorem long_ok (w : World) (base R : Nat) (S : ByteArray) (s : St) (h : Rd w base R S s) (p k : Nat) (hp : p + 2 ≤ S.size) (hS : S.size ≤ 65536) (hM : Mx w) (hl : s.rems.length ≤ 1000000) (hl2 : s.toks.length ≤ 1000000) (hE : endOf (S.data.toList.drop (p + 2)) = some k) :
    Calls Tryd.prog 60 #[.pointer (some ⟨R, 0, none⟩), .int .i64 p] w (AddP w base R S (stp p s (.rmk (k + 4) (((S.data.toList.drop (p + 2)).take k).contains 10))) (.int .i64 ((p + (k + 4) : Nat) : Int))) := by
  have c0 := h.cell0
  have hlt := h.lt
  have hle := h.le
  have h68 := cut_call S (p + 2) w hS hM
  rw [cut_some hE] at h68
  have hk := endOf_le hE
  rw [List.length_drop, bal] at hk
  have h69 := fun w => Tryd.strings_Contains_one ⟨((S.data.toList.drop (p + 2)).take k).toArray⟩ 10 w
  rw [arr_list, has_index] at h69
  have hsz : (⟨((S.data.toList.drop (p + 2)).take k).toArray⟩ : ByteArray).size = k := by rw [arr_size, List.length_take, List.length_drop, bal]; omega
  generalize (S.data.toList.drop (p + 2)).take k = tx at *
  obtain ⟨C, hC⟩ : ∃ C, tx.contains 10 = C := ⟨_, rfl⟩
  rw [hC] at h69 ⊢
  clear hC
  generalize (⟨tx.toArray⟩ : ByteArray) = A at *
  have z1 : (0 : Int) ≤ (p : Int) + 2 := by omega
  have z2 : (p : Int) + 2 ≤ (S.size : Int) := by omega
  have z3 : ((p : Int) + 2).toNat = p + 2 := by omega
  obtain ⟨i33, i1, i2, i3, i4⟩ := info33_ex
  have HI : Hid (Tryd.prog.info? 33 = some i33 ∧ i33.zero = some (.agg #[.int .i64 0, .int .i64 0]) ∧ i33.size = 2 ∧ i33.bytes = 16) := ⟨i1, i2, i3, i4⟩
  have HH : Hid (Rd w base R S s) := h
  have HP : Hid (((p + (k + 4) : Nat) : Int) = (p : Int) + 2 + (k : Int) + 2) := (by omega : ((p + (k + 4) : Nat) : Int) = (p : Int) + 2 + (k : Int) + 2)
  have HX : Hid (flS s.rems ++ spC (p, p + (k + 4)) = flS s.rems ++ [.int .i64 (p : Int), .int .i64 ((p : Int) + 2 + (k : Int) + 2)]) := by
    show flS s.rems ++ [.int .i64 (p : Int), .int .i64 ((p + (k + 4) : Nat) : Int)] = _
    rw [HP.out]
  have h49 := fun (w : World) (h : Rd w base R S s) => eol_any w base R S s h p hl2
  clear i1 i2 i3 i4 h hM hE
  generalize hN : s.rems.length = N at *
  cases C
  · go_enter Tryd.func60, Tryd.ntmps60
    go_wp2_with (first
      | (go_at_call 68; refine h68.mono ?_; rintro e w1 ⟨rfl, hb1⟩; have HB1 : Hid (Below w.heap.size w w1) := hb1; have H1 : Hid (Rd w1 base R S s) := HH.out.below hb1; obtain ⟨rv, c2, f2, hne, hown, hput⟩ := H1.out.open2; have HO : Hid (w1.ownsRow base 33 2 rv s.rems.length (flS s.rems)) := hown; have HPut : Hid _ := @hput; have hlt' : R < w1.heap.size := (by have := hb1.size; omega); clear hown hput hb1)
      | (go_at_call 69; refine (h69 _).mono ?_; rintro e w2 ⟨rfl, hw2⟩; obtain rfl := hw2.symm)
      | (at_builtin; refine wpList_append_lies _ (by rfl) _ _ _ (by rfl) base 33 i33 _ 2 16 Tryd.underlying30 HI.out.1 HI.out.2.1 HI.out.2.2.1 HI.out.2.2.2 rfl (by omega) rv s.rems.length (flS s.rems) (by rfl) (HO.out.alloc _) ⟨w1.heap.size, 0, none⟩ 1 1 [.int .i64 p, .int .i64 ((p : Int) + 2 + (k : Int) + 2)] (by rfl) (by rfl) (World.news_of_block (heap_alloc_new w1 _)) (by simp [Value.oneCell']) (by omega) (by unfold maxLen; omega) (by omega) (by simp; omega) (w1.heap.size + 1) (by simp) ?_; intro gg cap2 w2 hown1 hgrow hat hlt1; have HO1 : Hid _ := hown1; have HG1 : Hid _ := hgrow; have k1 : w2.cell? ⟨R, 2, none⟩ = some rv := (by rw [hgrow.cell_far ⟨R, 2, none⟩ (by simp; omega) (Ne.symm hne), World.cell?_alloc_lt _ _ _ hlt']; exact c2); have k2 : w2.frozen? ⟨R, 2, none⟩ = false := (by rw [hgrow.frozen_far ⟨R, 2, none⟩ (by simp; omega) (Ne.symm hne), World.frozen?_alloc_old _ _ _ (by show R ≠ w1.heap.size; omega)]; exact f2); clear hown1 hgrow hat))
    go_ret
    have hN2 := hN
    have q := HPut.out ((Below.refl _ w1).alloc (Nat.le_refl _) _) HG1.out (by rw [HX.out]; exact HO1.out)
    rw [hN2] at q
    exact ⟨by rw [HP.out]; rfl, q.1, (HB1.out.mono (by omega)).trans q.2.1, (Oth.below HB1.out).trans q.2.2⟩
  · go_enter Tryd.func60, Tryd.ntmps60
    go_wp2_with (first
      | (go_at_call 68; refine h68.mono ?_; rintro e w1 ⟨rfl, hb1⟩; have HB1 : Hid (Below w.heap.size w w1) := hb1; have H1 : Hid (Rd w1 base R S s) := HH.out.below hb1; clear hb1)
      | (go_at_call 69; refine (h69 _).mono ?_; rintro e w2 ⟨rfl, hw2⟩; obtain rfl := hw2.symm)
      | (go_at_call 49; refine (h49 w1 H1.out).mono ?_; intro e w2 h2; obtain rfl := h2.ret; have H2 : Hid (AddP w1 base R S ⟨eol p s.toks, s.rems⟩ (.tuple #[]) (.returned (.tuple #[])) w2) := h2; obtain ⟨rv, c2, f2, hne, hown, hput⟩ := H2.out.rd.open2; have HO : Hid (w2.ownsRow base 33 2 rv s.rems.length (flS s.rems)) := hown; have HPut : Hid _ := @hput; have hlt' : R < w2.heap.size := H2.out.rd.lt; clear hown hput h2)
      | (at_builtin; refine wpList_append_lies _ (by rfl) _ _ _ (by rfl) base 33 i33 _ 2 16 Tryd.underlying30 HI.out.1 HI.out.2.1 HI.out.2.2.1 HI.out.2.2.2 rfl (by omega) rv s.rems.length (flS s.rems) (by rfl) (HO.out.alloc _) ⟨w2.heap.size, 0, none⟩ 1 1 [.int .i64 p, .int .i64 ((p : Int) + 2 + (k : Int) + 2)] (by rfl) (by rfl) (World.news_of_block (heap_alloc_new w2 _)) (by simp [Value.oneCell']) (by omega) (by unfold maxLen; omega) (by omega) (by simp; omega) (w2.heap.size + 1) (by simp) ?_; intro gg cap2 w3 hown1 hgrow hat hlt1; have HO1 : Hid _ := hown1; have HG1 : Hid _ := hgrow; have k1 : w3.cell? ⟨R, 2, none⟩ = some rv := (by rw [hgrow.cell_far ⟨R, 2, none⟩ (by simp; omega) (Ne.symm hne), World.cell?_alloc_lt _ _ _ hlt']; exact c2); have k2 : w3.frozen? ⟨R, 2, none⟩ = false := (by rw [hgrow.frozen_far ⟨R, 2, none⟩ (by simp; omega) (Ne.symm hne), World.frozen?_alloc_old _ _ _ (by show R ≠ w2.heap.size; omega)]; exact f2); clear hown1 hgrow hat))
    go_ret
    have q := HPut.out ((Below.refl _ w2).alloc (Nat.le_refl _) _) HG1.out (by show World.ownsRow _ _ _ _ _ _ (flS s.rems ++ _); rw [HX.out]; exact HO1.out)
    rw [show (St.mk (eol p s.toks) s.rems).rems.length = N from hN] at q
    exact ⟨by rw [HP.out]; rfl, q.1, (HB1.out.mono (by omega)).trans (H2.out.bl.trans q.2.1), (Oth.below HB1.out).trans (H2.out.ot.trans q.2.2)⟩
end Go.Proofs.YtmfdfkbcommjfaaDoor
