/-
  Quote of scan and of the document, walked: a string within quotes.
-/
import Derived.Test.YtmfdfkbcommjfaaDoorTokens
import Derived.Test.YtmfdfkbcommjfaaDoorSaF
namespace Go.Proofs.YtmfdfkbcommjfaaDoor
open Go.RowKit
attribute [local go_sem ↓] Go.wp_at_zero Go.wp_at_succ
theorem bC_app (l m : List UInt8) : bC (l ++ m) = bC l ++ bC m := by simp [bC]
theorem take_flat {S : ByteArray} {i : Nat} (h : i < S.size) : (S.data.toList.take (i + 1)).flatMap qb = (S.data.toList.take i).flatMap qb ++ qb (S[i]'h) := by
  rw [List.take_add_one, bget S i h, List.flatMap_append]
  simp
set_option maxRecDepth 100000 in
set_option maxHeartbeats 2000000 in
theorem rquote_any (S : ByteArray) (w : World) (hS : S.size ≤ 65536) : Calls Tryd.prog 21 #[.string S] w fun e w' => e = .returned (.string (bsL (quo S.data.toList))) ∧ Below w.heap.size w w' := by
  obtain ⟨i5, i1, i2, i3, i4⟩ := info5_ex
  have HI : Hid (Tryd.prog.info? 5 = some i5 ∧ i5.zero = some (.int .u8 0) ∧ i5.size = 1 ∧ i5.bytes = 1) := ⟨i1, i2, i3, i4⟩
  clear i1 i2 i3 i4
  go_enter Tryd.func21, Tryd.ntmps21
  go_wp2_with fail
  generalize hW : (World.alloc _ _) = W
  have HB : Hid (Below w.heap.size w W) := by rw [← hW]; exact (Below.refl _ _).alloc (Nat.le_refl _) _
  have HO : Hid (W.ownsRow w.heap.size 5 1 (.slice (some ⟨w.heap.size, 0, none⟩) 1 1) 1 (bC [34])) := ⟨rfl, .inr ⟨w.heap.size, 1, #[.int .u8 34], rfl, Nat.le_refl _, by rw [← hW]; exact heap_alloc_new w _, Nat.le_refl _, by unfold maxLen; omega, rfl, rfl⟩⟩
  clear hW
  go_loopw [3, 4] (fun u3 u4 wr => ∃ (i : Nat) (acc : List UInt8), i ≤ S.size ∧ u4 = .int .i64 i ∧ Below w.heap.size w wr ∧ wr.ownsRow w.heap.size 5 1 u3 acc.length (bC acc) ∧ acc = 34 :: (S.data.toList.take i).flatMap qb ∧ acc.length ≤ 2 * i + 1) (fun _ u4 _ => S.size - (intOf u4).toNat)
  case atStart => exact ⟨0, [34], Nat.zero_le _, rfl, HB.out, HO.out, by simp, by simp⟩
  case round =>
    clear HB HO
    obtain ⟨i, acc, hi, rfl, hbl, hown, hac, hal⟩ := hrel
    have HBL : Hid (Below w.heap.size w wr) := hbl
    have HOW : Hid (wr.ownsRow w.heap.size 5 1 u3 acc.length (bC acc)) := hown
    have HAC : Hid (acc = 34 :: (S.data.toList.take i).flatMap qb) := hac
    have hsz := hbl.size
    clear hbl hown hac
    by_cases hil : i < S.size
    · have z1 : (i : Int) < (S.size : Int) := by omega
      have z2 : (0 : Int) ≤ (i : Int) := by omega
      by_cases q92 : S[i]'hil = 92
      · have k92 : (((S[i]'hil).toNat : Int) == 92) = true := by rw [q92]; rfl
        have HQ : Hid (qb (S[i]'hil) = [92, S[i]'hil]) := by show _ = _; rw [q92]; rfl
        clear q92
        go_wp2_with (at_builtin; refine wpList_append_lies _ (by rfl) _ _ _ (by rfl) w.heap.size 5 i5 _ 1 1 Tryd.underlying34 HI.out.1 HI.out.2.1 HI.out.2.2.1 HI.out.2.2.2 rfl (by omega) u3 acc.length (bC acc) (by rfl) (HOW.out.alloc _) ⟨wr.heap.size, 0, none⟩ 2 2 [.int .u8 92, .int .u8 ((S[i]'hil).toNat : Int)] (by rfl) (by rfl) (World.news_of_block (heap_alloc_new wr _)) (by simp [Value.oneCell']) (by omega) (by unfold maxLen; omega) (by omega) (by simp; omega) (wr.heap.size + 1) (by simp) ?_; intro gg cap w2 hown1 hgrow hat hlt1; have HW3 : Hid (w2.ownsRow w.heap.size 5 1 (.slice (some ⟨gg, 0, none⟩) (acc.length + 2) cap) (acc.length + 2) (bC acc ++ [.int .u8 92, .int .u8 ((S[i]'hil).toNat : Int)])) := hown1; have HB3 : Hid (Below w.heap.size w w2) := ((HBL.out.alloc (by omega) _).grown hgrow (by simp; omega) (fun k hk => (own_blk HOW.out hk).1)); clear hown1 hgrow hat hlt1)
        go_roundw
        case rel => exact ⟨i + 1, acc ++ [92, S[i]'hil], by omega, by go_num, HB3.out, by rw [bC_app, List.length_append]; exact HW3.out, by rw [take_flat hil, HQ.out, HAC.out]; rfl, by rw [List.length_append]; simp; omega⟩
        case measure => simp [intOf]; omega
      have k92 : (((S[i]'hil).toNat : Int) == 92) = false := nat_bne (b := 92) (fun h => q92 (UInt8.toNat_inj.1 h))
      by_cases q34 : S[i]'hil = 34
      · have k34 : (((S[i]'hil).toNat : Int) == 34) = true := by rw [q34]; rfl
        have HQ : Hid (qb (S[i]'hil) = [92, S[i]'hil]) := by show _ = _; rw [q34]; rfl
        clear q34 q92
        go_wp2_with (at_builtin; refine wpList_append_lies _ (by rfl) _ _ _ (by rfl) w.heap.size 5 i5 _ 1 1 Tryd.underlying34 HI.out.1 HI.out.2.1 HI.out.2.2.1 HI.out.2.2.2 rfl (by omega) u3 acc.length (bC acc) (by rfl) (HOW.out.alloc _) ⟨wr.heap.size, 0, none⟩ 2 2 [.int .u8 92, .int .u8 ((S[i]'hil).toNat : Int)] (by rfl) (by rfl) (World.news_of_block (heap_alloc_new wr _)) (by simp [Value.oneCell']) (by omega) (by unfold maxLen; omega) (by omega) (by simp; omega) (wr.heap.size + 1) (by simp) ?_; intro gg cap w2 hown1 hgrow hat hlt1; have HW3 : Hid (w2.ownsRow w.heap.size 5 1 (.slice (some ⟨gg, 0, none⟩) (acc.length + 2) cap) (acc.length + 2) (bC acc ++ [.int .u8 92, .int .u8 ((S[i]'hil).toNat : Int)])) := hown1; have HB3 : Hid (Below w.heap.size w w2) := ((HBL.out.alloc (by omega) _).grown hgrow (by simp; omega) (fun k hk => (own_blk HOW.out hk).1)); clear hown1 hgrow hat hlt1)
        go_roundw
        case rel => exact ⟨i + 1, acc ++ [92, S[i]'hil], by omega, by go_num, HB3.out, by rw [bC_app, List.length_append]; exact HW3.out, by rw [take_flat hil, HQ.out, HAC.out]; rfl, by rw [List.length_append]; simp; omega⟩
        case measure => simp [intOf]; omega
      have k34 : (((S[i]'hil).toNat : Int) == 34) = false := nat_bne (b := 34) (fun h => q34 (UInt8.toNat_inj.1 h))
      by_cases q10 : S[i]'hil = 10
      · have k10 : (((S[i]'hil).toNat : Int) == 10) = true := by rw [q10]; rfl
        have HQ : Hid (qb (S[i]'hil) = [92, 110]) := by show _ = _; rw [q10]; rfl
        clear q10 q92 q34
        go_wp2_with (at_builtin; refine wpList_append_lies _ (by rfl) _ _ _ (by rfl) w.heap.size 5 i5 _ 1 1 Tryd.underlying34 HI.out.1 HI.out.2.1 HI.out.2.2.1 HI.out.2.2.2 rfl (by omega) u3 acc.length (bC acc) (by rfl) (HOW.out.alloc _) ⟨wr.heap.size, 0, none⟩ 2 2 [.int .u8 92, .int .u8 110] (by rfl) (by rfl) (World.news_of_block (heap_alloc_new wr _)) (by simp [Value.oneCell']) (by omega) (by unfold maxLen; omega) (by omega) (by simp; omega) (wr.heap.size + 1) (by simp) ?_; intro gg cap w2 hown1 hgrow hat hlt1; have HW3 : Hid (w2.ownsRow w.heap.size 5 1 (.slice (some ⟨gg, 0, none⟩) (acc.length + 2) cap) (acc.length + 2) (bC acc ++ [.int .u8 92, .int .u8 110])) := hown1; have HB3 : Hid (Below w.heap.size w w2) := ((HBL.out.alloc (by omega) _).grown hgrow (by simp; omega) (fun k hk => (own_blk HOW.out hk).1)); clear hown1 hgrow hat hlt1)
        go_roundw
        case rel => exact ⟨i + 1, acc ++ [92, 110], by omega, by go_num, HB3.out, by rw [bC_app, List.length_append]; exact HW3.out, by rw [take_flat hil, HQ.out, HAC.out]; rfl, by rw [List.length_append]; simp; omega⟩
        case measure => simp [intOf]; omega
      have k10 : (((S[i]'hil).toNat : Int) == 10) = false := nat_bne (b := 10) (fun h => q10 (UInt8.toNat_inj.1 h))
      by_cases q9 : S[i]'hil = 9
      · have k9 : (((S[i]'hil).toNat : Int) == 9) = true := by rw [q9]; rfl
        have HQ : Hid (qb (S[i]'hil) = [92, 116]) := by show _ = _; rw [q9]; rfl
        clear q9 q92 q34 q10
        go_wp2_with (at_builtin; refine wpList_append_lies _ (by rfl) _ _ _ (by rfl) w.heap.size 5 i5 _ 1 1 Tryd.underlying34 HI.out.1 HI.out.2.1 HI.out.2.2.1 HI.out.2.2.2 rfl (by omega) u3 acc.length (bC acc) (by rfl) (HOW.out.alloc _) ⟨wr.heap.size, 0, none⟩ 2 2 [.int .u8 92, .int .u8 116] (by rfl) (by rfl) (World.news_of_block (heap_alloc_new wr _)) (by simp [Value.oneCell']) (by omega) (by unfold maxLen; omega) (by omega) (by simp; omega) (wr.heap.size + 1) (by simp) ?_; intro gg cap w2 hown1 hgrow hat hlt1; have HW3 : Hid (w2.ownsRow w.heap.size 5 1 (.slice (some ⟨gg, 0, none⟩) (acc.length + 2) cap) (acc.length + 2) (bC acc ++ [.int .u8 92, .int .u8 116])) := hown1; have HB3 : Hid (Below w.heap.size w w2) := ((HBL.out.alloc (by omega) _).grown hgrow (by simp; omega) (fun k hk => (own_blk HOW.out hk).1)); clear hown1 hgrow hat hlt1)
        go_roundw
        case rel => exact ⟨i + 1, acc ++ [92, 116], by omega, by go_num, HB3.out, by rw [bC_app, List.length_append]; exact HW3.out, by rw [take_flat hil, HQ.out, HAC.out]; rfl, by rw [List.length_append]; simp; omega⟩
        case measure => simp [intOf]; omega
      have k9 : (((S[i]'hil).toNat : Int) == 9) = false := nat_bne (b := 9) (fun h => q9 (UInt8.toNat_inj.1 h))
      have HQ : Hid (qb (S[i]'hil) = [S[i]'hil]) := by show _ = _; unfold qb; rw [if_neg q92, if_neg q34, if_neg q10, if_neg q9]
      clear q92 q34 q10 q9
      go_wp2_with (at_builtin; refine wpList_append_lies _ (by rfl) _ _ _ (by rfl) w.heap.size 5 i5 _ 1 1 Tryd.underlying34 HI.out.1 HI.out.2.1 HI.out.2.2.1 HI.out.2.2.2 rfl (by omega) u3 acc.length (bC acc) (by rfl) (HOW.out.alloc _) ⟨wr.heap.size, 0, none⟩ 1 1 [.int .u8 ((S[i]'hil).toNat : Int)] (by rfl) (by rfl) (World.news_of_block (heap_alloc_new wr _)) (by simp [Value.oneCell']) (by omega) (by unfold maxLen; omega) (by omega) (by simp; omega) (wr.heap.size + 1) (by simp) ?_; intro gg cap w2 hown1 hgrow hat hlt1; have HW3 : Hid (w2.ownsRow w.heap.size 5 1 (.slice (some ⟨gg, 0, none⟩) (acc.length + 1) cap) (acc.length + 1) (bC acc ++ [.int .u8 ((S[i]'hil).toNat : Int)])) := hown1; have HB3 : Hid (Below w.heap.size w w2) := ((HBL.out.alloc (by omega) _).grown hgrow (by simp; omega) (fun k hk => (own_blk HOW.out hk).1)); clear hown1 hgrow hat hlt1)
      go_roundw
      case rel => exact ⟨i + 1, acc ++ [S[i]'hil], by omega, by go_num, HB3.out, by rw [bC_app, List.length_append]; exact HW3.out, by rw [take_flat hil, HQ.out, HAC.out]; rfl, by rw [List.length_append]; simp; omega⟩
      case measure => simp [intOf]; omega
    · have z1 : ¬ (i : Int) < (S.size : Int) := by omega
      have HE : Hid (quo S.data.toList = acc ++ [34]) := by
        show _ = _
        rw [HAC.out, List.take_of_length_le (by rw [bal]; omega)]; rfl
      go_wp2_with (at_builtin; refine wpList_append_lies _ (by rfl) _ _ _ (by rfl) w.heap.size 5 i5 _ 1 1 Tryd.underlying34 HI.out.1 HI.out.2.1 HI.out.2.2.1 HI.out.2.2.2 rfl (by omega) u3 acc.length (bC acc) (by rfl) (HOW.out.alloc _) ⟨wr.heap.size, 0, none⟩ 1 1 [.int .u8 34] (by rfl) (by rfl) (World.news_of_block (heap_alloc_new wr _)) (by simp [Value.oneCell']) (by omega) (by unfold maxLen; omega) (by omega) (by simp; omega) (wr.heap.size + 1) (by simp) ?_; intro gg cap w2 hown1 hgrow hat hlt1; have HW3 : Hid (w2.ownsRow w.heap.size 5 1 (.slice (some ⟨gg, 0, none⟩) (acc.length + 1) cap) (acc.length + 1) (bC acc ++ [.int .u8 34])) := hown1; have HB3 : Hid (Below w.heap.size w w2) := ((HBL.out.alloc (by omega) _).grown hgrow (by simp; omega) (fun k hk => (own_blk HOW.out hk).1)); clear hown1 hgrow hat hlt1; have hcv : (convert 34 9 (.slice (some ⟨gg, 0, none⟩) (acc.length + 1) cap)).run Tryd.prog w2 = .ok (.string (bsL (acc ++ [34]))) w2 := own_string (by rw [bC_snoc]; exact HW3.out))
      go_ret
      exact ⟨by rw [HE.out]; rfl, HB3.out⟩
set_option maxRecDepth 100000 in
set_option maxHeartbeats 4000000 in
theorem quote_any (S : ByteArray) (w : World) (hS : S.size ≤ 65536) : Calls Tryd.prog 20 #[.string S] w fun e w' => e = .returned (.string (bsL (quo S.data.toList))) ∧ Below w.heap.size w w' := by
  have hI0 := Lib.IsBuilderF.of (Lib.fresh_isBuilder 52 5 w)
  have HI0 : Hid (Lib.IsBuilderF 52 5 w.heap.size w.heap.size [] (w.alloc (.cells #[.pointer none, .slice none 0 0] 52))) := hI0
  have HB0 : Hid (Below w.heap.size w (w.alloc (.cells #[.pointer none, .slice none 0 0] 52))) := (Below.refl _ _).alloc (Nat.le_refl _) _
  clear hI0
  go_enter Tryd.func20, Tryd.ntmps20
  go_wp2_with (go_at_call 30; refine (Tryd.Builder_WriteByte_k w.heap.size w.heap.size _ _ _ HI0.out (by simp) (by simp)).mono ?_; rintro e W1 ⟨rfl, h3, b3, k3⟩; have H1 : Hid (Lib.IsBuilderF 52 5 w.heap.size w.heap.size (Lib.byteCells [34]) W1) := Or.inr h3; have HB1 : Hid (Below w.heap.size w W1) := HB0.out.trans b3; clear h3 b3 k3)
  go_loopw [9] (fun u9 wr => ∃ (i : Nat) (acc : List UInt8), i ≤ S.size ∧ u9 = .int .i64 i ∧ Below w.heap.size w wr ∧ Lib.IsBuilderF 52 5 w.heap.size w.heap.size (Lib.byteCells acc) wr ∧ acc = 34 :: (S.data.toList.take i).flatMap qb ∧ acc.length ≤ 2 * i + 1) (fun u9 _ => S.size - (intOf u9).toNat)
  case atStart => exact ⟨0, [34], Nat.zero_le _, rfl, HB1.out, H1.out, by simp, by simp⟩
  case round =>
    clear H1 HB1 HI0 HB0
    obtain ⟨i, acc, hi, rfl, hbl, hib, hac, hal⟩ := hrel
    have HBL : Hid (Below w.heap.size w wr) := hbl
    have HIB : Hid (Lib.IsBuilderF 52 5 w.heap.size w.heap.size (Lib.byteCells acc) wr) := hib
    have HAC : Hid (acc = 34 :: (S.data.toList.take i).flatMap qb) := hac
    have hsz := hbl.size
    clear hbl hib hac
    by_cases hil : i < S.size
    · have z1 : (i : Int) < (S.size : Int) := by omega
      have z2 : (0 : Int) ≤ (i : Int) := by omega
      have h31 := fun w => Tryd.strings_IndexByte ⟨#[92, 34, 10, 9]⟩ ((S[i]'hil).toNat : Int) w
      have e1 : (((S[i]'hil).toNat : Int).toNat.toUInt8) = S[i]'hil := by simp
      have e2 : (⟨#[92, 34, 10, 9]⟩ : ByteArray).data.toList = [92, 34, 10, 9] := rfl
      rw [e1, e2] at h31
      clear e1 e2
      by_cases q92 : S[i]'hil = 92
      · have hix : Lib.indexByte [92, 34, 10, 9] (S[i]'hil) = 0 := by rw [q92]; rfl
        rw [hix] at h31
        have HQ : Hid (qb (S[i]'hil) = [92, 92]) := by show _ = _; rw [q92]; rfl
        clear hix q92
        go_wp2_with (first
          | (go_at_call 31; refine (h31 _).mono ?_; clear h31; rintro e w5 ⟨rfl, hw5⟩; obtain rfl := hw5.symm)
          | (go_at_call 30; refine (Tryd.Builder_WriteByte_k w.heap.size w.heap.size _ _ _ HIB.out (by rw [Lib.byteCells_length]; omega) (by omega)).mono ?_; rintro e W3 ⟨rfl, h3, b3, k3⟩; have H3 : Hid (Lib.IsBuilderF 52 5 w.heap.size w.heap.size (Lib.byteCells acc ++ [.int .u8 92]) W3) := Or.inr h3; have B3 : Hid (Below w.heap.size w W3) := HBL.out.trans b3; have hz3 := B3.out.size; clear h3 b3 k3 HIB)
          | (go_at_call 30; refine (Tryd.Builder_WriteByte_k w.heap.size w.heap.size _ _ _ H3.out (by rw [List.length_append, Lib.byteCells_length]; simp; omega) (by omega)).mono ?_; rintro e W4 ⟨rfl, h4, b4, k4⟩; have H4 : Hid (Lib.IsBuilderF 52 5 w.heap.size w.heap.size (Lib.byteCells acc ++ [.int .u8 92] ++ [.int .u8 92]) W4) := Or.inr h4; have B4 : Hid (Below w.heap.size w W4) := B3.out.trans b4; clear h4 b4 k4))
        go_roundw
        case rel => exact ⟨i + 1, acc ++ [92, 92], by omega, by go_num, B4.out, by rw [Lib.byteCells_append]; have := H4.out; rw [List.append_assoc] at this; exact this, by rw [take_flat hil, HQ.out, HAC.out]; rfl, by rw [List.length_append]; simp; omega⟩
        case measure => simp [intOf]; omega
      by_cases q34 : S[i]'hil = 34
      · have hix : Lib.indexByte [92, 34, 10, 9] (S[i]'hil) = 1 := by rw [q34]; rfl
        rw [hix] at h31
        have HQ : Hid (qb (S[i]'hil) = [92, 34]) := by show _ = _; rw [q34]; rfl
        clear hix q34 q92
        go_wp2_with (first
          | (go_at_call 31; refine (h31 _).mono ?_; clear h31; rintro e w5 ⟨rfl, hw5⟩; obtain rfl := hw5.symm)
          | (go_at_call 30; refine (Tryd.Builder_WriteByte_k w.heap.size w.heap.size _ _ _ HIB.out (by rw [Lib.byteCells_length]; omega) (by omega)).mono ?_; rintro e W3 ⟨rfl, h3, b3, k3⟩; have H3 : Hid (Lib.IsBuilderF 52 5 w.heap.size w.heap.size (Lib.byteCells acc ++ [.int .u8 92]) W3) := Or.inr h3; have B3 : Hid (Below w.heap.size w W3) := HBL.out.trans b3; have hz3 := B3.out.size; clear h3 b3 k3 HIB)
          | (go_at_call 30; refine (Tryd.Builder_WriteByte_k w.heap.size w.heap.size _ _ _ H3.out (by rw [List.length_append, Lib.byteCells_length]; simp; omega) (by omega)).mono ?_; rintro e W4 ⟨rfl, h4, b4, k4⟩; have H4 : Hid (Lib.IsBuilderF 52 5 w.heap.size w.heap.size (Lib.byteCells acc ++ [.int .u8 92] ++ [.int .u8 34]) W4) := Or.inr h4; have B4 : Hid (Below w.heap.size w W4) := B3.out.trans b4; clear h4 b4 k4))
        go_roundw
        case rel => exact ⟨i + 1, acc ++ [92, 34], by omega, by go_num, B4.out, by rw [Lib.byteCells_append]; have := H4.out; rw [List.append_assoc] at this; exact this, by rw [take_flat hil, HQ.out, HAC.out]; rfl, by rw [List.length_append]; simp; omega⟩
        case measure => simp [intOf]; omega
      by_cases q10 : S[i]'hil = 10
      · have hix : Lib.indexByte [92, 34, 10, 9] (S[i]'hil) = 2 := by rw [q10]; rfl
        rw [hix] at h31
        have HQ : Hid (qb (S[i]'hil) = [92, 110]) := by show _ = _; rw [q10]; rfl
        clear hix q10 q92 q34
        go_wp2_with (first
          | (go_at_call 31; refine (h31 _).mono ?_; clear h31; rintro e w5 ⟨rfl, hw5⟩; obtain rfl := hw5.symm)
          | (go_at_call 30; refine (Tryd.Builder_WriteByte_k w.heap.size w.heap.size _ _ _ HIB.out (by rw [Lib.byteCells_length]; omega) (by omega)).mono ?_; rintro e W3 ⟨rfl, h3, b3, k3⟩; have H3 : Hid (Lib.IsBuilderF 52 5 w.heap.size w.heap.size (Lib.byteCells acc ++ [.int .u8 92]) W3) := Or.inr h3; have B3 : Hid (Below w.heap.size w W3) := HBL.out.trans b3; have hz3 := B3.out.size; clear h3 b3 k3 HIB)
          | (go_at_call 30; refine (Tryd.Builder_WriteByte_k w.heap.size w.heap.size _ _ _ H3.out (by rw [List.length_append, Lib.byteCells_length]; simp; omega) (by omega)).mono ?_; rintro e W4 ⟨rfl, h4, b4, k4⟩; have H4 : Hid (Lib.IsBuilderF 52 5 w.heap.size w.heap.size (Lib.byteCells acc ++ [.int .u8 92] ++ [.int .u8 110]) W4) := Or.inr h4; have B4 : Hid (Below w.heap.size w W4) := B3.out.trans b4; clear h4 b4 k4))
        go_roundw
        case rel => exact ⟨i + 1, acc ++ [92, 110], by omega, by go_num, B4.out, by rw [Lib.byteCells_append]; have := H4.out; rw [List.append_assoc] at this; exact this, by rw [take_flat hil, HQ.out, HAC.out]; rfl, by rw [List.length_append]; simp; omega⟩
        case measure => simp [intOf]; omega
      by_cases q9 : S[i]'hil = 9
      · have hix : Lib.indexByte [92, 34, 10, 9] (S[i]'hil) = 3 := by rw [q9]; rfl
        rw [hix] at h31
        have HQ : Hid (qb (S[i]'hil) = [92, 116]) := by show _ = _; rw [q9]; rfl
        clear hix q9 q92 q34 q10
        go_wp2_with (first
          | (go_at_call 31; refine (h31 _).mono ?_; clear h31; rintro e w5 ⟨rfl, hw5⟩; obtain rfl := hw5.symm)
          | (go_at_call 30; refine (Tryd.Builder_WriteByte_k w.heap.size w.heap.size _ _ _ HIB.out (by rw [Lib.byteCells_length]; omega) (by omega)).mono ?_; rintro e W3 ⟨rfl, h3, b3, k3⟩; have H3 : Hid (Lib.IsBuilderF 52 5 w.heap.size w.heap.size (Lib.byteCells acc ++ [.int .u8 92]) W3) := Or.inr h3; have B3 : Hid (Below w.heap.size w W3) := HBL.out.trans b3; have hz3 := B3.out.size; clear h3 b3 k3 HIB)
          | (go_at_call 30; refine (Tryd.Builder_WriteByte_k w.heap.size w.heap.size _ _ _ H3.out (by rw [List.length_append, Lib.byteCells_length]; simp; omega) (by omega)).mono ?_; rintro e W4 ⟨rfl, h4, b4, k4⟩; have H4 : Hid (Lib.IsBuilderF 52 5 w.heap.size w.heap.size (Lib.byteCells acc ++ [.int .u8 92] ++ [.int .u8 116]) W4) := Or.inr h4; have B4 : Hid (Below w.heap.size w W4) := B3.out.trans b4; clear h4 b4 k4))
        go_roundw
        case rel => exact ⟨i + 1, acc ++ [92, 116], by omega, by go_num, B4.out, by rw [Lib.byteCells_append]; have := H4.out; rw [List.append_assoc] at this; exact this, by rw [take_flat hil, HQ.out, HAC.out]; rfl, by rw [List.length_append]; simp; omega⟩
        case measure => simp [intOf]; omega
      have hix : Lib.indexByte [92, 34, 10, 9] (S[i]'hil) = -1 := by
        have ne : ∀ x : UInt8, S[i]'hil ≠ x → (x == S[i]'hil) = false := fun x h => by simpa using fun e => h e.symm
        simp [Lib.indexByte, ne 92 q92, ne 34 q34, ne 10 q10, ne 9 q9]
      rw [hix] at h31
      have HQ : Hid (qb (S[i]'hil) = [S[i]'hil]) := by show _ = _; unfold qb; rw [if_neg q92, if_neg q34, if_neg q10, if_neg q9]
      clear hix q92 q34 q10 q9
      go_wp2_with (first
        | (go_at_call 31; refine (h31 _).mono ?_; clear h31; rintro e w5 ⟨rfl, hw5⟩; obtain rfl := hw5.symm)
        | (go_at_call 30; refine (Tryd.Builder_WriteByte_k w.heap.size w.heap.size _ _ _ HIB.out (by rw [Lib.byteCells_length]; omega) (by omega)).mono ?_; rintro e W3 ⟨rfl, h3, b3, k3⟩; have H3 : Hid (Lib.IsBuilderF 52 5 w.heap.size w.heap.size (Lib.byteCells acc ++ [.int .u8 ((S[i]'hil).toNat : Int)]) W3) := Or.inr h3; have B3 : Hid (Below w.heap.size w W3) := HBL.out.trans b3; clear h3 b3 k3))
      go_roundw
      case rel => exact ⟨i + 1, acc ++ [S[i]'hil], by omega, by go_num, B3.out, by rw [Lib.byteCells_append]; exact H3.out, by rw [take_flat hil, HQ.out, HAC.out]; rfl, by rw [List.length_append]; simp; omega⟩
      case measure => simp [intOf]; omega
    · have z1 : ¬ (i : Int) < (S.size : Int) := by omega
      have HE : Hid (quo S.data.toList = acc ++ [34]) := by
        show _ = _
        rw [HAC.out, List.take_of_length_le (by rw [bal]; omega)]; rfl
      go_wp2_with (first
        | (go_at_call 30; refine (Tryd.Builder_WriteByte_k w.heap.size w.heap.size _ _ _ HIB.out (by rw [Lib.byteCells_length]; omega) (by omega)).mono ?_; rintro e W3 ⟨rfl, h3, b3, k3⟩; have H3 : Hid (Lib.IsBuilderF 52 5 w.heap.size w.heap.size (Lib.byteCells (acc ++ [34])) W3) := (by rw [Lib.byteCells_append]; exact Or.inr h3); have B3 : Hid (Below w.heap.size w W3) := HBL.out.trans b3; have hz3 := B3.out.size; clear h3 b3 k3)
        | (go_at_call 32; refine (Tryd.Builder_String_any_k w.heap.size w.heap.size (acc ++ [34]) W3 H3.out (by omega)).mono ?_; rintro e W4 ⟨rfl, _, b4, _⟩; have B4 : Hid (Below w.heap.size w W4) := B3.out.trans b4; clear b4))
      go_ret
      exact ⟨by rw [HE.out]; rfl, B4.out⟩
end Go.Proofs.YtmfdfkbcommjfaaDoor
