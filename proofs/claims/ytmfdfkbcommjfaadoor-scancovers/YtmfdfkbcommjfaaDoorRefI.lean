/-
  remark of the document's scanner, walked: one with an end of its own.
-/
import Derived.Test.YtmfdfkbcommjfaaDoorRefF
import Derived.Test.YtmfdfkbcommjfaaDoorPcEnd
namespace Go.Proofs.YtmfdfkbcommjfaaDoor
open Go.RowKit
attribute [local go_sem ↓] Go.wp_at_zero Go.wp_at_succ
theorem endOf_at {l : List UInt8} (h : ([42, 47] : List UInt8).isPrefixOf l = true) : endOf l = some 0 := by
  match l, h with
  | b :: c :: t, h =>
    simp [List.isPrefixOf] at h
    obtain ⟨rfl, rfl⟩ := h
    simp [endOf]
  | [b], h => simp [List.isPrefixOf] at h
  | [], h => cases h
theorem endOf_on {b : UInt8} {l : List UInt8} (h : ([42, 47] : List UInt8).isPrefixOf (b :: l) = false) : endOf (b :: l) = (endOf l).map (· + 1) := by
  rw [endOf, if_neg]
  rintro ⟨rfl, h2⟩
  cases l with
  | nil => cases h2
  | cons c t =>
    have : c = 47 := Option.some.inj h2
    subst this
    simp [List.isPrefixOf] at h
theorem take_on {l : List UInt8} {k : Nat} {b : UInt8} (h : l[k]? = some b) : (l.take (k + 1)).contains 10 = ((l.take k).contains 10 || b == 10) := by
  rw [List.take_add_one, h]
  simp
  rw [Bool.eq_iff_iff]
  simp
  constructor
  · rintro (h | h)
    · exact .inl h
    · exact .inr h.symm
  · rintro (h | h)
    · exact .inl h
    · exact .inr h.symm
/-- the loop of a remark with an end: at place j -/
structure LgR (w : World) (base R : Nat) (S : ByteArray) (s : St) (p : Nat) (u : Value) (wr : World) : Prop where
  ex : ∃ j, p + 2 ≤ j ∧ j ≤ S.size ∧ Sc wr base R S j s 0 0 ∧ Below base w wr ∧ endOf (S.data.toList.drop (p + 2)) = (endOf (S.data.toList.drop j)).map (· + (j - (p + 2))) ∧ u = .bool (((S.data.toList.drop (p + 2)).take (j - (p + 2))).contains 10)
theorem LgR.next {w wr : World} {base R : Nat} {S : ByteArray} {s : St} {p j m : Nat} {B : Bool} (hj : j < S.size) (hp : p + 2 ≤ j) (h : Sc wr base R S j s 0 0) (hb : Below base w wr) (he : endOf (S.data.toList.drop (p + 2)) = (endOf (S.data.toList.drop j)).map (· + (j - (p + 2)))) (hB : B = ((S.data.toList.drop (p + 2)).take (j - (p + 2))).contains 10) (ha : ([42, 47] : List UInt8).isPrefixOf (S.data.toList.drop j) = false) :
    LgR w base R S s p (.bool (B || S[j]'hj == 10)) ((wr.drewN m).setCell ⟨R, 1, none⟩ (.int .i64 ((j : Int) + 1))) ∧ S.size - cellI ((wr.drewN m).setCell ⟨R, 1, none⟩ (.int .i64 ((j : Int) + 1))) R < S.size - cellI wr R := by
  have h2 := (h.drewN m).put1 (j + 1)
  have e : ((j + 1 : Nat) : Int) = (j : Int) + 1 := by omega
  rw [e] at h2
  refine ⟨⟨j + 1, by omega, hj, h2, (hb.trans (bl_drewN _ _ m)).setCell h.le _, ?_, ?_⟩, ?_⟩
  · rw [he]
    rw [drop_cons S j hj] at ha ⊢
    rw [endOf_on ha, Option.map_map]
    congr 1
    funext x
    simp; omega
  · rw [show j + 1 - (p + 2) = (j - (p + 2)) + 1 by omega, take_on (b := S[j]'hj), hB]
    rw [List.getElem?_drop, show p + 2 + (j - (p + 2)) = j by omega, bget S j hj]
  · rw [h2.cellI, h.cellI]; omega
set_option maxRecDepth 100000 in
set_option maxHeartbeats 4000000 in
theorem rlong_any (w : World) (base R : Nat) (S : ByteArray) (s : St) (p : Nat) (h : Sc w base R S p s 0 0) (hp : p + 2 ≤ S.size) (hS : S.size ≤ 65536) (hl : s.rems.length ≤ 1000000) (hl2 : s.toks.length ≤ 1000000) (ha : ([47, 47] : List UInt8).isPrefixOf (S.data.toList.drop p) = false) (pc : Pc)
    (hpc : pc = match endOf (S.data.toList.drop (p + 2)) with | none => .bad 0 | some k => .rmk (k + 4) (((S.data.toList.drop (p + 2)).take k).contains 10)) :
    Calls Tryd.prog 38 #[.pointer (some ⟨R, 0, none⟩)] w (RP w base R S s p pc) := by
  have c1 := h.cell1
  have f1 := h.frz 1
  have HH : Hid (Sc w base R S p s 0 0) := h
  have g37 := rat_any w base R S p s 0 0 h ⟨#[47, 47]⟩ (by omega) hS (by decide)
  have e0 : (⟨#[47, 47]⟩ : ByteArray).data.toList = [47, 47] := rfl
  rw [e0, ha] at g37
  obtain ⟨i33, i1, i2, i3, i4⟩ := info33_ex
  have HI : Hid (Tryd.prog.info? 33 = some i33 ∧ i33.zero = some (.agg #[.int .i64 0, .int .i64 0]) ∧ i33.size = 2 ∧ i33.bytes = 16) := ⟨i1, i2, i3, i4⟩
  have HPC : Hid (pc = match endOf (S.data.toList.drop (p + 2)) with | none => .bad 0 | some k => .rmk (k + 4) (((S.data.toList.drop (p + 2)).take k).contains 10)) := hpc
  have z0 : IntKind.i64.wrap ((p : Int) + 2) = (p : Int) + 2 := wrap_small _ (by omega) (by omega)
  clear h ha e0 i1 i2 i3 i4 hpc
  go_enter Tryd.func38, Tryd.ntmps38
  go_wp2_with (go_at_call 37; refine g37.mono ?_; rintro e w1 ⟨rfl, m1, hw1⟩; have HH1 : Hid (Sc w1 base R S p s 0 0) := (by rw [hw1]; exact HH.out.drewN m1); have HB1 : Hid (Below base w w1) := (by rw [hw1]; exact bl_drewN _ _ _); have c1'' := HH1.out.cell1; have f1'' := HH1.out.frz 1; clear hw1)
  generalize hW : (World.setCell _ _ _) = W1
  have ez : ((p + 2 : Nat) : Int) = (p : Int) + 2 := by omega
  have HS1 : Hid (Sc W1 base R S (p + 2) s 0 0) := by have q := HH1.out.put1 (p + 2); rw [ez, hW] at q; exact q
  have HB2 : Hid (Below base w W1) := by rw [← hW]; exact HB1.out.trans (HH1.out.bl1 1 _)
  clear hW c1 f1 c1'' f1'' g37 ez HH1 HB1 HH
  go_loopw [3] (fun u wr => LgR w base R S s p u wr) (fun _ wr => S.size - cellI wr R)
  case atStart => exact ⟨p + 2, Nat.le_refl _, hp, HS1.out, HB2.out, by rw [Nat.sub_self]; simp, by rw [Nat.sub_self]; rfl⟩
  case round =>
    obtain ⟨j, hpj, hj, hsc, hbl, hen, rfl⟩ := hrel.ex
    clear hrel HS1 HB2
    have c0 := hsc.cell0
    have c1 := hsc.cell1
    have f1 := hsc.frz 1
    have HSC : Hid (Sc wr base R S j s 0 0) := hsc
    have HBL : Hid (Below base w wr) := hbl
    have HEN : Hid (endOf (S.data.toList.drop (p + 2)) = (endOf (S.data.toList.drop j)).map (· + (j - (p + 2)))) := hen
    have g37 := fun m => rat_any (wr.drewN m) base R S j s 0 0 (hsc.drewN m) ⟨#[42, 47]⟩ (by omega) hS (by decide)
    have e0 : (⟨#[42, 47]⟩ : ByteArray).data.toList = [42, 47] := rfl
    rw [e0] at g37
    clear hsc hbl hen e0
    have z2 : (0 : Int) ≤ (j : Int) := by omega
    obtain ⟨B, hB⟩ : ∃ B, ((S.data.toList.drop (p + 2)).take (j - (p + 2))).contains 10 = B := ⟨_, rfl⟩
    have HBB : Hid (B = ((S.data.toList.drop (p + 2)).take (j - (p + 2))).contains 10) := hB.symm
    rw [hB]
    clear hB
    by_cases hjl : j < S.size
    · have z1 : (j : Int) < (S.size : Int) := by omega
      have z3 : IntKind.i64.wrap ((j : Int) + 1) = (j : Int) + 1 := wrap_small _ (by omega) (by omega)
      cases q : ([42, 47] : List UInt8).isPrefixOf (S.data.toList.drop j) with
      | false =>
        rw [q] at g37
        have HNX : Hid (∀ m, LgR w base R S s p (.bool (B || S[j]'hjl == 10)) ((wr.drewN m).setCell ⟨R, 1, none⟩ (.int .i64 ((j : Int) + 1))) ∧ S.size - cellI ((wr.drewN m).setCell ⟨R, 1, none⟩ (.int .i64 ((j : Int) + 1))) R < S.size - cellI wr R) := fun m => LgR.next hjl hpj HSC.out HBL.out HEN.out HBB.out q
        clear q
        cases B
        · by_cases q4 : S[j]'hjl = 10
          · have k4 : (((S[j]'hjl).toNat : Int) == 10) = true := by rw [q4]; rfl
            have hb : (false || S[j]'hjl == 10) = true := by rw [q4]; rfl
            rw [hb] at HNX
            clear hb q4
            go_wp2_with fail
            go_quiet ((go_at_call 37; refine quiet_at (g37 _)))
            go_wp2_with fail
            go_quiet (fail)
            go_wp2_with fail
            exact HNX.out _
          · have k4 : (((S[j]'hjl).toNat : Int) == 10) = false := nat_bne (b := 10) (fun h => q4 (UInt8.toNat_inj.1 h))
            have hb : (false || S[j]'hjl == 10) = false := by simpa using q4
            rw [hb] at HNX
            clear hb q4
            go_wp2_with fail
            go_quiet ((go_at_call 37; refine quiet_at (g37 _)))
            go_wp2_with fail
            go_quiet (fail)
            go_wp2_with fail
            exact HNX.out _
        · rw [Bool.true_or] at HNX
          go_wp2_with fail
          go_quiet ((go_at_call 37; refine quiet_at (g37 _)))
          go_wp2_with fail
          go_quiet (fail)
          go_wp2_with fail
          exact HNX.out _
      | true =>
        rw [q] at g37
        have hen := HEN.out
        rw [endOf_at q] at hen
        have HPC2 : Hid (pc = .rmk (j - (p + 2) + 4) B) := by
          show _ = _
          rw [HPC.out, hen, HBB.out]
          simp
        have hpl := (List.isPrefixOf_iff_prefix.1 q).length_le
        rw [List.length_drop, bal] at hpl
        have hj2 : j + 2 ≤ S.size := by simp at hpl; omega
        clear q hen hpl
        have z4 : IntKind.i64.wrap ((j : Int) + 2) = (j : Int) + 2 := wrap_small _ (by omega) (by omega)
        have z5 : ¬ (S.size : Int) ≤ (j : Int) := by omega
        go_wp2_with fail
        go_quiet ((go_at_call 37; refine quiet_at (g37 _)))
        have HS3 : Hid (Sc (wr.drewN nq) base R S j s 0 0) := HSC.out.drewN nq
        have HB3 : Hid (Below base w (wr.drewN nq)) := HBL.out.trans (bl_drewN _ _ _)
        clear c0 c1 f1 g37
        generalize wr.drewN nq = W3 at *
        have c0 := HS3.out.cell0
        have c1 := HS3.out.cell1
        have f1 := HS3.out.frz 1
        go_wp2_with fail
        go_quiet (fail)
        go_wp2_with fail
        generalize hW : (World.setCell _ _ _) = W4
        have ez : ((j + 2 : Nat) : Int) = (j : Int) + 2 := by omega
        have HS4 : Hid (Sc W4 base R S (j + 2) s 0 0) := by have q := (HS3.out.drewN nq).put1 (j + 2); rw [ez, hW] at q; exact q
        have HB4 : Hid (Below base w W4) := by rw [← hW]; exact (HB3.out.trans (bl_drewN _ _ nq)).setCell HS3.out.le _
        clear hW c0 c1 f1 ez HS3 HB3 HSC HBL
        have c1 := HS4.out.cell1
        rw [show ((j + 2 : Nat) : Int) = (j : Int) + 2 by omega] at c1
        have hlt := HS4.out.lt
        have hle := HS4.out.le
        have f3 := HS4.out.frz 3
        obtain ⟨rv, c3, hne, hown, hput⟩ := HS4.out.open3
        have HT : Hid (W4.ownsRow base 33 2 rv s.rems.length (flS s.rems)) := hown
        have HPut : Hid _ := @hput
        clear hown hput
        go_region_law
          ((refine step_append_lies _ (by rfl) _ _ _ (by rfl) base 33 i33 _ 2 16 Tryd.underlying30 HI.out.1 HI.out.2.1 HI.out.2.2.1 HI.out.2.2.2 rfl (by omega) rv s.rems.length (flS s.rems) (by rfl) ((HT.out.drew).alloc _)
                  ⟨W4.heap.size, 0, none⟩ 1 1 [.int .i64 p, .int .i64 ((j : Int) + 2)] (by rfl) (by rfl) (World.news_of_block (heap_alloc_new W4.drew _)) (by simp [Value.oneCell'])
                  (by omega) (by unfold maxLen; omega) (by omega) (by simp; omega) (W4.heap.size + 1) (by simp) ?_; intro gg cap w2 hown1 hgrow hat hlt1; have k1 := hgrow.cell_far ⟨R, 3, none⟩ (by simp; omega) (Ne.symm hne); have k2 := hgrow.frozen_far ⟨R, 3, none⟩ (by simp; omega) (Ne.symm hne)))
        all_goals
          have q := HPut.out (t := (p, j + 2)) (((Below.refl _ W4).drew).alloc (by simp) _) hgrow (by simp only [spC]; rw [show ((j + 2 : Nat) : Int) = (j : Int) + 2 by omega]; exact hown1)
          have HS5 : Hid _ := q.1
          have HB5 : Hid _ := q.2
          clear q hown1 hgrow hat k1 k2
          cases B
          · go_wp2_with fail
            refine bodyPost_end (results_none rfl _ _ _) rfl ?_
            rw [HPC2.out]
            show ScP w base R S (p + (j - (p + 2) + 4)) ⟨s.toks, s.rems ++ [(p, p + (j - (p + 2) + 4))]⟩ 0 0 _ _
            rw [show p + (j - (p + 2) + 4) = j + 2 by omega]
            exact ⟨rfl, HS5.out, HB4.out.trans HB5.out⟩
          · have g36 := rline_any _ base R S (j + 2) _ 0 0 HS5.out p hl2
            go_wp2_with (go_at_call 36; refine g36.mono ?_; intro e w3 h3; obtain rfl := h3.ret; have H3 : Hid _ := h3; clear h3)
            refine bodyPost_end (results_none rfl _ _ _) rfl ?_
            rw [HPC2.out]
            show ScP w base R S (p + (j - (p + 2) + 4)) ⟨eol p s.toks, s.rems ++ [(p, p + (j - (p + 2) + 4))]⟩ 0 0 _ _
            rw [show p + (j - (p + 2) + 4) = j + 2 by omega]
            exact H3.out.after (HB4.out.trans HB5.out)
    · have z1 : decide ((j : Int) < (S.size : Int)) = false := decide_eq_false (by omega)
      have z1' : (S.size : Int) ≤ (j : Int) := by omega
      have HPC2 : Hid (pc = .bad 0) := by
        show _ = _
        rw [HPC.out, HEN.out, List.drop_of_length_le (by rw [bal]; omega)]
        rfl
      go_wp2_with fail
      go_quiet (fail)
      have HS3 : Hid (Sc (wr.drewN nq) base R S j s 0 0) := HSC.out.drewN nq
      have HB3 : Hid (Below base w (wr.drewN nq)) := HBL.out.trans (bl_drewN _ _ _)
      clear c0 c1 f1
      generalize wr.drewN nq = W3 at *
      have c0 := HS3.out.cell0
      have c1 := HS3.out.cell1
      go_wp2_with fail
      go_quiet (fail)
      have g51 := rwrong_any (W3.drewN nq) base R S j s 0 0 (HS3.out.drewN nq) p
      go_wp2_with (go_at_call 51; refine g51.mono ?_; intro e w3 h3; obtain rfl := h3.ret; have H3 : Hid _ := h3; clear h3)
      refine bodyPost_end (results_none rfl _ _ _) rfl ?_
      rw [HPC2.out]
      exact ⟨j, s, H3.out.after (HB3.out.trans (bl_drewN _ _ _))⟩
end Go.Proofs.YtmfdfkbcommjfaaDoor
