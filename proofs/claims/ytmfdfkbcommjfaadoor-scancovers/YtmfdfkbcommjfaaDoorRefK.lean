/-
  Scan of the document (recastref3), walked at a valid source.
-/
import Derived.Test.YtmfdfkbcommjfaaDoorRefJ
namespace Go.Proofs.YtmfdfkbcommjfaaDoor
open Go.RowKit
attribute [local go_sem ↓] Go.wp_at_zero Go.wp_at_succ
/-- what Scan answers -/
def ScnP (w : World) (S : ByteArray) (r : RO) (e : Ending) (w' : World) : Prop :=
  Below w.heap.size w w' ∧ ∃ R, e = .returned (.pointer (some ⟨R, 0, none⟩)) ∧ w.heap.size ≤ R ∧ match r with
    | .ok s => ∃ i, Sc w' w.heap.size R S i s 0 0
    | .bad c a => ∃ i T, Sc w' w.heap.size R T i ⟨[], []⟩ c a
theorem RP.ret {w : World} {base R : Nat} {S : ByteArray} {s : St} {p : Nat} {pc : Pc} {e : Ending} {w' : World} (h : RP w base R S s p pc e w') : e = .returned (.tuple #[]) := by
  cases pc with
  | bad o => obtain ⟨i, s', h⟩ := h; exact h.ret
  | line => exact ScP.ret h
  | blank => exact ScP.ret h
  | tok k n x => exact ScP.ret h
  | rmk n ls => exact ScP.ret h
set_option maxRecDepth 100000 in
set_option maxHeartbeats 8000000 in
theorem scan_ok (S : ByteArray) (w : World) (hS : S.size ≤ 65536) (hv : okT S = true) (r : RO) (hr : r = ro (scn S.data.toList 0 0 ⟨[], []⟩)) : Calls Tryd.prog 23 #[.string S] w (ScnP w S r) := by
  have k1 : decide ((65536 : Int) < (S.size : Int)) = false := decide_eq_false (by omega)
  have k1' : ¬ (65536 : Int) < (S.size : Int) := by omega
  have g19 := fun w => rvalid_any S w (by omega)
  rw [hv] at g19
  have HR : Hid (r = ro (scn S.data.toList 0 0 ⟨[], []⟩)) := hr
  clear hr hv
  go_enter Tryd.func23, Tryd.ntmps23
  go_wp2_with (go_at_call 19; refine (g19 _).mono ?_; rintro e w1 ⟨rfl, hw1⟩; obtain rfl := hw1.symm)
  generalize hW : (World.alloc _ _) = W
  have HB : Hid (Below w.heap.size w W) := by rw [← hW]; exact (Below.refl _ _).alloc (Nat.le_refl _) _
  have HS : Hid (Sc W w.heap.size w.heap.size S 0 ⟨[], []⟩ 0 0) := ⟨Nat.le_refl _, _, _, by rw [← hW]; exact heap_alloc_new w _, World.ownsRow_nil _ _ _ _, World.ownsRow_nil _ _ _ _⟩
  clear hW
  go_loopw [] (fun wr => ScR w w.heap.size w.heap.size S r wr) (fun wr => msr wr w.heap.size S.size)
  case atStart => exact ⟨HB.out, .inl ⟨0, _, HS.out, Nat.zero_le _, Nat.zero_le _, Nat.zero_le _, HR.out⟩⟩
  case round =>
    clear HB HS HR k1 k1' g19
    obtain ⟨hbl, hex⟩ := hrel
    have HBL : Hid (Below w.heap.size w wr) := hbl
    clear hbl
    generalize hRR : w.heap.size = R at *
    rcases hex with ⟨p, s, hsc, hp, ht, hrm, hr⟩ | ⟨i, s, c, a, hsc, hr⟩
    · have HR : Hid (r = ro (scn (S.data.toList.drop p) 0 p s)) := hr
      have HSC : Hid (Sc wr R R S p s 0 0) := hsc
      have c1 := hsc.cell1
      have c4 := hsc.cell4
      have f1 := hsc.frz 1
      have z2 : (0 : Int) ≤ (p : Int) := by omega
      clear hsc hr
      by_cases hpl : p < S.size
      · have z1 : (p : Int) < (S.size : Int) := by omega
        have z3 : IntKind.i64.wrap ((p : Int) + 1) = (p : Int) + 1 := wrap_small _ (by omega) (by omega)
        obtain ⟨W0, n0, hw0⟩ : ∃ W0 n0, wr = World.drewN W0 n0 := ⟨wr, 0, rfl⟩
        have hS0 : Sc W0 R R S p s 0 0 := by
          have q := HSC.out
          rw [hw0] at q
          exact q.below ⟨rfl, rfl, rfl, Nat.le_refl _, fun _ _ => rfl⟩
        have c1 := hS0.cell1
        have c4 := hS0.cell4
        have f1 := hS0.frz 1
        subst hw0
        have HST : Hid (∀ n e w', RP (W0.drewN n) R R S s p (pcOf (S.data.toList.drop p)) e w' → ScR w R R S r w' ∧ msr w' R S.size < msr (W0.drewN n0) R S.size) := fun n e w' h => by
          have hb : Below R (W0.drewN n0) (W0.drewN n) := ⟨rfl, rfl, rfl, Nat.le_refl _, fun _ _ => rfl⟩
          have q := ScR.step hpl (HBL.out.trans hb) (hS0.drewN n) ht hrm HR.out h
          rw [(hS0.drewN n).msr0] at q
          rw [HSC.out.msr0]
          exact q
        have HS0 : Hid (Sc W0 R R S p s 0 0) := hS0
        have g36 := fun n => rline_any (W0.drewN n) R R S p s 0 0 (hS0.drewN n) p (by omega)
        clear hS0 HSC HBL HR
        by_cases q10 : S[p]'hpl = 10
        · have k10 : (((S[p]'hpl).toNat : Int) == 10) = true := by rw [q10]; rfl
          have HP : Hid (pcOf (S.data.toList.drop p) = .line) := by show _ = _; rw [drop_cons S p hpl, q10]; rfl
          rw [HP.out] at HST
          clear q10
          go_wp2_with (first | (go_at_call 36; refine (g36 _).mono ?_; intro e w3 h3; obtain rfl := h3.ret; have H3 : Hid _ := h3; have d1 := h3.sc.cell1; have d2 := h3.sc.frz 1; clear h3))
          refine HST.out _ (.returned (.tuple #[])) _ ⟨rfl, ?_, H3.out.bl.trans (H3.out.sc.bl1 1 _)⟩
          have q := H3.out.sc.put1 (p + 1)
          rw [show ((p + 1 : Nat) : Int) = (p : Int) + 1 by omega] at q
          exact q
        have k10 : (((S[p]'hpl).toNat : Int) == 10) = false := nat_bne (b := 10) (fun h => q10 (UInt8.toNat_inj.1 h))
        have HBLK : Hid (pcOf (S.data.toList.drop p) = .blank → ∀ n, ScR w R R S r ((W0.drewN n).setCell ⟨R, 1, none⟩ (.int .i64 ((p : Int) + 1))) ∧ msr ((W0.drewN n).setCell ⟨R, 1, none⟩ (.int .i64 ((p : Int) + 1))) R S.size < msr (W0.drewN n0) R S.size) := fun hb n => by
          refine HST.out n (.returned (.tuple #[])) _ ?_
          rw [hb]
          refine ⟨rfl, ?_, (HS0.out.drewN n).bl1 1 _⟩
          have q := (HS0.out.drewN n).put1 (p + 1)
          rw [show ((p + 1 : Nat) : Int) = (p : Int) + 1 by omega] at q
          exact q
        by_cases q32 : S[p]'hpl = 32
        · have k32 : (((S[p]'hpl).toNat : Int) == 32) = true := by rw [q32]; rfl
          have HP : Hid (∀ n, ScR w R R S r ((W0.drewN n).setCell ⟨R, 1, none⟩ (.int .i64 ((p : Int) + 1))) ∧ msr ((W0.drewN n).setCell ⟨R, 1, none⟩ (.int .i64 ((p : Int) + 1))) R S.size < msr (W0.drewN n0) R S.size) := HBLK.out (by rw [drop_cons S p hpl, q32]; rfl)
          clear HBLK q32 q10 HST
          go_wp2_with fail
          exact HP.out _
        have k32 : (((S[p]'hpl).toNat : Int) == 32) = false := nat_bne (b := 32) (fun h => q32 (UInt8.toNat_inj.1 h))
        by_cases q9 : S[p]'hpl = 9
        · have k9 : (((S[p]'hpl).toNat : Int) == 9) = true := by rw [q9]; rfl
          have HP : Hid (∀ n, ScR w R R S r ((W0.drewN n).setCell ⟨R, 1, none⟩ (.int .i64 ((p : Int) + 1))) ∧ msr ((W0.drewN n).setCell ⟨R, 1, none⟩ (.int .i64 ((p : Int) + 1))) R S.size < msr (W0.drewN n0) R S.size) := HBLK.out (by rw [drop_cons S p hpl, q9]; rfl)
          clear HBLK q9 q10 HST
          go_wp2_with fail
          exact HP.out _
        have k9 : (((S[p]'hpl).toNat : Int) == 9) = false := nat_bne (b := 9) (fun h => q9 (UInt8.toNat_inj.1 h))
        by_cases q13 : S[p]'hpl = 13
        · have k13 : (((S[p]'hpl).toNat : Int) == 13) = true := by rw [q13]; rfl
          have HP : Hid (∀ n, ScR w R R S r ((W0.drewN n).setCell ⟨R, 1, none⟩ (.int .i64 ((p : Int) + 1))) ∧ msr ((W0.drewN n).setCell ⟨R, 1, none⟩ (.int .i64 ((p : Int) + 1))) R S.size < msr (W0.drewN n0) R S.size) := HBLK.out (by rw [drop_cons S p hpl, q13]; rfl)
          clear HBLK q13 q10 HST
          go_wp2_with fail
          exact HP.out _
        have k13 : (((S[p]'hpl).toNat : Int) == 13) = false := nat_bne (b := 13) (fun h => q13 (UInt8.toNat_inj.1 h))
        have HBL1 : Hid (¬ (S[p]'hpl = 32 ∨ S[p]'hpl = 9 ∨ S[p]'hpl = 13)) := fun h => h.elim q32 (fun h => h.elim q9 q13)
        have HN10 : Hid (S[p]'hpl ≠ 10) := q10
        clear HBLK q32 q9 q13 q10
        have g37a := fun n => rat_any (W0.drewN n) R R S p s 0 0 (HS0.out.drewN n) ⟨#[47, 47]⟩ (by omega) hS (by decide)
        have g37b := fun n => rat_any (W0.drewN n) R R S p s 0 0 (HS0.out.drewN n) ⟨#[47, 42]⟩ (by omega) hS (by decide)
        have e1 : (⟨#[47, 47]⟩ : ByteArray).data.toList = [47, 47] := rfl
        have e2 : (⟨#[47, 42]⟩ : ByteArray).data.toList = [47, 42] := rfl
        rw [e1, pre47 hpl] at g37a
        rw [e2, pre47 hpl] at g37b
        clear e1 e2
        by_cases qs : S[p]'hpl = 47 ∧ (S.data.toList.drop (p + 1)).head? = some 47
        · rw [decide_eq_true qs] at g37a
          have g38 := fun n => rrem_pc (W0.drewN n) R R S s p (HS0.out.drewN n) hpl hS (by omega) (by omega) qs.1 (.inl qs.2)
          clear qs g37b g36
          go_wp2_with (first | (go_at_call 37; first | (refine (g37a _).mono ?_; clear g37a; rintro e w4 ⟨rfl, m4, hw4⟩; rw [World.drewN_drewN] at hw4; obtain rfl := hw4) | (refine (g37b _).mono ?_; rintro e w4 ⟨rfl, m4, hw4⟩; rw [World.drewN_drewN] at hw4; obtain rfl := hw4)) | (go_at_call 38; refine (g38 _).mono ?_; intro e w3 h3; have H3 : Hid _ := h3; obtain rfl := RP.ret h3; clear h3))
          exact HST.out _ _ _ H3.out
        by_cases ql : S[p]'hpl = 47 ∧ (S.data.toList.drop (p + 1)).head? = some 42
        · rw [decide_eq_false qs] at g37a
          rw [decide_eq_true ql] at g37b
          have g38 := fun n => rrem_pc (W0.drewN n) R R S s p (HS0.out.drewN n) hpl hS (by omega) (by omega) ql.1 (.inr ql.2)
          clear qs ql g36
          go_wp2_with (first | (go_at_call 37; first | (refine (g37a _).mono ?_; clear g37a; rintro e w4 ⟨rfl, m4, hw4⟩; rw [World.drewN_drewN] at hw4; obtain rfl := hw4) | (refine (g37b _).mono ?_; rintro e w4 ⟨rfl, m4, hw4⟩; rw [World.drewN_drewN] at hw4; obtain rfl := hw4)) | (go_at_call 38; refine (g38 _).mono ?_; intro e w3 h3; have H3 : Hid _ := h3; obtain rfl := RP.ret h3; clear h3))
          exact HST.out _ _ _ H3.out
        rw [decide_eq_false qs] at g37a
        rw [decide_eq_false ql] at g37b
        have HQS : Hid _ := qs
        have HQL : Hid _ := ql
        clear qs ql g36
        have g27 := rletter_any (S[p]'hpl)
        have g28 := rdigit_any (S[p]'hpl)
        cases hl1 : ltr (S[p]'hpl) with
        | true =>
          rw [hl1] at g27
          have g39 := fun n => rname_pc (W0.drewN n) R R S s p (HS0.out.drewN n) hpl hS (by omega) HN10.out HBL1.out hl1
          clear hl1 g28
          go_wp2_with (first | (go_at_call 37; first | (refine (g37a _).mono ?_; clear g37a; rintro e w4 ⟨rfl, m4, hw4⟩; rw [World.drewN_drewN] at hw4; obtain rfl := hw4) | (refine (g37b _).mono ?_; rintro e w4 ⟨rfl, m4, hw4⟩; rw [World.drewN_drewN] at hw4; obtain rfl := hw4)) | (go_at_call 27; refine (g27 _).mono ?_; rintro e w5 ⟨rfl, hw5⟩; obtain rfl := hw5) | (go_at_call 39; refine (g39 _).mono ?_; intro e w3 h3; have H3 : Hid _ := h3; obtain rfl := RP.ret h3; clear h3))
          exact HST.out _ _ _ H3.out
        | false =>
          rw [hl1] at g27
          cases hd1 : dgt (S[p]'hpl) with
          | true =>
            rw [hd1] at g28
            have g40 := fun n => rnum_pc (W0.drewN n) R R S s p (HS0.out.drewN n) hpl hS (by omega) HN10.out HBL1.out hl1 hd1
            clear hl1 hd1
            go_wp2_with (first | (go_at_call 37; first | (refine (g37a _).mono ?_; clear g37a; rintro e w4 ⟨rfl, m4, hw4⟩; rw [World.drewN_drewN] at hw4; obtain rfl := hw4) | (refine (g37b _).mono ?_; rintro e w4 ⟨rfl, m4, hw4⟩; rw [World.drewN_drewN] at hw4; obtain rfl := hw4)) | (go_at_call 27; refine (g27 _).mono ?_; rintro e w5 ⟨rfl, hw5⟩; obtain rfl := hw5) | (go_at_call 28; refine (g28 _).mono ?_; rintro e w5 ⟨rfl, hw5⟩; obtain rfl := hw5) | (go_at_call 40; refine (g40 _).mono ?_; intro e w3 h3; have H3 : Hid _ := h3; obtain rfl := RP.ret h3; clear h3))
            exact HST.out _ _ _ H3.out
          | false =>
            rw [hd1] at g28
            by_cases q34 : S[p]'hpl = 34
            · have k34 : (((S[p]'hpl).toNat : Int) == 34) = true := by rw [q34]; rfl
              have g41 := fun n => rtext_pc (W0.drewN n) R R S s p (HS0.out.drewN n) hpl hS (by omega) q34
              clear hl1 hd1 q34
              go_wp2_with (first | (go_at_call 37; first | (refine (g37a _).mono ?_; clear g37a; rintro e w4 ⟨rfl, m4, hw4⟩; rw [World.drewN_drewN] at hw4; obtain rfl := hw4) | (refine (g37b _).mono ?_; rintro e w4 ⟨rfl, m4, hw4⟩; rw [World.drewN_drewN] at hw4; obtain rfl := hw4)) | (go_at_call 27; refine (g27 _).mono ?_; rintro e w5 ⟨rfl, hw5⟩; obtain rfl := hw5) | (go_at_call 28; refine (g28 _).mono ?_; rintro e w5 ⟨rfl, hw5⟩; obtain rfl := hw5) | (go_at_call 41; refine (g41 _).mono ?_; intro e w3 h3; have H3 : Hid _ := h3; obtain rfl := RP.ret h3; clear h3))
              exact HST.out _ _ _ H3.out
            · have k34 : (((S[p]'hpl).toNat : Int) == 34) = false := nat_bne (b := 34) (fun h => q34 (UInt8.toNat_inj.1 h))
              have g42 := fun n => rsign_pc (W0.drewN n) R R S s p (HS0.out.drewN n) hpl hS (by omega) HN10.out HBL1.out hl1 hd1 q34 HQS.out HQL.out
              clear hl1 hd1 q34
              go_wp2_with (first | (go_at_call 37; first | (refine (g37a _).mono ?_; clear g37a; rintro e w4 ⟨rfl, m4, hw4⟩; rw [World.drewN_drewN] at hw4; obtain rfl := hw4) | (refine (g37b _).mono ?_; rintro e w4 ⟨rfl, m4, hw4⟩; rw [World.drewN_drewN] at hw4; obtain rfl := hw4)) | (go_at_call 27; refine (g27 _).mono ?_; rintro e w5 ⟨rfl, hw5⟩; obtain rfl := hw5) | (go_at_call 28; refine (g28 _).mono ?_; rintro e w5 ⟨rfl, hw5⟩; obtain rfl := hw5) | (go_at_call 42; refine (g42 _).mono ?_; intro e w3 h3; have H3 : Hid _ := h3; obtain rfl := RP.ret h3; clear h3))
              exact HST.out _ _ _ H3.out
      · have z1 : decide ((p : Int) < (S.size : Int)) = false := decide_eq_false (by omega)
        obtain rfl : p = S.size := by omega
        have HRR : Hid (r = .ok ⟨eol S.size s.toks ++ [⟨7, S.size, S.size, []⟩], s.rems⟩) := by
          show _ = _
          rw [HR.out, scn_end hpl]
          rfl
        have g36 := rline_any wr R R S S.size s 0 0 HSC.out S.size (by omega)
        have hel := eol_len S.size s.toks
        have g43 := fun (W : World) (h : Sc W R R S S.size ⟨eol S.size s.toks, s.rems⟩ 0 0) => radd_any W R R S S.size ⟨eol S.size s.toks, s.rems⟩ 0 0 h 7 S.size ⟨#[]⟩ (by simp only; omega)
        clear hel
        go_wp2_with (first | (go_at_call 36; refine g36.mono ?_; intro e w3 h3; obtain rfl := h3.ret; have H3 : Hid _ := h3; clear h3) | (go_at_call 43; refine (g43 _ H3.out.sc).mono ?_; intro e w4 h4; obtain rfl := h4.ret; have H4 : Hid _ := h4; clear h4))
        go_ret
        refine ⟨?_, R, rfl, by omega, ?_⟩
        · rw [hRR]; exact HBL.out.trans (H3.out.bl.trans H4.out.bl)
        · rw [HRR.out, hRR]
          exact ⟨_, H4.out.sc⟩
    · have c4 := hsc.cell4
      have c5 := hsc.cell5
      have c6 := hsc.cell6
      have HR : Hid (r = .bad (c + 1) a) := hr
      have k2 : ((((c + 1 : Nat) : Int)) == 0) = false := by simp; omega
      clear hsc hr
      go_wp2_with fail
      go_ret
      refine ⟨?_, wr.heap.size, rfl, HBL.out.size, ?_⟩
      · rw [hRR]; exact HBL.out.alloc (by have := HBL.out.size; omega) _
      · rw [HR.out]
        exact ⟨0, ⟨#[]⟩, HBL.out.size, _, _, heap_alloc_new wr _, World.ownsRow_nil _ _ _ _, World.ownsRow_nil _ _ _ _⟩
end Go.Proofs.YtmfdfkbcommjfaaDoor
