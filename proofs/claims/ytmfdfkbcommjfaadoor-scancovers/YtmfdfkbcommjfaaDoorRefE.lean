/-
  number of the document's scanner, walked.
-/
import Derived.Test.YtmfdfkbcommjfaaDoorRefD
import Derived.Test.YtmfdfkbcommjfaaDoorWalkK
namespace Go.Proofs.YtmfdfkbcommjfaaDoor
open Go.RowKit
attribute [local go_sem ↓] Go.wp_at_zero Go.wp_at_succ
theorem numBad_S (S : ByteArray) (p n : Nat) (hp : p < S.size) : numBad (S.data.toList.drop p) n = true ↔ 200 < n ∨ (1 < n ∧ (S[p]'hp).toNat = 48) ∨ ∃ h : p + n < S.size, ltr (S[p + n]'h) = true := by
  have hz : (S.extract p S.size).size = S.size - p := by simp
  have h0 : 0 < (S.extract p S.size).size := by omega
  rw [← ext_drop, numBad_E _ n h0, sub_get S p 0 h0 (by omega)]
  simp only [Nat.add_zero]
  refine or_congr Iff.rfl (or_congr Iff.rfl ⟨fun ⟨h, q⟩ => ?_, fun ⟨h, q⟩ => ?_⟩)
  · rw [sub_get S p n h (by omega)] at q; exact ⟨by omega, q⟩
  · refine ⟨by omega, ?_⟩
    rw [sub_get S p n (by omega) h]; exact q
theorem mid_get (S : ByteArray) (p j : Nat) (h : 0 < (S.extract p j).size) (h2 : p < S.size) : (S.extract p j)[0]'h = S[p]'h2 := by
  have e1 := bget (S.extract p j) 0 h
  have e2 := bget S p h2
  have e3 : (S.extract p j).data.toList = (S.data.toList.take j).drop p := by rw [ext_list]; simp [bsL]
  rw [e3] at e1
  rw [List.getElem?_drop, List.getElem?_take] at e1
  split at e1
  · rw [Nat.add_zero, e2] at e1; exact (Option.some.inj e1).symm
  · cases e1
set_option maxRecDepth 100000 in
set_option maxHeartbeats 4000000 in
theorem rnum_any (w : World) (base R : Nat) (S : ByteArray) (s : St) (p : Nat) (h : Sc w base R S p s 0 0) (hp : p < S.size) (hS : S.size ≤ 65536) (hl : s.toks.length ≤ 1000000) (hd : dgt (S[p]'hp) = true) (pc : Pc) (hpc : pc = if numBad (S.data.toList.drop p) (run dgt (S.data.toList.drop p)) = true then .bad 0 else .tok 2 (run dgt (S.data.toList.drop p)) ((S.data.toList.drop p).take (run dgt (S.data.toList.drop p)))) :
    Calls Tryd.prog 40 #[.pointer (some ⟨R, 0, none⟩)] w (RP w base R S s p pc) := by
  have c1 := h.cell1
  have hrl := run_le dgt (S.data.toList.drop p)
  rw [List.length_drop, bal] at hrl
  have hpos : 1 ≤ run dgt (S.data.toList.drop p) := by rw [run_yes hp hd]; omega
  have hnb := numBad_S S p (run dgt (S.data.toList.drop p)) hp
  obtain ⟨V, hV⟩ : ∃ V, run dgt (S.data.toList.drop p) = V := ⟨_, rfl⟩
  rw [hV] at hrl hpc hpos hnb
  have HV : Hid (p + run dgt (S.data.toList.drop p) = p + V) := congrArg (p + ·) hV
  have HH : Hid (Sc w base R S p s 0 0) := h
  have HPB : Hid ((200 < V ∨ (1 < V ∧ (S[p]'hp).toNat = 48) ∨ ∃ h : p + V < S.size, ltr (S[p + V]'h) = true) → pc = .bad 0) := fun q => by rw [hpc, if_pos (hnb.2 q)]
  have HPO : Hid (¬ (200 < V ∨ (1 < V ∧ (S[p]'hp).toNat = 48) ∨ ∃ h : p + V < S.size, ltr (S[p + V]'h) = true) → pc = .tok 2 V ((S.data.toList.drop p).take V)) := fun q => by rw [hpc, if_neg (fun e => q (hnb.1 e))]
  clear h hV hpc hnb hd
  go_enter Tryd.func40, Tryd.ntmps40
  go_wp2_with fail
  go_loopw [] (fun wr => NmR w base R S s dgt p (p + V) wr) (fun wr => S.size - cellI wr R)
  case atStart => exact ⟨p, Nat.le_refl _, by omega, HH.out, Below.refl _ _, HV.out⟩
  case round =>
    obtain ⟨j, hpj, hj, hsc, hbl, hrun⟩ := hrel.ex
    clear hrel c1
    have c0 := hsc.cell0
    have c1 := hsc.cell1
    have f1 := hsc.frz 1
    have HSC : Hid (Sc wr base R S j s 0 0) := hsc
    have HBL : Hid (Below base w wr) := hbl
    have HRUN : Hid (j + run dgt (S.data.toList.drop j) = p + V) := hrun
    clear hsc hbl hrun
    have z2 : (0 : Int) ≤ (j : Int) := by omega
    by_cases hjl : j < S.size
    · have z1 : (j : Int) < (S.size : Int) := by omega
      have z3 : IntKind.i64.wrap ((j : Int) + 1) = (j : Int) + 1 := wrap_small _ (by omega) (by omega)
      have g28 := rdigit_any (S[j]'hjl)
      cases q2 : dgt (S[j]'hjl) with
      | true =>
        rw [q2] at g28
        have HNX : Hid (∀ m, NmR w base R S s dgt p (p + V) ((wr.drewN m).setCell ⟨R, 1, none⟩ (.int .i64 ((j : Int) + 1))) ∧ S.size - cellI ((wr.drewN m).setCell ⟨R, 1, none⟩ (.int .i64 ((j : Int) + 1))) R < S.size - cellI wr R) := fun m => NmR.next hjl hpj HSC.out HBL.out HRUN.out q2
        clear q2
        go_wp2
        go_quiet ((go_at_call 28; refine Calls.quiet_of_same (g28 _)))
        go_wp2
        exact HNX.out _
      | false =>
        rw [q2] at g28
        have HE : Hid (j = p + V) := by show j = p + V; have := run_no (f := dgt) hjl q2; have := HRUN.out; omega
        clear q2
        go_wp2
        go_quiet ((go_at_call 28; refine Calls.quiet_of_same (g28 _)))
        have HS1 : Hid (Sc (wr.drewN nq) base R S j s 0 0) := HSC.out.drewN nq
        have HB1 : Hid (Below base w (wr.drewN nq)) := HBL.out.trans (bl_drewN _ _ _)
        have d0 := HS1.out.cell0
        have d1 := HS1.out.cell1
        generalize wr.drewN nq = W1 at *
        have y1 : (p : Int) ≤ (j : Int) := by omega
        have y2 : (j : Int) ≤ (S.size : Int) := by omega
        have y0 : (0 : Int) ≤ (p : Int) := by omega
        have hXz : (S.extract p j).size = V := by have := HE.out; simp; omega
        have hX0 := fun h => mid_get S p j h hp
        have HX : Hid ((S.extract p j).data.toList = (S.data.toList.drop p).take V) := (Lib.toList_data _).symm.trans (by rw [HE.out]; exact ext_word S p V)
        obtain ⟨X, hX⟩ : ∃ X, S.extract p j = X := ⟨_, rfl⟩
        rw [hX] at hXz hX0 HX
        have hX1 : 0 < X.size := by omega
        have hX2 := hX0 hX1
        have y4 : (0 : Int) < (X.size : Int) := by omega
        have HXZ : Hid (X.size = V) := hXz
        clear hX0 hXz
        go_wp2_with fail
        go_quiet (fail)
        have HS2 : Hid (Sc (W1.drewN nq) base R S j s 0 0) := HS1.out.drewN nq
        have HB2 : Hid (Below base w (W1.drewN nq)) := HB1.out.trans (bl_drewN _ _ _)
        have e0 := HS2.out.cell0
        have e1 := HS2.out.cell1
        generalize W1.drewN nq = W2 at *
        have g51 := fun n => rwrong_any (W2.drewN n) base R S j s 0 0 (HS2.out.drewN n) p
        have g43 := fun n => radd_any (W2.drewN n) base R S j s 0 0 (HS2.out.drewN n) 2 p X hl
        go_wp2_with fail
        by_cases q1 : (S[p]'hp).toNat = 48
        · have HQ1 : Hid ((S[p]'hp).toNat = 48) := q1
          have k1 : (((X[0]'hX1).toNat : Int) == 48) = true := by rw [hX2]; exact nat_beq q1
          clear q1 hX2
          by_cases q2 : 1 < V
          · have k2 : (1 : Int) < (X.size : Int) := by have := HXZ.out; omega
            go_quiet (fail)
            go_wp2_with (first | (go_at_call 51; refine (g51 _).mono ?_; intro e w3 h3; obtain rfl := h3.ret; have H3 : Hid _ := h3; clear h3) | (go_at_call 43; refine (g43 _).mono ?_; intro e w3 h3; obtain rfl := h3.ret; have H3 : Hid _ := h3; clear h3))
            refine bodyPost_end (results_none rfl _ _ _) rfl ?_
            rw [HPB.out (.inr (.inl ⟨q2, HQ1.out⟩))]
            exact ⟨j, s, H3.out.after (HB2.out.trans (bl_drewN _ _ _))⟩
          · have k2 : decide ((1 : Int) < (X.size : Int)) = false := decide_eq_false (by have := HXZ.out; omega)
            have k3 : decide ((200 : Int) < (X.size : Int)) = false := decide_eq_false (by have := HXZ.out; omega)
            have g27 := rletter_any (S[j]'hjl)
            cases q4 : ltr (S[j]'hjl) with
            | true =>
              rw [q4] at g27
              have HQ4 : Hid _ := q4
              clear q4
              go_quiet ((go_at_call 27; refine Calls.quiet_of_same (g27 _)))
              go_wp2_with (first | (go_at_call 51; refine (g51 _).mono ?_; intro e w3 h3; obtain rfl := h3.ret; have H3 : Hid _ := h3; clear h3) | (go_at_call 43; refine (g43 _).mono ?_; intro e w3 h3; obtain rfl := h3.ret; have H3 : Hid _ := h3; clear h3))
              refine bodyPost_end (results_none rfl _ _ _) rfl ?_
              rw [HPB.out (.inr (.inr (by obtain rfl := HE.out; exact ⟨hjl, HQ4.out⟩)))]
              exact ⟨j, s, H3.out.after (HB2.out.trans (bl_drewN _ _ _))⟩
            | false =>
              rw [q4] at g27
              have HQ4 : Hid _ := q4
              clear q4
              go_quiet ((go_at_call 27; refine Calls.quiet_of_same (g27 _)))
              go_wp2_with (first | (go_at_call 51; refine (g51 _).mono ?_; intro e w3 h3; obtain rfl := h3.ret; have H3 : Hid _ := h3; clear h3) | (go_at_call 43; refine (g43 _).mono ?_; intro e w3 h3; obtain rfl := h3.ret; have H3 : Hid _ := h3; clear h3))
              refine bodyPost_end (results_none rfl _ _ _) rfl ?_
              rw [HPO.out (by have := HE.out; simp only [not_or, not_and, not_exists]; exact ⟨by omega, fun h => absurd h q2, fun h q => by obtain rfl := HE.out; rw [HQ4.out] at q; cases q⟩)]
              have q := H3.out.after (HB2.out.trans (bl_drewN _ _ _))
              rw [HX.out] at q
              obtain rfl := HE.out
              exact q
        · have HQ1 : Hid (¬ (S[p]'hp).toNat = 48) := q1
          have k1 : (((X[0]'hX1).toNat : Int) == 48) = false := by rw [hX2]; exact nat_bne q1
          clear q1 hX2
          by_cases q3 : 200 < V
          · have k3 : (200 : Int) < (X.size : Int) := by have := HXZ.out; omega
            go_quiet (fail)
            go_wp2_with (first | (go_at_call 51; refine (g51 _).mono ?_; intro e w3 h3; obtain rfl := h3.ret; have H3 : Hid _ := h3; clear h3) | (go_at_call 43; refine (g43 _).mono ?_; intro e w3 h3; obtain rfl := h3.ret; have H3 : Hid _ := h3; clear h3))
            refine bodyPost_end (results_none rfl _ _ _) rfl ?_
            rw [HPB.out (.inl q3)]
            exact ⟨j, s, H3.out.after (HB2.out.trans (bl_drewN _ _ _))⟩
          · have k3 : decide ((200 : Int) < (X.size : Int)) = false := decide_eq_false (by have := HXZ.out; omega)
            have g27 := rletter_any (S[j]'hjl)
            cases q4 : ltr (S[j]'hjl) with
            | true =>
              rw [q4] at g27
              have HQ4 : Hid _ := q4
              clear q4
              go_quiet ((go_at_call 27; refine Calls.quiet_of_same (g27 _)))
              go_wp2_with (first | (go_at_call 51; refine (g51 _).mono ?_; intro e w3 h3; obtain rfl := h3.ret; have H3 : Hid _ := h3; clear h3) | (go_at_call 43; refine (g43 _).mono ?_; intro e w3 h3; obtain rfl := h3.ret; have H3 : Hid _ := h3; clear h3))
              refine bodyPost_end (results_none rfl _ _ _) rfl ?_
              rw [HPB.out (.inr (.inr (by obtain rfl := HE.out; exact ⟨hjl, HQ4.out⟩)))]
              exact ⟨j, s, H3.out.after (HB2.out.trans (bl_drewN _ _ _))⟩
            | false =>
              rw [q4] at g27
              have HQ4 : Hid _ := q4
              clear q4
              go_quiet ((go_at_call 27; refine Calls.quiet_of_same (g27 _)))
              go_wp2_with (first | (go_at_call 51; refine (g51 _).mono ?_; intro e w3 h3; obtain rfl := h3.ret; have H3 : Hid _ := h3; clear h3) | (go_at_call 43; refine (g43 _).mono ?_; intro e w3 h3; obtain rfl := h3.ret; have H3 : Hid _ := h3; clear h3))
              refine bodyPost_end (results_none rfl _ _ _) rfl ?_
              rw [HPO.out (by have := HE.out; simp only [not_or, not_and, not_exists]; exact ⟨by omega, fun _ h => HQ1.out h, fun h q => by obtain rfl := HE.out; rw [HQ4.out] at q; cases q⟩)]
              have q := H3.out.after (HB2.out.trans (bl_drewN _ _ _))
              rw [HX.out] at q
              obtain rfl := HE.out
              exact q
    · have z1 : decide ((j : Int) < (S.size : Int)) = false := decide_eq_false (by omega)
      have HE : Hid (j = p + V) := by show j = p + V; have := run_end (f := dgt) hjl; have := HRUN.out; omega
      go_wp2
      go_quiet (fail)
      have HS1 : Hid (Sc (wr.drewN nq) base R S j s 0 0) := HSC.out.drewN nq
      have HB1 : Hid (Below base w (wr.drewN nq)) := HBL.out.trans (bl_drewN _ _ _)
      have d0 := HS1.out.cell0
      have d1 := HS1.out.cell1
      generalize wr.drewN nq = W1 at *
      have y1 : (p : Int) ≤ (j : Int) := by omega
      have y2 : (j : Int) ≤ (S.size : Int) := by omega
      have y0 : (0 : Int) ≤ (p : Int) := by omega
      have hXz : (S.extract p j).size = V := by have := HE.out; simp; omega
      have hX0 := fun h => mid_get S p j h hp
      have HX : Hid ((S.extract p j).data.toList = (S.data.toList.drop p).take V) := (Lib.toList_data _).symm.trans (by rw [HE.out]; exact ext_word S p V)
      obtain ⟨X, hX⟩ : ∃ X, S.extract p j = X := ⟨_, rfl⟩
      rw [hX] at hXz hX0 HX
      have hX1 : 0 < X.size := by omega
      have hX2 := hX0 hX1
      have y4 : (0 : Int) < (X.size : Int) := by omega
      have HXZ : Hid (X.size = V) := hXz
      clear hX0 hXz
      go_wp2_with fail
      go_quiet (fail)
      have HS2 : Hid (Sc (W1.drewN nq) base R S j s 0 0) := HS1.out.drewN nq
      have HB2 : Hid (Below base w (W1.drewN nq)) := HB1.out.trans (bl_drewN _ _ _)
      have e0 := HS2.out.cell0
      have e1 := HS2.out.cell1
      generalize W1.drewN nq = W2 at *
      have g51 := fun n => rwrong_any (W2.drewN n) base R S j s 0 0 (HS2.out.drewN n) p
      have g43 := fun n => radd_any (W2.drewN n) base R S j s 0 0 (HS2.out.drewN n) 2 p X hl
      go_wp2_with fail
      by_cases q1 : (S[p]'hp).toNat = 48
      · have HQ1 : Hid ((S[p]'hp).toNat = 48) := q1
        have k1 : (((X[0]'hX1).toNat : Int) == 48) = true := by rw [hX2]; exact nat_beq q1
        clear q1 hX2
        by_cases q2 : 1 < V
        · have k2 : (1 : Int) < (X.size : Int) := by have := HXZ.out; omega
          go_quiet (fail)
          go_wp2_with (first | (go_at_call 51; refine (g51 _).mono ?_; intro e w3 h3; obtain rfl := h3.ret; have H3 : Hid _ := h3; clear h3) | (go_at_call 43; refine (g43 _).mono ?_; intro e w3 h3; obtain rfl := h3.ret; have H3 : Hid _ := h3; clear h3))
          refine bodyPost_end (results_none rfl _ _ _) rfl ?_
          rw [HPB.out (.inr (.inl ⟨q2, HQ1.out⟩))]
          exact ⟨j, s, H3.out.after (HB2.out.trans (bl_drewN _ _ _))⟩
        · have k2 : decide ((1 : Int) < (X.size : Int)) = false := decide_eq_false (by have := HXZ.out; omega)
          have k3 : decide ((200 : Int) < (X.size : Int)) = false := decide_eq_false (by have := HXZ.out; omega)
          go_quiet (fail)
          go_wp2_with (first | (go_at_call 51; refine (g51 _).mono ?_; intro e w3 h3; obtain rfl := h3.ret; have H3 : Hid _ := h3; clear h3) | (go_at_call 43; refine (g43 _).mono ?_; intro e w3 h3; obtain rfl := h3.ret; have H3 : Hid _ := h3; clear h3))
          refine bodyPost_end (results_none rfl _ _ _) rfl ?_
          rw [HPO.out (by have := HE.out; simp only [not_or, not_and, not_exists]; exact ⟨by omega, fun h => absurd h q2, fun h q => absurd h (by omega)⟩)]
          have q := H3.out.after (HB2.out.trans (bl_drewN _ _ _))
          rw [HX.out] at q
          obtain rfl := HE.out
          exact q
      · have HQ1 : Hid (¬ (S[p]'hp).toNat = 48) := q1
        have k1 : (((X[0]'hX1).toNat : Int) == 48) = false := by rw [hX2]; exact nat_bne q1
        clear q1 hX2
        by_cases q3 : 200 < V
        · have k3 : (200 : Int) < (X.size : Int) := by have := HXZ.out; omega
          go_quiet (fail)
          go_wp2_with (first | (go_at_call 51; refine (g51 _).mono ?_; intro e w3 h3; obtain rfl := h3.ret; have H3 : Hid _ := h3; clear h3) | (go_at_call 43; refine (g43 _).mono ?_; intro e w3 h3; obtain rfl := h3.ret; have H3 : Hid _ := h3; clear h3))
          refine bodyPost_end (results_none rfl _ _ _) rfl ?_
          rw [HPB.out (.inl q3)]
          exact ⟨j, s, H3.out.after (HB2.out.trans (bl_drewN _ _ _))⟩
        · have k3 : decide ((200 : Int) < (X.size : Int)) = false := decide_eq_false (by have := HXZ.out; omega)
          go_quiet (fail)
          go_wp2_with (first | (go_at_call 51; refine (g51 _).mono ?_; intro e w3 h3; obtain rfl := h3.ret; have H3 : Hid _ := h3; clear h3) | (go_at_call 43; refine (g43 _).mono ?_; intro e w3 h3; obtain rfl := h3.ret; have H3 : Hid _ := h3; clear h3))
          refine bodyPost_end (results_none rfl _ _ _) rfl ?_
          rw [HPO.out (by have := HE.out; simp only [not_or, not_and, not_exists]; exact ⟨by omega, fun _ h => HQ1.out h, fun h q => absurd h (by omega)⟩)]
          have q := H3.out.after (HB2.out.trans (bl_drewN _ _ _))
          rw [HX.out] at q
          obtain rfl := HE.out
          exact q
end Go.Proofs.YtmfdfkbcommjfaaDoor
