/-
  name of the document's scanner, walked.
-/
import Derived.Test.YtmfdfkbcommjfaaDoorRefB
namespace Go.Proofs.YtmfdfkbcommjfaaDoor
open Go.RowKit
attribute [local go_sem ↓] Go.wp_at_zero Go.wp_at_succ
/-- the place that a scanner stands at -/
def cellI (w : World) (R : Nat) : Nat := match w.cell? ⟨R, 1, none⟩ with | some v => (intOf v).toNat | none => 0
theorem Sc.cellI {w : World} {base R : Nat} {S : ByteArray} {i : Nat} {s : St} {c a : Nat} (h : Sc w base R S i s c a) : Go.Proofs.YtmfdfkbcommjfaaDoor.cellI w R = i := by
  unfold Go.Proofs.YtmfdfkbcommjfaaDoor.cellI; rw [h.cell1]; simp [intOf]
/-- what a piece leaves: the scanner behind it, or its fault -/
def RP (w : World) (base R : Nat) (S : ByteArray) (s : St) (p : Nat) (pc : Pc) (e : Ending) (w' : World) : Prop :=
  match pc with
  | .bad o => ∃ i s', ScP w base R S i s' 3 (p + o) e w'
  | .line => ScP w base R S (p + 1) (stp p s .line) 0 0 e w'
  | .blank => ScP w base R S (p + 1) (stp p s .blank) 0 0 e w'
  | .tok k n x => ScP w base R S (p + n) (stp p s (.tok k n x)) 0 0 e w'
  | .rmk n ls => ScP w base R S (p + n) (stp p s (.rmk n ls)) 0 0 e w'
/-- the loop of name: at place j -/
structure NmR (w : World) (base R : Nat) (S : ByteArray) (s : St) (f : UInt8 → Bool) (p n : Nat) (wr : World) : Prop where
  ex : ∃ j, p ≤ j ∧ j ≤ S.size ∧ Sc wr base R S j s 0 0 ∧ Below base w wr ∧ j + run f (S.data.toList.drop j) = n
theorem NmR.next {w wr : World} {base R : Nat} {S : ByteArray} {s : St} {f : UInt8 → Bool} {p n j m : Nat} (hj : j < S.size) (hp : p ≤ j) (h : Sc wr base R S j s 0 0) (hb : Below base w wr) (hr : j + run f (S.data.toList.drop j) = n) (hf : f (S[j]'hj) = true) :
    NmR w base R S s f p n ((wr.drewN m).setCell ⟨R, 1, none⟩ (.int .i64 ((j : Int) + 1))) ∧ S.size - cellI ((wr.drewN m).setCell ⟨R, 1, none⟩ (.int .i64 ((j : Int) + 1))) R < S.size - cellI wr R := by
  have h2 := (h.drewN m).put1 (j + 1)
  have e : ((j + 1 : Nat) : Int) = (j : Int) + 1 := by omega
  rw [e] at h2
  refine ⟨⟨j + 1, by omega, hj, h2, (hb.trans (bl_drewN _ _ m)).setCell h.le _, ?_⟩, ?_⟩
  · rw [run_yes hj hf] at hr; omega
  · rw [h2.cellI, h.cellI]; omega
set_option maxRecDepth 100000 in
set_option maxHeartbeats 2000000 in
theorem rname_bad (w : World) (base R : Nat) (S : ByteArray) (s : St) (p : Nat) (h : Sc w base R S p s 0 0) (hp : p ≤ S.size) (hS : S.size ≤ 65536) (hn : 60 < run lod (S.data.toList.drop p)) :
    Calls Tryd.prog 39 #[.pointer (some ⟨R, 0, none⟩)] w (RP w base R S s p (.bad 0)) := by
  have c1 := h.cell1
  have hrl := run_le lod (S.data.toList.drop p)
  rw [List.length_drop, bal] at hrl
  obtain ⟨V, hV⟩ : ∃ V, run lod (S.data.toList.drop p) = V := ⟨_, rfl⟩
  rw [hV] at hrl hn
  have HV : Hid (p + run lod (S.data.toList.drop p) = p + V) := congrArg (p + ·) hV
  have HH : Hid (Sc w base R S p s 0 0) := h
  clear h hV
  go_enter Tryd.func39, Tryd.ntmps39
  go_wp2_with fail
  go_loopw [] (fun wr => NmR w base R S s lod p (p + V) wr) (fun wr => S.size - cellI wr R)
  case atStart => exact ⟨p, Nat.le_refl _, hp, HH.out, Below.refl _ _, HV.out⟩
  case round =>
    obtain ⟨j, hpj, hj, hsc, hbl, hrun⟩ := hrel.ex
    clear hrel c1
    have c0 := hsc.cell0
    have c1 := hsc.cell1
    have f1 := hsc.frz 1
    have HSC : Hid (Sc wr base R S j s 0 0) := hsc
    have HBL : Hid (Below base w wr) := hbl
    have HRUN : Hid (j + run lod (S.data.toList.drop j) = p + V) := hrun
    clear hsc hbl hrun
    have z2 : (0 : Int) ≤ (j : Int) := by omega
    by_cases hjl : j < S.size
    · have z1 : (j : Int) < (S.size : Int) := by omega
      have z3 : IntKind.i64.wrap ((j : Int) + 1) = (j : Int) + 1 := wrap_small _ (by omega) (by omega)
      have g27 := rletter_any (S[j]'hjl)
      have g28 := rdigit_any (S[j]'hjl)
      cases q1 : ltr (S[j]'hjl) with
      | true =>
        rw [q1] at g27
        have HNX : Hid (∀ m, NmR w base R S s lod p (p + V) ((wr.drewN m).setCell ⟨R, 1, none⟩ (.int .i64 ((j : Int) + 1))) ∧ S.size - cellI ((wr.drewN m).setCell ⟨R, 1, none⟩ (.int .i64 ((j : Int) + 1))) R < S.size - cellI wr R) := fun m => NmR.next hjl hpj HSC.out HBL.out HRUN.out (by simp [lod, q1])
        clear q1
        go_wp2
        go_quiet (first | (go_at_call 27; refine Calls.quiet_of_same (g27 _)) | (go_at_call 28; refine Calls.quiet_of_same (g28 _)))
        go_wp2
        exact HNX.out _
      | false =>
        rw [q1] at g27
        cases q2 : dgt (S[j]'hjl) with
        | true =>
          rw [q2] at g28
          have HNX : Hid (∀ m, NmR w base R S s lod p (p + V) ((wr.drewN m).setCell ⟨R, 1, none⟩ (.int .i64 ((j : Int) + 1))) ∧ S.size - cellI ((wr.drewN m).setCell ⟨R, 1, none⟩ (.int .i64 ((j : Int) + 1))) R < S.size - cellI wr R) := fun m => NmR.next hjl hpj HSC.out HBL.out HRUN.out (by simp [lod, q2])
          clear q1 q2
          go_wp2
          go_quiet (first | (go_at_call 27; refine Calls.quiet_of_same (g27 _)) | (go_at_call 28; refine Calls.quiet_of_same (g28 _)))
          go_wp2
          exact HNX.out _
        | false =>
          rw [q2] at g28
          have HE : Hid (j = p + V) := by show j = p + V; have := run_no (f := lod) hjl (by simp [lod, q1, q2]); have := HRUN.out; omega
          clear q1 q2
          go_wp2
          go_quiet (first | (go_at_call 27; refine Calls.quiet_of_same (g27 _)) | (go_at_call 28; refine Calls.quiet_of_same (g28 _)))
          have y1 : (p : Int) ≤ (j : Int) := by omega
          have y2 : (j : Int) ≤ (S.size : Int) := by omega
          have y0 : (0 : Int) ≤ (p : Int) := by omega
          have hXz : (S.extract p j).size = j - p := by simp; omega
          obtain ⟨X, hX⟩ : ∃ X, S.extract p j = X := ⟨_, rfl⟩
          rw [hX] at hXz
          have y3 : (60 : Int) < (X.size : Int) := by have := HE.out; omega
          clear hXz
          have g51 := fun n => rwrong_any (wr.drewN n) base R S j s 0 0 (HSC.out.drewN n) p
          go_wp2_with fail
          go_quiet (fail)
          go_wp2_with (go_at_call 51; refine (g51 _).mono ?_; intro e w3 h3; obtain rfl := h3.ret; have H3 : Hid _ := h3; clear h3)
          refine bodyPost_end (results_none rfl _ _ _) rfl ?_
          exact ⟨j, s, H3.out.after (HBL.out.trans (bl_drewN _ _ _))⟩
    · have z1 : decide ((j : Int) < (S.size : Int)) = false := decide_eq_false (by omega)
      have HE : Hid (j = p + V) := by show j = p + V; have := run_end (f := lod) hjl; have := HRUN.out; omega
      go_wp2
      go_quiet (fail)
      have y1 : (p : Int) ≤ (j : Int) := by omega
      have y2 : (j : Int) ≤ (S.size : Int) := by omega
      have y0 : (0 : Int) ≤ (p : Int) := by omega
      have hXz : (S.extract p j).size = j - p := by simp; omega
      obtain ⟨X, hX⟩ : ∃ X, S.extract p j = X := ⟨_, rfl⟩
      rw [hX] at hXz
      have y3 : (60 : Int) < (X.size : Int) := by have := HE.out; omega
      clear hXz
      have g51 := fun n => rwrong_any (wr.drewN n) base R S j s 0 0 (HSC.out.drewN n) p
      go_wp2_with fail
      go_quiet (fail)
      go_wp2_with (go_at_call 51; refine (g51 _).mono ?_; intro e w3 h3; obtain rfl := h3.ret; have H3 : Hid _ := h3; clear h3)
      refine bodyPost_end (results_none rfl _ _ _) rfl ?_
      exact ⟨j, s, H3.out.after (HBL.out.trans (bl_drewN _ _ _))⟩
set_option maxRecDepth 100000 in
set_option maxHeartbeats 2000000 in
theorem rname_ok (w : World) (base R : Nat) (S : ByteArray) (s : St) (p : Nat) (h : Sc w base R S p s 0 0) (hp : p ≤ S.size) (hS : S.size ≤ 65536) (hl : s.toks.length ≤ 1000000) (hn : ¬ 60 < run lod (S.data.toList.drop p)) :
    Calls Tryd.prog 39 #[.pointer (some ⟨R, 0, none⟩)] w (RP w base R S s p (.tok (if word ((S.data.toList.drop p).take (run lod (S.data.toList.drop p))) then 4 else 1) (run lod (S.data.toList.drop p)) ((S.data.toList.drop p).take (run lod (S.data.toList.drop p))))) := by
  have c1 := h.cell1
  have hrl := run_le lod (S.data.toList.drop p)
  rw [List.length_drop, bal] at hrl
  obtain ⟨V, hV⟩ : ∃ V, run lod (S.data.toList.drop p) = V := ⟨_, rfl⟩
  rw [hV] at hrl hn ⊢
  obtain ⟨kd, hkd⟩ : ∃ kd, (if word ((S.data.toList.drop p).take V) then 4 else 1) = kd := ⟨_, rfl⟩
  rw [hkd]
  have HK : Hid ((if word ((S.data.toList.drop p).take V) then 4 else 1) = kd) := hkd
  clear hkd
  have HV : Hid (p + run lod (S.data.toList.drop p) = p + V) := congrArg (p + ·) hV
  have HH : Hid (Sc w base R S p s 0 0) := h
  clear h hV
  go_enter Tryd.func39, Tryd.ntmps39
  go_wp2_with fail
  go_loopw [] (fun wr => NmR w base R S s lod p (p + V) wr) (fun wr => S.size - cellI wr R)
  case atStart => exact ⟨p, Nat.le_refl _, hp, HH.out, Below.refl _ _, HV.out⟩
  case round =>
    obtain ⟨j, hpj, hj, hsc, hbl, hrun⟩ := hrel.ex
    clear hrel c1
    have c0 := hsc.cell0
    have c1 := hsc.cell1
    have f1 := hsc.frz 1
    have HSC : Hid (Sc wr base R S j s 0 0) := hsc
    have HBL : Hid (Below base w wr) := hbl
    have HRUN : Hid (j + run lod (S.data.toList.drop j) = p + V) := hrun
    clear hsc hbl hrun
    have z2 : (0 : Int) ≤ (j : Int) := by omega
    by_cases hjl : j < S.size
    · have z1 : (j : Int) < (S.size : Int) := by omega
      have z3 : IntKind.i64.wrap ((j : Int) + 1) = (j : Int) + 1 := wrap_small _ (by omega) (by omega)
      have g27 := rletter_any (S[j]'hjl)
      have g28 := rdigit_any (S[j]'hjl)
      cases q1 : ltr (S[j]'hjl) with
      | true =>
        rw [q1] at g27
        have HNX : Hid (∀ m, NmR w base R S s lod p (p + V) ((wr.drewN m).setCell ⟨R, 1, none⟩ (.int .i64 ((j : Int) + 1))) ∧ S.size - cellI ((wr.drewN m).setCell ⟨R, 1, none⟩ (.int .i64 ((j : Int) + 1))) R < S.size - cellI wr R) := fun m => NmR.next hjl hpj HSC.out HBL.out HRUN.out (by simp [lod, q1])
        clear q1
        go_wp2
        go_quiet (first | (go_at_call 27; refine Calls.quiet_of_same (g27 _)) | (go_at_call 28; refine Calls.quiet_of_same (g28 _)))
        go_wp2
        exact HNX.out _
      | false =>
        rw [q1] at g27
        cases q2 : dgt (S[j]'hjl) with
        | true =>
          rw [q2] at g28
          have HNX : Hid (∀ m, NmR w base R S s lod p (p + V) ((wr.drewN m).setCell ⟨R, 1, none⟩ (.int .i64 ((j : Int) + 1))) ∧ S.size - cellI ((wr.drewN m).setCell ⟨R, 1, none⟩ (.int .i64 ((j : Int) + 1))) R < S.size - cellI wr R) := fun m => NmR.next hjl hpj HSC.out HBL.out HRUN.out (by simp [lod, q2])
          clear q1 q2
          go_wp2
          go_quiet (first | (go_at_call 27; refine Calls.quiet_of_same (g27 _)) | (go_at_call 28; refine Calls.quiet_of_same (g28 _)))
          go_wp2
          exact HNX.out _
        | false =>
          rw [q2] at g28
          have HE : Hid (j = p + V) := by show j = p + V; have := run_no (f := lod) hjl (by simp [lod, q1, q2]); have := HRUN.out; omega
          clear q1 q2
          go_wp2
          go_quiet (first | (go_at_call 27; refine Calls.quiet_of_same (g27 _)) | (go_at_call 28; refine Calls.quiet_of_same (g28 _)))
          have y1 : (p : Int) ≤ (j : Int) := by omega
          have y2 : (j : Int) ≤ (S.size : Int) := by omega
          have y0 : (0 : Int) ≤ (p : Int) := by omega
          have hXz : (S.extract p j).size = j - p := by simp; omega
          have g43 := fun n kd => radd_any (wr.drewN n) base R S j s 0 0 (HSC.out.drewN n) kd p (S.extract p j) hl
          have g14 := rword_any (S.extract p j)
          have ex : (S.extract p j).toList = (S.data.toList.drop p).take V := by rw [HE.out]; exact ext_word S p V
          rw [ex] at g14
          have HX : Hid ((S.extract p j).data.toList = (S.data.toList.drop p).take V) := (Lib.toList_data _).symm.trans ex
          clear ex
          obtain ⟨X, hX⟩ : ∃ X, S.extract p j = X := ⟨_, rfl⟩
          rw [hX] at hXz HX g14 g43
          have y3 : ¬ (60 : Int) < (X.size : Int) := by have := HE.out; omega
          clear hXz
          have HK2 := HK.out
          generalize (S.data.toList.drop p).take V = tx at *
          cases hw : word tx
          all_goals
            rw [hw] at g14 HK2
            have HK3 : Hid _ := HK2
            clear hw HK2
            go_wp2_with fail
            go_quiet (fail)
            go_wp2_with (first | (go_at_call 14; refine (g14 _).mono ?_; rintro e w4 ⟨rfl, hw4⟩; obtain rfl := hw4.symm) | (go_at_call 43; refine (g43 _ _).mono ?_; intro e w3 h3; obtain rfl := h3.ret; have H3 : Hid _ := h3; clear h3))
            refine bodyPost_end (results_none rfl _ _ _) rfl ?_
            have q := H3.out.after (HBL.out.trans (bl_drewN _ _ _))
            rw [HX.out] at q
            obtain rfl := HE.out
            rw [← HK3.out]
            exact q
    · have z1 : decide ((j : Int) < (S.size : Int)) = false := decide_eq_false (by omega)
      have HE : Hid (j = p + V) := by show j = p + V; have := run_end (f := lod) hjl; have := HRUN.out; omega
      go_wp2
      go_quiet (fail)
      have y1 : (p : Int) ≤ (j : Int) := by omega
      have y2 : (j : Int) ≤ (S.size : Int) := by omega
      have y0 : (0 : Int) ≤ (p : Int) := by omega
      have hXz : (S.extract p j).size = j - p := by simp; omega
      have g43 := fun n kd => radd_any (wr.drewN n) base R S j s 0 0 (HSC.out.drewN n) kd p (S.extract p j) hl
      have g14 := rword_any (S.extract p j)
      have ex : (S.extract p j).toList = (S.data.toList.drop p).take V := by rw [HE.out]; exact ext_word S p V
      rw [ex] at g14
      have HX : Hid ((S.extract p j).data.toList = (S.data.toList.drop p).take V) := (Lib.toList_data _).symm.trans ex
      clear ex
      obtain ⟨X, hX⟩ : ∃ X, S.extract p j = X := ⟨_, rfl⟩
      rw [hX] at hXz HX g14 g43
      have y3 : ¬ (60 : Int) < (X.size : Int) := by have := HE.out; omega
      clear hXz
      have HK2 := HK.out
      generalize (S.data.toList.drop p).take V = tx at *
      cases hw : word tx
      all_goals
        rw [hw] at g14 HK2
        have HK3 : Hid _ := HK2
        clear hw HK2
        go_wp2_with fail
        go_quiet (fail)
        go_wp2_with (first | (go_at_call 14; refine (g14 _).mono ?_; rintro e w4 ⟨rfl, hw4⟩; obtain rfl := hw4.symm) | (go_at_call 43; refine (g43 _ _).mono ?_; intro e w3 h3; obtain rfl := h3.ret; have H3 : Hid _ := h3; clear h3))
        refine bodyPost_end (results_none rfl _ _ _) rfl ?_
        have q := H3.out.after (HBL.out.trans (bl_drewN _ _ _))
        rw [HX.out] at q
        obtain rfl := HE.out
        rw [← HK3.out]
        exact q
end Go.Proofs.YtmfdfkbcommjfaaDoor
