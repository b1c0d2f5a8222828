/-
  spans.Apply of any edits to any files.
-/
import Derived.Test.YtbgkdofjndocfabFilesW
namespace Go.Proofs.Ytbgkdofjndocfab
open Go.RowKit Go.Maps
attribute [local go_sem ↓] Go.wp_at_zero Go.wp_at_succ
def ApPost (fs : List Fi) (l : List Ed) (w : World) (e : Ending) (w' : World) : Prop :=
  Below w.heap.size w w' ∧ ((∃ out v, Srt l out ∧ Apart fs fs.length ∧ Fit fs out ∧ e = .returned (.tuple #[v, .int .i64 0]) ∧ w'.ownsRow w.heap.size 32 2 v fs.length (flatF (fs.map (newF out)))) ∨
    ((¬ Good l ∨ ¬ Apart fs fs.length ∨ ∃ out, Srt l out ∧ ¬ Fit fs out) ∧ e = .returned (.tuple #[.slice none 0 0, .int .i64 1])))
theorem apart_or (fs : List Fi) (n : Nat) : Apart fs n ∨ ∃ i j, i < j ∧ j < n ∧ (fs.getD i default).1 = (fs.getD j default).1 := by
  by_cases h : Apart fs n
  · exact .inl h
  · right
    unfold Apart at h
    simp only [Classical.not_forall] at h
    obtain ⟨i, j, h1, h2, h3⟩ := h
    exact ⟨i, j, h1, h2, Classical.not_not.1 h3⟩
theorem edAt_each {w : World} {g c : Nat} {out : List Ed} (h : ∀ j, j < out.length → EdAt w g j (out.getD j default)) : ∀ j, j < (out.drop c).length → ∀ i v, (encE (out.drop c)[j]!)[i]? = some v → w.cell? ⟨g, c * 4 + j * 4 + i, none⟩ = some v := by
  intro j hj i v hv
  have hj' : c + j < out.length := by simp at hj; omega
  have e : (out.drop c)[j]! = out.getD (c + j) default := by simp [List.getD_eq_getElem?_getD, hj']
  rw [e] at hv
  have hi : i < 4 := by have := (List.getElem?_eq_some_iff.1 hv).1; simpa [encE] using this
  obtain ⟨h0, h1, h2, h3⟩ := h (c + j) hj'
  rw [show c * 4 + j * 4 = (c + j) * 4 by omega]
  rcases (by omega : i = 0 ∨ i = 1 ∨ i = 2 ∨ i = 3) with rfl | rfl | rfl | rfl <;> simp [encE] at hv <;> subst hv
  · exact h0
  · exact h1
  · exact h2
  · exact h3
theorem atKi {D : DataW Unit} {p : ByteArray} {c i : Int} (h0 : D.atKey (.string p.data.toList) (.lit (.int .i64 0)) = .lit (.int .i64 i)) (h : D.atKey (.string p.data.toList) (.lit (.int .i64 0)) = .lit (.int .i64 c)) : c = i := by
  rw [h0] at h
  simpa using h.symm
theorem flatF_set (E : List Fi) (i : Nat) (t : ByteArray) (hi : i < E.length) : flatF (E.set i ((E.getD i default).1, t)) = (flatF E).set (i * 2 + 1) (.string t) := by
  apply List.ext_getElem?
  intro j
  have hl := flatF_len E
  rcases Nat.lt_or_ge j (E.length * 2) with hj | hj
  · have e := flatF_get (E.set i ((E.getD i default).1, t)) (j / 2) (by simp; omega)
    have e' := flatF_get E (j / 2) (by omega)
    rw [List.getElem?_set]
    by_cases hq : i = j / 2
    · have hx : (E.set i ((E.getD i default).1, t)).getD (j / 2) default = ((E.getD i default).1, t) := by simp [List.getD_eq_getElem?_getD, hq, (by omega : j / 2 < E.length)]
      rw [hx] at e
      rcases Nat.mod_two_eq_zero_or_one j with hm | hm
      · rw [show j / 2 * 2 = j by omega] at e e'
        rw [if_neg (by omega), e.1, e'.1, hq]
      · rw [show j / 2 * 2 + 1 = j by omega] at e e'
        rw [if_pos (by omega), if_pos (by omega), e.2]
    · have hx : (E.set i ((E.getD i default).1, t)).getD (j / 2) default = E.getD (j / 2) default := by simp [List.getD_eq_getElem?_getD, hq]
      rw [hx] at e
      rw [if_neg (by omega)]
      rcases Nat.mod_two_eq_zero_or_one j with hm | hm
      · rw [show j / 2 * 2 = j by omega] at e e'
        rw [e.1, e'.1]
      · rw [show j / 2 * 2 + 1 = j by omega] at e e'
        rw [e.2, e'.2]
  · rw [List.getElem?_eq_none (by rw [flatF_len]; simpa using hj), List.getElem?_eq_none (by rw [List.length_set, flatF_len]; omega)]
theorem grp_each {w : World} {g c m : Nat} {out : List Ed} (hm : c + m ≤ out.length) (h : ∀ j, j < out.length → EdAt w g j (out.getD j default)) : ∀ j (hj : j < ((out.drop c).take m).length), w.cell? ⟨g, c * 4 + j * 4, none⟩ = some (.string ((out.drop c).take m)[j].1) ∧ w.cell? ⟨g, c * 4 + j * 4 + 1, none⟩ = some (.int .i64 ((out.drop c).take m)[j].2.1) ∧ w.cell? ⟨g, c * 4 + j * 4 + 2, none⟩ = some (.int .i64 ((out.drop c).take m)[j].2.2.1) ∧ w.cell? ⟨g, c * 4 + j * 4 + 3, none⟩ = some (.string ((out.drop c).take m)[j].2.2.2) := by
  intro j hj
  have hj' : j < m ∧ c + j < out.length := by simp at hj; omega
  have e : ((out.drop c).take m)[j] = out.getD (c + j) default := by simp [List.getD_eq_getElem?_getD, hj'.2]
  rw [e, show c * 4 + j * 4 = (c + j) * 4 by omega]
  exact h (c + j) hj'.2
theorem grp_okE {l out : List Ed} {c m : Nat} {P s : ByteArray} (hg : Grp out c m P) (hs : Srt l out) (hl : (out.getD (c + (m - 1)) default).2.2.1 ≤ (s.size : Int)) : okE s 0 ((out.drop c).take m) := by
  refine okE_of s _ 0 (fun x hx => ?_) ((hs.pw.sublist (List.drop_sublist c out)).sublist (List.take_sublist m _)) (fun x hx y hy => by rw [hg.mem hx, hg.mem hy]) (by omega)
  have hxo : x ∈ out := List.mem_of_mem_drop (List.mem_of_mem_take hx)
  have h1 := hs.good.1 x ((hs.mem x).1 hxo)
  refine ⟨h1, by have := h1.1; omega, ?_⟩
  obtain ⟨j, hj, e⟩ := mem_getD hx
  simp at hj
  have := hg.fits hs hl j (by omega)
  rw [← drop_getD'] at this
  rw [← e]
  simpa [List.getD_eq_getElem?_getD, List.getElem?_take, (by omega : j < m)] using this
theorem data_ne {a b : ByteArray} (h : a ≠ b) : a.data.toList ≠ b.data.toList := fun e => h (toList_inj (by rw [Lib.toList_data, Lib.toList_data]; exact e))
structure ApRel (w1 : World) (a : Option Addr) (v' : Value) (k : Nat) (fs : List Fi) (out : List Ed) (r : Value) (w' : World) : Prop where
  ex : ∃ (c : Nat) (ra : Option Addr) (rc : Nat), c ≤ out.length ∧ r = .slice ra (out.length - c) rc ∧ (c < out.length → ∃ g, a = some ⟨g, 0, none⟩ ∧ ra = some ⟨g, c * 4, none⟩ ∧ out.length - c ≤ rc) ∧ w'.ownsRow w1.heap.size 32 2 v' k (flatF (fs.map (newF (out.take c)))) ∧ Below w1.heap.size w1 w' ∧ Hid (Sep out c) ∧ Hid (∀ e ∈ out.take c, ∃ i, i < fs.length ∧ (fs.getD i default).1 = e.1 ∧ e.2.2.1 ≤ ((fs.getD i default).2.size : Int))
def lenOf : Value → Nat
  | .slice _ n _ => n
  | _ => 0
set_option maxRecDepth 100000 in
set_option maxHeartbeats 4000000 in
theorem applyAll_any (vf vl : Value) (fs : List Fi) (l : List Ed) (w : World) (hF : FiArg w vf fs) (hE : EdArg w vl l) (hn1 : fs.length ≤ 1000000) (hl1 : l.length ≤ 1048576)
    (hsz : ∀ j, j < fs.length → (fs.getD j default).1.size ≤ 1048576 ∧ (fs.getD j default).2.size ≤ 1048576) (hesz : ∀ x ∈ l, x.1.size ≤ 1048576 ∧ x.2.2.2.size ≤ 1048576) :
    Calls Try.prog 8 #[vf, vl] w fun e w' => ApPost fs l w e w' := by
  have hmm := @run_makeMap Try.prog
  obtain ⟨fa, fc, rfl, hfs⟩ := hF.shape
  have HF : Hid (FiArg w (.slice fa fs.length fc) fs) := hF
  have HE : Hid (EdArg w vl l) := hE
  have HSZ : Hid (∀ j, j < fs.length → (fs.getD j default).1.size ≤ 1048576 ∧ (fs.getD j default).2.size ≤ 1048576) := hsz
  have HESZ : Hid (∀ x ∈ l, x.1.size ≤ 1048576 ∧ x.2.2.2.size ≤ 1048576) := hesz
  clear hsz hesz hF hE
  generalize hN : fs.length = n at *
  have HN : Hid (fs.length = n) := hN
  have hnl : n ≤ fs.length := by omega
  have hnl2 : fs.length ≤ n := by omega
  clear hN
  go_enter Try.func8, Try.ntmps8
  go_wp2_with fail
  go_loopw [18] (fun i w' => ∃ k : Nat, k ≤ n ∧ i = .int .i64 k ∧ w'.ownsMap Try.prog 9 (plainElem (H := Unit) Try.prog 3) w.heap.size k (mp fs k) ∧ Below w.heap.size w w' ∧ Hid (∀ j, j < k → Tidy (mp fs j))) (fun i _ => n - (intOf i).toNat)
  case atStart => exact ⟨0, by omega, rfl, World.ownsMap_made _ _ _ _, (Below.refl _ _).alloc (Nat.le_refl _) _, fun j hj => by omega⟩
  case round =>
    obtain ⟨k, hk, rfl, hown, hbl, HTD⟩ := hrel
    by_cases hlt : k < n
    · obtain ⟨F, fo, rfl, hFb, hA⟩ := hfs (by omega)
      have hkz : k < fs.length := by omega
      have HA' : FilesAt wr F fo fs := hA.below hFb hbl
      have r0 := HA'.p k hkz
      have r1 := HA'.t k hkz
      have hps := (HSZ.out k hlt).1
      have HM : Hid (mp fs (k + 1) = (mp fs k).put (ky (fs.getD k default).1) (.lit (.int .i64 k))) := rfl
      have HTD' : Hid (∀ j, j < k + 1 → Tidy (mp fs j)) := fun j hj => by
        rcases Nat.lt_or_ge j k with h | h
        · exact HTD.out j h
        · obtain rfl : j = k := by omega
          exact own_tidy hown
      generalize fs.getD k default = x at *
      obtain ⟨p, t⟩ := x
      simp only at r0 r1 hps
      have hkey := Go.WideMaps.keyOf_string_mk (P := Try.prog) (s := p) Try.underlying9 (by unfold maxLen; omega)
      have HO : Hid (wr.ownsMap Try.prog 9 (plainElem (H := Unit) Try.prog 3) w.heap.size k (mp fs k)) := hown
      have HB : Hid (Below w.heap.size w wr) := hbl
      have hz := hbl.size
      clear hown hbl HA' HTD hA
      go_wp2_with (at_mapUpdate; refine wpList_mapUpdate_own _ rfl _ _ _ 44 rfl 9 3 law9 Try.underlying44 (plainElem (H := Unit) Try.prog 3) w.heap.size k _ rfl (HO.out.alloc _) (by unfold maxLen; omega) _ _ _ rfl rfl hkey _ [] (plainElem_int Try.underlying3 (wf_i64_nat k (by omega))) ?_; intro w1 hown1 hgrow1)
      go_roundw
      case rel => exact ⟨k + 1, by omega, by go_num, by rw [HM.out]; exact hown1, (HB.out.alloc hz _).grown hgrow1 (by simp; omega) (fun j hj => by cases hj; exact Nat.le_refl _), HTD'⟩
      case measure => simp [intOf]; omega
    · obtain rfl : k = n := by omega
      have HO : Hid (wr.ownsMap Try.prog 9 (plainElem (H := Unit) Try.prog 3) w.heap.size k (mp fs k)) := hown
      have HB : Hid (Below w.heap.size w wr) := hbl
      have hz := hbl.size
      have hEw : EdArg wr vl l := HE.out.below hbl
      have h10 := sorted_sp2 vl l wr (by omega) hEw
      have HTD2 : Hid (∀ j, j < k → Tidy (mp fs j)) := HTD
      clear hown hbl HTD hEw
      go_wp2_with fail
      refine h10.mono ?_
      rintro e w1 ⟨hb1, ⟨a, cap, out, hs, rfl, hcap, hrow⟩ | ⟨hng, rfl⟩⟩
      · clear h10
        have HM1 : Hid (w1.ownsMap Try.prog 9 (plainElem (H := Unit) Try.prog 3) w.heap.size k (mp fs k)) := ownsMap_below HO.out hb1
        have hs1 := hb1.size
        have HB1 : Hid (Below w.heap.size w w1) := HB.out.trans (hb1.mono hz)
        have HS : Hid (Srt l out) := hs
        have hol := hs.len
        clear hs
        rcases apart_or fs k with hap | ⟨i, j, hij, hj, he⟩
        · have hmsz : Maps.size (mp fs k) = k := mp_size fs k HTD2.out fun i j hi hj => data_ne (hap i j hi hj)
          have hF1 : FiArg w1 (.slice fa k fc) fs := HF.out.below HB1.out
          have h30 := cloneFi_any (.slice fa k fc) fs w1 (by omega) hF1
          rw [HN.out] at h30
          have HAP : Hid (Apart fs k) := hap
          clear hap
          go_wp2_with (at_len; refine wpList_len_own _ rfl _ 44 rfl 9 3 Try.underlying44 _ w.heap.size k _ rfl HM1.out ?_; rw [hmsz])
          refine h30.mono ?_
          rintro e w2 ⟨v', rfl, hown2, hb2⟩
          clear h30
          have HSEP : Hid (Sep out 0) := fun x hx => by simp at hx
          have HO2 : Hid (w2.ownsRow w1.heap.size 32 2 v' k (flatF (fs.map (newF (out.take 0))))) := by
            rw [List.take_zero, map_nil_new]; exact hown2
          have HB2 : Hid (Below w1.heap.size w1 w2) := hb2
          have HROW : Hid (0 < out.length → ∃ g, a = some ⟨g, 0, none⟩ ∧ EdRow w1 wr.heap.size g out) := hrow
          have hra : 0 < out.length → ∃ g, a = some ⟨g, 0, none⟩ := fun h => by obtain ⟨g, h1, _⟩ := hrow h; exact ⟨g, h1⟩
          clear hown2 hb2 hrow hF1
          go_wp2_with fail
          go_loopw [9] (fun r w' => ApRel w1 a v' k fs out r w') (fun r _ => lenOf r)
          case atStart => exact ⟨0, a, cap, by omega, rfl, fun h => by obtain ⟨g, h1⟩ := hra h; exact ⟨g, h1, by rw [h1], by omega⟩, HO2.out, HB2.out, HSEP, fun e he => by simp at he⟩
          case round =>
            obtain ⟨c, ra, rc, hc, rfl, hrc, hown3, hb3, HSP, HFT⟩ := hrel.ex
            clear hrel
            have HO3 : Hid (wr.ownsRow w1.heap.size 32 2 v' k (flatF (fs.map (newF (out.take c))))) := hown3
            have HB3 : Hid (Below w1.heap.size w1 wr) := hb3
            clear hown3
            by_cases hlt2 : c < out.length
            · obtain ⟨g, ha, rfl, hrc'⟩ := hrc hlt2
              obtain ⟨g', ha', hrow⟩ := HROW.out (by omega)
              rw [ha] at ha'
              simp at ha'
              subst ha'
              have hE3 : ∀ j, j < out.length → EdAt wr g j (out.getD j default) := fun j hj => (hrow.eds j hj).below hrow.hi hb3
              obtain ⟨m, hm, hgrp⟩ := grp_of out c hlt2
              have hs3 := hb3.size
              have hg3 : g < wr.heap.size := Nat.lt_of_lt_of_le hrow.hi hs3
              have h31 := ofOnePath_off g (c * 4) (out.length - c) rc (out.drop c) wr (by simp) (by omega) (by omega) hg3 (edAt_each hE3)
              rw [hm] at h31
              have hm1 := hgrp.pos
              have hm2 := hgrp.le
              have HG : Hid (Grp out c m (out.getD c default).1) := hgrp
              clear hgrp hm hrc hb3
              generalize hnl3 : out.length - c = r at *
              have HRR : Hid (r - m = out.length - (c + m)) := by show r - m = out.length - (c + m); omega
              have HLQ : Hid (c + m < out.length → out.length - (c + m) ≤ rc - m ∧ m < rc) := fun h => by omega
              have HRL : Hid (r - m < r) := by show r - m < r; omega
              go_wp2_with fail
              refine h31.mono ?_
              rintro e w3 ⟨rfl, hb4⟩
              clear h31
              have hb13 : Below w1.heap.size w1 w3 := HB3.out.trans (hb4.mono hs3)
              have HM3 : Hid (w3.ownsMap Try.prog 9 (plainElem (H := Unit) Try.prog 3) w.heap.size k (mp fs k)) := ownsMap_below HM1.out hb13
              obtain ⟨c0, c1, c2, c3⟩ := (hE3 c hlt2).below hg3 hb4
              obtain ⟨_, _, d2, _⟩ := (hE3 (c + (m - 1)) (by omega)).below hg3 hb4
              rw [show (c + (m - 1)) * 4 + 2 = c * 4 + (m - 1) * 4 + 2 by omega] at d2
              have hPm := getD_mem out c hlt2
              have hPz := (HESZ.out _ ((HS.out.mem _).1 hPm)).1
              have HP : Hid (∃ x, x = (out.getD c default).1) := ⟨_, rfl⟩
              have ew : IntKind.i64.wrap ((m : Int) - 1) = (m : Int) - 1 := IntWalk.i64_in _ (by omega)
              have ek : ((m : Int) - 1).toNat = m - 1 := by omega
              have x1 : (0 : Int) ≤ (m : Int) - 1 := by omega
              have x2 : (m : Int) - 1 < (r : Int) := by omega
              have x3 : (m : Int) ≤ (r : Int) := by omega
              have x4 : (1 : Int) ≤ (m : Int) := by omega
              have x5 : (0 : Int) < (r : Int) := by omega
              have x6 : m ≤ r := by omega
              have x7 : (0 : Int) ≤ (m : Int) := by omega
              have x8 : (m : Int) ≤ (rc : Int) := by omega
              have hPP : (out.getD c default).1 = (out.getD c default).1 := rfl
              have HPP : Hid (∃ e ∈ out, e.1 = (out.getD c default).1) := ⟨_, hPm, rfl⟩
              clear hPm HP hPP
              by_cases hfnd : ∃ i, i < k ∧ (fs.getD i default).1 = (out.getD c default).1
              · obtain ⟨i, hi, hfi⟩ := hfnd
                have hmat := mp_at fs i k hi fun j h1 h2 => data_ne (HAP.out i j h1 h2).symm
                rw [hfi] at hmat
                unfold ky at hmat
                have hhas := hmat.2
                have HAT : Hid ((mp fs k).atKey (.string (out.getD c default).1.data.toList) (.lit (.int .i64 0)) = .lit (.int .i64 i)) := hmat.1
                obtain ⟨F, fo, rfl, hFb, hFA⟩ := hfs (by omega)
                have hFw1 : F < w1.heap.size := Nat.lt_of_lt_of_le hFb HB1.out.size
                have hFA3 : FilesAt w3 F fo fs := (hFA.below hFb HB1.out).below hFw1 hb13
                have f1 := hFA3.t i (by omega)
                have HFI : Hid ((fs.getD i default).1 = (out.getD c default).1) := hfi
                have HBX : Hid (Below w.heap.size w w3) := HB1.out.trans (hb13.mono HB1.out.size)
                have HLF : Hid (∀ z : Int, z < (out.getD (c + (m - 1)) default).2.2.1 → ((fs.getD i default).2.size : Int) = z → ¬ Fit fs out) := fun z h1 h2 hf => by
                  obtain ⟨j, hj, h3, h4⟩ := hf _ (getD_mem out (c + (m - 1)) (by omega))
                  rw [HG.out.same (m - 1) (by omega), ← hfi] at h3
                  have hij : j = i := by
                    rcases Nat.lt_trichotomy j i with h | h | h
                    · exact absurd h3 (HAP.out j i h hi)
                    · exact h
                    · exact absurd h3.symm (HAP.out i j h (by omega))
                  subst hij
                  omega
                clear hmat hfi HPP
                have hkey := Go.WideMaps.keyOf_string_mk (P := Try.prog) (s := (out.getD c default).1) Try.underlying9 (by unfold maxLen; omega)
                have y1 : (0 : Int) ≤ (i : Int) := by omega
                have y2 : (i : Int) < (k : Int) := by omega
                by_cases hT : ((fs.getD i default).2.size : Int) < (out.getD (c + (m - 1)) default).2.2.1
                · have HNF : Hid (¬ Fit fs out) := HLF.out _ hT rfl
                  clear HLF hE3 hrow hFA hFA3 hb4 hb13
                  generalize (out.getD (c + (m - 1)) default).2.2.1 = T at *
                  generalize (fs.getD i default).2 = sx at *
                  generalize (out.getD c default).1 = P at *
                  go_wp2_with (first | (at_lookup; refine wpList_lookup_own_ok_int _ rfl _ _ 44 rfl 9 3 .i64 law9 Try.underlying44 Try.underlying3 (zero3 _) w.heap.size k _ rfl HM3.out _ _ rfl hkey ?_; intro ci hat hwc; have hci : ci = i := (atKi HAT.out hat); subst hci) | fail)
                  go_quiet (fail)
                  go_wp2_with fail
                  go_ret2
                  exact ⟨below_drewN HBX.out _, .inr ⟨.inr (.inr ⟨out, HS.out, HNF.out⟩), rfl⟩⟩
                · have hTL : (out.getD (c + (m - 1)) default).2.2.1 ≤ ((fs.getD i default).2.size : Int) := by omega
                  have hoke := grp_okE HG.out HS.out hTL
                  have hgl : ((out.drop c).take m).length = m := by simp; omega
                  have hjl : (Lib.join ((pcs (fs.getD i default).2 0 ((out.drop c).take m) ++ [(fs.getD i default).2.extract (lastTo 0 ((out.drop c).take m)) (fs.getD i default).2.size]).map (·.data.toList)) []).length ≤ 140737488355328 := by
                    rw [join_repL]
                    have := repL_len (fs.getD i default).2.data.toList 1048576 (HSZ.out i hi).2 ((out.drop c).take m) 0 fun x hx => (HESZ.out x ((HS.out.mem x).1 (List.mem_of_mem_drop (List.mem_of_mem_take hx)))).2
                    rw [hgl] at this
                    omega
                  have hE4 : ∀ j, j < out.length → EdAt w3 g j (out.getD j default) := fun j hj => (hE3 j hj).below hg3 hb4
                  have hg4 : g < w3.heap.size := Nat.lt_of_lt_of_le hg3 hb4.size
                  have h32 := fun (W : World) (e1 : ∀ o, W.cell? ⟨g, o, none⟩ = w3.cell? ⟨g, o, none⟩) (e2 : W.heap.size = w3.heap.size) =>
                    replaced_off (fs.getD i default).2 g (c * 4) rc m ((out.drop c).take m) W hgl.symm (by omega) (by have := (HSZ.out i hi).2; unfold maxLen; omega) (by omega) (fun j hj => by have := grp_each hm2 hE4 j hj; rw [e1, e1, e1, e1]; exact this) hoke hjl
                  simp only [join_repL] at h32
                  obtain ⟨Gv, Gc, hv, hG1, hG2⟩ := HO3.out.form (by omega)
                  subst hv
                  have HO5 : Hid (w3.ownsRow w1.heap.size 32 2 (.slice (some ⟨Gv, 0, none⟩) k Gc) k (flatF (fs.map (newF (out.take c))))) := own_below HO3.out hb4
                  have hEl : (fs.map (newF (out.take c))).length = k := by simp; omega
                  have hEi : ((fs.map (newF (out.take c))).getD i default).1 = (out.getD c default).1 := by
                    rw [← HFI.out]
                    simp [List.getD_eq_getElem?_getD, (by omega : i < fs.length), newF]
                  have HNX : Hid (∀ W : World, W.ownsRow w1.heap.size 32 2 (.slice (some ⟨Gv, 0, none⟩) k Gc) k (flatF (fs.map (newF (out.take c)))) → (W.setCell ⟨Gv, i * 2 + 1, none⟩ (.string ⟨(repL (fs.getD i default).2.data.toList 0 ((out.drop c).take m)).toArray⟩)).ownsRow w1.heap.size 32 2 (.slice (some ⟨Gv, 0, none⟩) k Gc) k (flatF (fs.map (newF (out.take (c + m)))))) := fun W h => by
                    have h1 := own_set (o := i * 2 + 1) (v := .string ⟨(repL (fs.getD i default).2.data.toList 0 ((out.drop c).take m)).toArray⟩) h (by omega)
                    rw [← flatF_set _ i _ (by omega), hEi] at h1
                    rw [map_step hlt2 rfl HG.out HSP.out (by rw [HN.out]; exact HAP.out) (by omega) HFI.out]
                    exact h1
                  have HSP2 : Hid (Sep out (c + m)) := HSP.out.grp HG.out HS.out
                  have HFT2 : Hid (∀ e ∈ out.take (c + m), ∃ i, i < fs.length ∧ (fs.getD i default).1 = e.1 ∧ e.2.2.1 ≤ ((fs.getD i default).2.size : Int)) := fun e he => by
                    rw [List.take_add] at he
                    rcases List.mem_append.1 he with he | he
                    · exact HFT.out e he
                    · refine ⟨i, by omega, by rw [HFI.out, HG.out.mem he], ?_⟩
                      obtain ⟨j, hj, ej⟩ := mem_getD he
                      simp at hj
                      have := HG.out.fits HS.out hTL j (by omega)
                      rw [← drop_getD'] at this
                      rw [← ej]
                      simpa [List.getD_eq_getElem?_getD, List.getElem?_take, (by omega : j < m)] using this
                  have kG1 : ∃ u, w3.cell? ⟨Gv, i * 2 + 1, none⟩ = some u := by
                    rw [HO5.out.cellAt _ (by omega), (flatF_get _ i (by omega)).2]
                    exact ⟨_, rfl⟩
                  obtain ⟨u, kG1⟩ := kG1
                  have kF1 : w3.frozen? ⟨Gv, i * 2 + 1, none⟩ = false := HO5.out.frozenAt _
                  have hG4 : Gv < w3.heap.size := Nat.lt_of_lt_of_le hG2 hb4.size
                  have hGF : Gv ≠ F := by omega
                  have hF4 : F < w3.heap.size := Nat.lt_of_lt_of_le hFw1 (Nat.le_trans hs3 hb4.size)
                  have H13 : Hid (Below w1.heap.size w1 w3) := hb13
                  have hsz3 : w1.heap.size ≤ w3.heap.size := hb13.size
                  clear HLF hE3 hE4 hrow hFA hFA3 hb4 hb13 hoke hjl hEi hEl HO3 HFT HSP
                  generalize (repL (fs.getD i default).2.data.toList 0 ((out.drop c).take m)).toArray = NT at *
                  generalize (out.getD (c + (m - 1)) default).2.2.1 = T at *
                  generalize (fs.getD i default).2 = sx at *
                  generalize (out.getD c default).1 = P at *
                  go_wp2_with (first | (at_lookup; refine wpList_lookup_own_ok_int _ rfl _ _ 44 rfl 9 3 .i64 law9 Try.underlying44 Try.underlying3 (zero3 _) w.heap.size k _ rfl HM3.out _ _ rfl hkey ?_; intro ci hat hwc; have hci : ci = i := (atKi HAT.out hat); subst hci) | fail)
                  go_quiet (fail)
                  go_wp2_with fail
                  go_region_held3 (fun w' => w'.cell? ⟨F, fo + i * 2 + 1, none⟩ = some (.string sx))
                    (first | go_keep | (rw [World.cell?_setCell_other _ _ _ _ (by intro h; cases h; exact hGF rfl)]; exact j1))
                    ((go_at_call 16; refine (h32 _ (by intro o; simp) (by simp)).mono ?_; rintro e w5 ⟨rfl, hb5⟩; have j1 := (hb5.cell (p := ⟨F, fo + i * 2 + 1, none⟩) (by simpa using hF4)).trans ((by simp : World.cell? _ _ = _).trans f1); have j2 := (hb5.cell (p := ⟨Gv, i * 2 + 1, none⟩) (by simpa using hG4)).trans ((by simp : World.cell? _ _ = _).trans kG1); have j3 := (hb5.frozen (p := ⟨Gv, i * 2 + 1, none⟩) (by simpa using hG4)).trans ((by simp : World.frozen? _ _ = _).trans kF1)))
                  all_goals
                    go_wp2_with fail
                  all_goals
                    have hb6 : Below w1.heap.size w1 w5 := (below_drewN H13.out _).trans (hb5.mono (by simp; omega))
                    have hfin : ∀ (ra : Option Addr) (q : Nat), (c + m < out.length → ra = some ⟨g, c * 4 + m * 4, none⟩ ∧ out.length - (c + m) ≤ q) → ApRel w1 (some ⟨g, 0, none⟩) (.slice (some ⟨Gv, 0, none⟩) k Gc) k fs out (.slice ra (r - m) q) (w5.setCell ⟨Gv, i * 2 + 1, none⟩ (.string ⟨NT⟩)) := fun ra q hq => ⟨c + m, ra, q, hm2, by rw [HRR.out], fun h => ⟨g, rfl, by rw [(hq h).1, Nat.add_mul], (hq h).2⟩, HNX.out w5 (own_below HO5.out (below_drewN (Below.refl _ _) _ |>.trans hb5)), hb6.setCell (p := ⟨Gv, i * 2 + 1, none⟩) hG1 _, HSP2, HFT2⟩
                    first
                    | exact ⟨⟨u4, u5, _, hfin _ _ (fun h => ⟨rfl, (HLQ.out h).1⟩), rfl, rfl, rfl⟩, HRL.out⟩
                    | exact ⟨⟨u4, u5, _, hfin _ _ (fun h => absurd (HLQ.out h).2 (by clear ew ek; omega)), rfl, rfl, rfl⟩, HRL.out⟩
              · have hno : Maps.has (mp fs k) (ky (out.getD c default).1) = false := mp_has fs _ k fun j hj => data_ne fun e => hfnd ⟨j, hj, e⟩
                have HNF : Hid (¬ Fit fs out) := fun h => by
                  obtain ⟨e, he, h1⟩ := HPP.out
                  obtain ⟨i, hi, h2, _⟩ := h e he
                  exact hfnd ⟨i, by omega, h2.trans h1⟩
                have HBX : Hid (Below w.heap.size w w3) := HB1.out.trans (hb13.mono HB1.out.size)
                clear hfnd HPP hb4 hb13 hE3 hrow
                unfold ky at hno
                generalize (out.getD c default).1 = P at *
                have hkey := Go.WideMaps.keyOf_string_mk (P := Try.prog) (s := P) Try.underlying9 (by unfold maxLen; omega)
                go_wp2_with (first | (at_lookup; refine wpList_lookup_own_ok_int _ rfl _ _ 44 rfl 9 3 .i64 law9 Try.underlying44 Try.underlying3 (zero3 _) w.heap.size k _ rfl HM3.out _ _ rfl hkey ?_; intro ci hat hwc) | fail)
                go_quiet (fail)
                go_wp2_with fail
                go_ret2
                exact ⟨below_drewN HBX.out _, .inr ⟨.inr (.inr ⟨out, HS.out, HNF.out⟩), rfl⟩⟩
            · obtain rfl : c = out.length := by omega
              have HD : Hid (w.heap.size ≤ w1.heap.size) := HB1.out.size
              have hx := HO3.out
              rw [List.take_length] at hx
              have HO4 : Hid (wr.ownsRow w1.heap.size 32 2 v' k (flatF (fs.map (newF out)))) := hx
              have hy := HFT.out
              rw [List.take_length] at hy
              have HFF : Hid (Fit fs out) := hy
              have hsub : out.length - out.length = 0 := Nat.sub_self _
              clear hx hy HO3 HFT hb3
              go_wp2_with fail
              go_ret2
              refine ⟨HB1.out.trans (HB3.out.mono HD.out), .inl ⟨out, v', HS.out, by rw [HN.out]; exact HAP.out, HFF.out, rfl, ?_⟩⟩
              rw [HN.out]
              exact HO4.out.mono HD.out
        · have hmd := mp_dup fs i j hij he k hj HTD2.out
          have HNA : Hid (¬ Apart fs k) := fun h => h i j hij hj he
          go_wp2_with (at_len; refine wpList_len_own _ rfl _ 44 rfl 9 3 Try.underlying44 _ w.heap.size k _ rfl HM1.out ?_)
          go_ret2
          exact ⟨HB1.out, .inr ⟨.inr (.inl (by rw [HN.out]; exact HNA.out)), rfl⟩⟩
      · clear h10
        have HM1 : Hid (w1.ownsMap Try.prog 9 (plainElem (H := Unit) Try.prog 3) w.heap.size k (mp fs k)) := ownsMap_below HO.out hb1
        have HB1 : Hid (Below w.heap.size w w1) := HB.out.trans (hb1.mono hz)
        go_wp2_with (at_len; refine wpList_len_own _ rfl _ 44 rfl 9 3 Try.underlying44 _ w.heap.size k _ rfl HM1.out ?_)
        all_goals
          go_ret2
          exact ⟨HB1.out, .inr ⟨.inl hng, rfl⟩⟩
end Go.Proofs.Ytbgkdofjndocfab
