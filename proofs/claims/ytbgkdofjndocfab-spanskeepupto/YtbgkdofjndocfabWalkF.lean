/-
  spans.Apply of two sorted edits to one file: the file with the two spans replaced, in new memory.
-/
import Derived.Test.YtbgkdofjndocfabWalkC
import Derived.Test.YtbgkdofjndocfabWalkD
import Derived.Test.YtbgkdofjndocfabWalkE
import Derived.Maps.Own
import Derived.Maps.OwnSet
namespace Go.Proofs.Ytbgkdofjndocfab
open Go.RowKit Go.Maps
attribute [local go_sem ↓] Go.wp_at_zero Go.wp_at_succ
theorem law9 : Keyed Try.prog 9 := string_keyed Try.underlying9
theorem zero3 (w : World) : (zeroValue 3).run Try.prog w = .ok (.int .i64 0) w := by kernel_rfl
set_option maxRecDepth 100000 in
theorem cloneF_any (b off n c : Nat) (news : List Value) (w : World) (hl : news.length = n * 2) (hn : n ≤ maxLen) (hbig : n * 32 ≤ 140737488355328)
    (hc : ∀ j u, news[j]? = some u → w.cell? ⟨b, off + j, none⟩ = some u) (h1 : ∀ u ∈ news, u.oneCell' = true) :
    Calls Try.prog 14 #[.slice (some ⟨b, off, none⟩) n c] w fun e w' => ∃ v', e = .returned v' ∧ w'.ownsRow w.heap.size 32 2 v' n news ∧ v' ≠ .slice none 0 0 ∧ Below w.heap.size w w' :=
  AnyE.slices_Clone Try.cloneFi _ _ 2 32 rfl rfl rfl rfl rfl (by omega) Try.sizeOf32 b off n c news w hl hn hbig hc h1
theorem ownsMap_below {w w' : World} {P : Program} {k : TypeId} {R : Value → Option (DataW Unit × List MemPlace)} {b n : Nat} {D : DataW Unit} (h : w.ownsMap P k R b n D) (hb : Below w.heap.size w w') : w'.ownsMap P k R b n D := by
  have hl := h.lt
  obtain ⟨es, clock, he, r⟩ := h
  exact ⟨es, clock, (hb.block b hl).trans he, r⟩
theorem newsF {w : World} {F : Nat} {p s : ByteArray} (f0 : w.cell? ⟨F, 0, none⟩ = some (.string p)) (f1 : w.cell? ⟨F, 1, none⟩ = some (.string s)) : ∀ j u, [Value.string p, Value.string s][j]? = some u → w.cell? ⟨F, 0 + j, none⟩ = some u := by
  intro j u hu
  match j, hu with
  | 0, hu => simp at hu; subst hu; exact f0
  | 1, hu => simp at hu; subst hu; exact f1
  | j + 2, hu => simp at hu
theorem atK0 (p : ByteArray) (c : Int) (h : (DataW.put (.map [] : DataW Unit) (.string p.data.toList) (.lit (.int .i64 0))).atKey (.string p.data.toList) (.lit (.int .i64 0)) = .lit (.int .i64 c)) : c = 0 := by
  have hk : WideAt.IsKeyLit (.string p.data.toList) := True.intro
  rw [atKey_put_same isMap_empty hk] at h
  simpa using h.symm
theorem ofOne2 (p t t' : ByteArray) (a b a' b' : Int) : ofOne [(p, a, b, t), (p, a', b', t')] = 2 := by
  simp [ofOne, Lib.idxBy, Lib.idxByFrom, othP]
set_option maxRecDepth 100000 in
set_option maxHeartbeats 2000000 in
theorem apply1_any (F fc E ec : Nat) (p s : ByteArray) (a b a' b' : Int) (t t' : ByteArray) (w : World) (hF : F < w.heap.size) (hE : E < w.heap.size) (hp : p.size ≤ maxLen) (hs : s.size ≤ maxLen)
    (f0 : w.cell? ⟨F, 0, none⟩ = some (.string p)) (f1 : w.cell? ⟨F, 1, none⟩ = some (.string s))
    (c0 : w.cell? ⟨E, 0, none⟩ = some (.string p)) (c1 : w.cell? ⟨E, 1, none⟩ = some (.int .i64 a)) (c2 : w.cell? ⟨E, 2, none⟩ = some (.int .i64 b)) (c3 : w.cell? ⟨E, 3, none⟩ = some (.string t))
    (c4 : w.cell? ⟨E, 4, none⟩ = some (.string p)) (c5 : w.cell? ⟨E, 5, none⟩ = some (.int .i64 a')) (c6 : w.cell? ⟨E, 6, none⟩ = some (.int .i64 b')) (c7 : w.cell? ⟨E, 7, none⟩ = some (.string t'))
    (hx : noSp a b = false) (hy : noSp a' b' = false) (ho : ¬ cfE (p, a', b', t') (p, a, b, t) < 0) (hne : eqE (p, a', b', t') (p, a, b, t) = false) (hcl : clashB p a b p a' = false)
    (hok : okE s 0 [(p, a, b, t), (p, a', b', t')]) (hlen : (Lib.join ((pcs s 0 [(p, a, b, t), (p, a', b', t')] ++ [s.extract (lastTo 0 [(p, a, b, t), (p, a', b', t')]) s.size]).map (·.data.toList)) []).length ≤ 140737488355328) :
    Calls Try.prog 8 #[.slice (some ⟨F, 0, none⟩) 1 fc, .slice (some ⟨E, 0, none⟩) 2 ec] w fun e w' => ∃ g cap, e = .returned (.tuple #[.slice (some ⟨g, 0, none⟩) 1 cap, .int .i64 0]) ∧ w'.cell? ⟨g, 0, none⟩ = some (.string p) ∧ w'.cell? ⟨g, 1, none⟩ = some (.string ⟨(Lib.join ((pcs s 0 [(p, a, b, t), (p, a', b', t')] ++ [s.extract (lastTo 0 [(p, a, b, t), (p, a', b', t')]) s.size]).map (·.data.toList)) []).toArray⟩) ∧ Below w.heap.size w w' := by
  have hkey := Go.WideMaps.keyOf_string_mk (P := Try.prog) (s := p) Try.underlying9 hp
  have hmm := @run_makeMap Try.prog
  have HCC : Hid (w.cell? ⟨E, 0, none⟩ = some (.string p) ∧ w.cell? ⟨E, 1, none⟩ = some (.int .i64 a) ∧ w.cell? ⟨E, 2, none⟩ = some (.int .i64 b) ∧ w.cell? ⟨E, 3, none⟩ = some (.string t) ∧ w.cell? ⟨E, 4, none⟩ = some (.string p) ∧ w.cell? ⟨E, 5, none⟩ = some (.int .i64 a') ∧ w.cell? ⟨E, 6, none⟩ = some (.int .i64 b') ∧ w.cell? ⟨E, 7, none⟩ = some (.string t')) := ⟨c0, c1, c2, c3, c4, c5, c6, c7⟩
  have HOK : Hid (okE s 0 [(p, a, b, t), (p, a', b', t')]) := hok
  have HLN : Hid ((Lib.join ((pcs s 0 [(p, a, b, t), (p, a', b', t')] ++ [s.extract (lastTo 0 [(p, a, b, t), (p, a', b', t')]) s.size]).map (·.data.toList)) []).length ≤ 140737488355328) := hlen
  have HH : Hid (noSp a b = false ∧ noSp a' b' = false ∧ ¬ cfE (p, a', b', t') (p, a, b, t) < 0 ∧ eqE (p, a', b', t') (p, a, b, t) = false ∧ clashB p a b p a' = false) := ⟨hx, hy, ho, hne, hcl⟩
  clear c0 c1 c2 c3 c4 c5 c6 c7 hok hlen hx hy ho hne hcl
  have hFne : F ≠ w.heap.size := by omega
  have g0 : (w.alloc (.map #[] 0)).cell? ⟨F, 0, none⟩ = some (.string p) := by rw [World.cell?_alloc_lt _ _ _ hF]; exact f0
  have g1 : (w.alloc (.map #[] 0)).cell? ⟨F, 1, none⟩ = some (.string s) := by rw [World.cell?_alloc_lt _ _ _ hF]; exact f1
  go_enter Try.func8, Try.ntmps8
  go_wp2_with fail
  refine wp_loop_rounds 2 ?_
  rw [rounds_succ]
  go_wp2_with (at_mapUpdate; refine wpList_mapUpdate_own _ rfl _ _ _ 44 rfl 9 3 law9 Try.underlying44 (plainElem (H := Unit) Try.prog 3) w.heap.size 0 _ rfl ((World.ownsMap_made w Try.prog 9 _).alloc _) (by unfold maxLen; omega) _ _ _ rfl rfl hkey _ [] (plainElem_int Try.underlying3 (by decide)) ?_; intro w1 hown1 hgrow1)
  have hb1 : Below w.heap.size w w1 := (((Below.refl _ w).alloc (Nat.le_refl _) _).alloc (by simp) _).grown hgrow1 (by simp; omega) (fun k hk => by cases hk; exact Nat.le_refl _)
  have HM1 : Hid (w1.ownsMap Try.prog 9 (plainElem (H := Unit) Try.prog 3) w.heap.size (0 + 1) (DataW.put (.map []) (.string p.data.toList) (.lit (.int .i64 0)))) := hown1
  have h1z : w.heap.size < w1.heap.size := hown1.lt
  have k0 := (hb1.cell (p := ⟨F, 0, none⟩) hF).trans f0
  have k1 := (hb1.cell (p := ⟨F, 1, none⟩) hF).trans f1
  clear hown1 hgrow1 hmm g0 g1
  have h10 := sorted2_any E ec (p, a, b, t) (p, a', b', t') w1 (by omega) ((hb1.cell (p := ⟨E, 0, none⟩) hE).trans HCC.out.1) ((hb1.cell (p := ⟨E, 1, none⟩) hE).trans HCC.out.2.1) ((hb1.cell (p := ⟨E, 2, none⟩) hE).trans HCC.out.2.2.1) ((hb1.cell (p := ⟨E, 3, none⟩) hE).trans HCC.out.2.2.2.1) ((hb1.cell (p := ⟨E, 4, none⟩) hE).trans HCC.out.2.2.2.2.1) ((hb1.cell (p := ⟨E, 5, none⟩) hE).trans HCC.out.2.2.2.2.2.1) ((hb1.cell (p := ⟨E, 6, none⟩) hE).trans HCC.out.2.2.2.2.2.2.1) ((hb1.cell (p := ⟨E, 7, none⟩) hE).trans HCC.out.2.2.2.2.2.2.2)
    HH.out.1 HH.out.2.1 (by have := HH.out.2.2.1; omega) HH.out.2.2.2.1 HH.out.2.2.2.2
  clear HH HCC
  rw [rounds_succ]
  go_wp2_with fail
  refine h10.mono ?_
  rintro e w2 ⟨g, cap, rfl, hgz, hcap, hown2, hb2⟩
  clear h10
  have HM2 : Hid (w2.ownsMap Try.prog 9 (plainElem (H := Unit) Try.prog 3) w.heap.size (0 + 1) (DataW.put (.map []) (.string p.data.toList) (.lit (.int .i64 0)))) := ownsMap_below HM1.out hb2
  have k20 := (hb2.cell (p := ⟨F, 0, none⟩) (Nat.lt_trans hF h1z)).trans k0
  have k21 := (hb2.cell (p := ⟨F, 1, none⟩) (Nat.lt_trans hF h1z)).trans k1
  have HO2 : Hid (w2.ownsRow w1.heap.size 26 4 (.slice (some ⟨g, 0, none⟩) 2 cap) 2 (encE (p, a, b, t) ++ encE (p, a', b', t'))) := hown2
  have hg2 : g < w2.heap.size := (hown2.lt g rfl).2
  have hs2 := hb2.size
  clear hown2 HM1 k0 k1
  have hsz : Maps.size (DataW.put (.map [] : DataW Unit) (.string p.data.toList) (.lit (.int .i64 0))) = 1 := rfl
  go_wp2_with (first | (at_len; refine wpList_len_own _ rfl _ 44 rfl 9 3 Try.underlying44 _ w.heap.size (0 + 1) _ rfl HM2.out ?_; rw [hsz]) | fail)
  have h30 := cloneF_any F 0 1 fc [.string p, .string s] w2 (by simp) (by unfold maxLen; omega) (by omega) (newsF k20 k21) (by simp [Value.oneCell'])
  refine h30.mono ?_
  rintro e w3 ⟨v3, rfl, hown3, hnn, hb3⟩
  clear h30 hsz
  obtain ⟨G, Gc, hv, hG1, hG2⟩ := hown3.form (by omega)
  rw [hv] at hown3
  rw [hv]
  clear hv hnn
  have HM3 : Hid (w3.ownsMap Try.prog 9 (plainElem (H := Unit) Try.prog 3) w.heap.size (0 + 1) (DataW.put (.map []) (.string p.data.toList) (.lit (.int .i64 0)))) := ownsMap_below HM2.out hb3
  have HO3 : Hid (w3.ownsRow w1.heap.size 26 4 (.slice (some ⟨g, 0, none⟩) 2 cap) 2 (encE (p, a, b, t) ++ encE (p, a', b', t'))) := ownsRow_below HO2.out hb3 hg2
  have HG3 : Hid (w3.ownsRow w2.heap.size 32 2 (.slice (some ⟨G, 0, none⟩) 1 Gc) 1 [.string p, .string s]) := hown3
  have k30 := (hb3.cell (p := ⟨F, 0, none⟩) (Nat.lt_of_lt_of_le (Nat.lt_trans hF h1z) hs2)).trans k20
  have k31 := (hb3.cell (p := ⟨F, 1, none⟩) (Nat.lt_of_lt_of_le (Nat.lt_trans hF h1z) hs2)).trans k21
  have hs3 := hb3.size
  clear hown3 HM2 HO2 k20 k21
  go_wp2_with fail
  refine wp_loop_rounds 2 ?_
  rw [rounds_succ]
  go_wp2_with fail
  have hc3 := cells2 (owns2 HO3.out).1 (owns2 HO3.out).2.1 (owns2 HO3.out).2.2.1 (owns2 HO3.out).2.2.2.1 (owns2 HO3.out).2.2.2.2.1 (owns2 HO3.out).2.2.2.2.2.1 (owns2 HO3.out).2.2.2.2.2.2.1 (owns2 HO3.out).2.2.2.2.2.2.2
  have h31 := ofOnePath_any g 2 cap [(p, a, b, t), (p, a', b', t')] w3 rfl (by omega) (by omega) (Nat.lt_of_lt_of_le hg2 hs3) hc3
  rw [ofOne2] at h31
  clear hc3
  refine h31.mono ?_
  rintro e w4 ⟨rfl, hb4⟩
  clear h31
  have HM4 : Hid (w4.ownsMap Try.prog 9 (plainElem (H := Unit) Try.prog 3) w.heap.size (0 + 1) (DataW.put (.map []) (.string p.data.toList) (.lit (.int .i64 0)))) := ownsMap_below HM3.out hb4
  have HO4 : Hid (w4.ownsRow w1.heap.size 26 4 (.slice (some ⟨g, 0, none⟩) 2 cap) 2 (encE (p, a, b, t) ++ encE (p, a', b', t'))) := ownsRow_below HO3.out hb4 (Nat.lt_of_lt_of_le hg2 hs3)
  have HG4 : Hid (w4.ownsRow w2.heap.size 32 2 (.slice (some ⟨G, 0, none⟩) 1 Gc) 1 [.string p, .string s]) := ownsRow_below HG3.out hb4 hG2
  have hF3 : F < w3.heap.size := Nat.lt_of_lt_of_le (Nat.lt_of_lt_of_le (Nat.lt_trans hF h1z) hs2) hs3
  have k40 := (hb4.cell (p := ⟨F, 0, none⟩) hF3).trans k30
  have k41 := (hb4.cell (p := ⟨F, 1, none⟩) hF3).trans k31
  have hs4 := hb4.size
  obtain ⟨c0, c1, c2, c3, c4, c5, c6, c7⟩ := owns2 HO4.out
  clear HM3 HO3 HG3 k30 k31
  have hhas : Maps.has (DataW.put (.map [] : DataW Unit) (.string p.data.toList) (.lit (.int .i64 0))) (.string p.data.toList) = true := has_put_same isMap_empty (by exact True.intro) _
  go_wp2_with (first | (at_lookup; refine wpList_lookup_own_ok_int _ rfl _ _ 44 rfl 9 3 .i64 law9 Try.underlying44 Try.underlying3 (zero3 _) w.heap.size (0 + 1) _ rfl HM4.out _ _ rfl hkey ?_; intro c hat hwc; have hc0 : c = 0 := (atK0 p c hat); subst hc0) | fail)
  have hbs : b' ≤ (s.size : Int) := HOK.out.2.2.2.2.2.1
  have hbs' : ¬ (s.size : Int) < b' := by omega
  have hg4 : g < w4.heap.size := Nat.lt_of_lt_of_le (Nat.lt_of_lt_of_le hg2 hs3) hs4
  have hG4 : G < w4.heap.size := Nat.lt_of_lt_of_le hG2 hs4
  have hF4 : F < w4.heap.size := Nat.lt_of_lt_of_le hF3 hs4
  have h32 := fun (W : World) (e1 : ∀ o, W.cell? ⟨g, o, none⟩ = w4.cell? ⟨g, o, none⟩) (e2 : W.heap.size = w4.heap.size) =>
    replaced_any s g cap 2 [(p, a, b, t), (p, a', b', t')] W rfl (by omega) hs (by simp) (fun j hj => by
      simp at hj
      match j, hj with
      | 0, _ => exact ⟨(e1 _).trans c0, (e1 _).trans c1, (e1 _).trans c2, (e1 _).trans c3⟩
      | 1, _ => exact ⟨(e1 _).trans c4, (e1 _).trans c5, (e1 _).trans c6, (e1 _).trans c7⟩) HOK.out HLN.out
  generalize hR : (Lib.join ((pcs s 0 [(p, a, b, t), (p, a', b', t')] ++ [s.extract (lastTo 0 [(p, a, b, t), (p, a', b', t')]) s.size]).map (·.data.toList)) []).toArray = R at h32 ⊢
  have HR : Hid ((Lib.join ((pcs s 0 [(p, a, b, t), (p, a', b', t')] ++ [s.extract (lastTo 0 [(p, a, b, t), (p, a', b', t')]) s.size]).map (·.data.toList)) []).toArray = R) := hR
  clear hR HLN
  have kG0 : w4.cell? ⟨G, 0, none⟩ = some (.string p) := by rw [HG4.out.cellAt 0 (by omega)]; rfl
  have kG1 : w4.cell? ⟨G, 1, none⟩ = some (.string s) := by rw [HG4.out.cellAt 1 (by omega)]; rfl
  have kF1 : w4.frozen? ⟨G, 1, none⟩ = false := HG4.out.frozenAt 1
  have z2 : (2 : Int) ≤ (cap : Int) := by omega
  have hGF : G ≠ F := by omega
  have HBW : Hid (Below w.heap.size w w4) := ((hb1.trans (hb2.mono (by omega))).trans (hb3.mono (by omega))).trans (hb4.mono (by omega))
  go_quiet (fail)
  go_wp2_with fail
  go_region_held3 (fun w' => w'.cell? ⟨F, 1, none⟩ = some (.string s))
    (first | go_keep | (rw [World.cell?_setCell_other _ _ _ _ (by intro h; cases h; exact hGF rfl)]; exact j1))
    ((go_at_call 16; refine (h32 _ (by intro o; simp) (by simp)).mono ?_; rintro e w5 ⟨rfl, hb5⟩; have j0 := (hb5.cell (p := ⟨G, 0, none⟩) (by simpa using hG4)).trans ((by simp : World.cell? _ _ = _).trans kG0); have j1 := (hb5.cell (p := ⟨F, 1, none⟩) (by simpa using hF4)).trans ((by simp : World.cell? _ _ = _).trans k41); have j2 := (hb5.cell (p := ⟨G, 1, none⟩) (by simpa using hG4)).trans ((by simp : World.cell? _ _ = _).trans kG1); have j3 := (hb5.frozen (p := ⟨G, 1, none⟩) (by simpa using hG4)).trans ((by simp : World.frozen? _ _ = _).trans kF1)))
  all_goals
    go_wp2_with fail
    all_goals
      rw [rounds_succ]
      go_wp2_with fail
      go_ret2
      have hb5' : Below w.heap.size w w5 := by first | exact (below_drewN HBW.out _).trans (hb5.mono (by simp; omega)) | exact (below_drewN HBW.out _).drew.trans (hb5.mono (by simp; omega))
      refine ⟨G, Gc, rfl, by rw [World.cell?_setCell_other _ _ _ _ (by intro h; cases h)]; exact j0, ?_, hb5'.setCell (by simp; omega) _⟩
      rw [HR.out]
      exact World.cell?_setCell_same _ _ _ j2
end Go.Proofs.Ytbgkdofjndocfab
