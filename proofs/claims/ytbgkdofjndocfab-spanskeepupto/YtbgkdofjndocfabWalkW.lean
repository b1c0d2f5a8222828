/-
  spans.Apply of no edits, and of one edit of the first file, to any files whose paths differ.
-/
import Derived.Test.YtbgkdofjndocfabWalkV
import Derived.Test.YtbgkdofjndocfabWalkF
namespace Go.Proofs.Ytbgkdofjndocfab
open Go.RowKit Go.Maps
attribute [local go_sem ↓] Go.wp_at_zero Go.wp_at_succ
abbrev Fi := ByteArray × ByteArray
def encF (x : Fi) : List Value := [.string x.1, .string x.2]
def flatF (fs : List Fi) : List Value := fs.flatMap encF
def ky (p : ByteArray) : Lit := .string p.data.toList
def mp (fs : List Fi) : Nat → DataW Unit
  | 0 => .map []
  | k + 1 => (mp fs k).put (ky (fs.getD k default).1) (.lit (.int .i64 k))
theorem mp_isMap (fs : List Fi) : ∀ k, IsMap (mp fs k)
  | 0 => isMap_empty
  | k + 1 => (mp_isMap fs k).put _ _
theorem mp_has (fs : List Fi) (q : ByteArray) : ∀ k, (∀ j, j < k → (fs.getD j default).1.data.toList ≠ q.data.toList) → Maps.has (mp fs k) (ky q) = false
  | 0, _ => rfl
  | k + 1, h => by
    rw [mp, has_put_other (by unfold ky; intro e; exact h k (by omega) (by simpa using e.symm))]
    exact mp_has fs q k fun j hj => h j (by omega)
theorem mp_size (fs : List Fi) : ∀ k, (∀ j, j < k → Tidy (mp fs j)) → (∀ i j, i < j → j < k → (fs.getD i default).1.data.toList ≠ (fs.getD j default).1.data.toList) → Maps.size (mp fs k) = k
  | 0, _, _ => rfl
  | k + 1, ht, h => by
    rw [mp, size_put (ht k (by omega)), mp_has fs _ k fun j hj => h j k hj (by omega)]
    simp [mp_size fs k (fun j hj => ht j (by omega)) fun i j hi hj => h i j hi (by omega)]
theorem mp_first (fs : List Fi) : ∀ k, (∀ j, 0 < j → j < k + 1 → (fs.getD j default).1.data.toList ≠ (fs.getD 0 default).1.data.toList) → (mp fs (k + 1)).atKey (ky (fs.getD 0 default).1) (.lit (.int .i64 0)) = .lit (.int .i64 0) ∧ Maps.has (mp fs (k + 1)) (ky (fs.getD 0 default).1) = true
  | 0, _ => by
    have hk : WideAt.IsKeyLit (ky (fs.getD 0 default).1) := True.intro
    exact ⟨atKey_put_same isMap_empty hk _ _, has_put_same isMap_empty hk _⟩
  | k + 1, h => by
    have ih := mp_first fs k fun j h0 hj => h j h0 (by omega)
    have hne : ky (fs.getD 0 default).1 ≠ ky (fs.getD (k + 1) default).1 := by unfold ky; intro e; exact h (k + 1) (by omega) (by omega) (by simpa using e.symm)
    rw [mp, atKey_put_other hne, has_put_other hne]
    exact ih
theorem own_tidy {w : World} {b n : Nat} {D : DataW Unit} (h : w.ownsMap Try.prog 9 (plainElem (H := Unit) Try.prog 3) b n D) : Tidy D := h.tidy law9
structure FilesAt (w : World) (F fo : Nat) (fs : List Fi) : Prop where
  p : ∀ j, j < fs.length → w.cell? ⟨F, fo + j * 2, none⟩ = some (.string (fs.getD j default).1)
  t : ∀ j, j < fs.length → w.cell? ⟨F, fo + j * 2 + 1, none⟩ = some (.string (fs.getD j default).2)
theorem FilesAt.below {w w' : World} {F fo : Nat} {fs : List Fi} (h : FilesAt w F fo fs) (hF : F < w.heap.size) (hb : Below w.heap.size w w') : FilesAt w' F fo fs :=
  ⟨fun j hj => (hb.cell (p := ⟨F, _, none⟩) hF).trans (h.p j hj), fun j hj => (hb.cell (p := ⟨F, _, none⟩) hF).trans (h.t j hj)⟩
theorem flatF_len (fs : List Fi) : (flatF fs).length = fs.length * 2 := by
  induction fs with
  | nil => rfl
  | cons a l ih => simp [flatF, encF] at *; omega
theorem flatF_one (fs : List Fi) : ∀ u ∈ flatF fs, u.oneCell' = true := by
  intro u hu
  simp only [flatF, List.mem_flatMap] at hu
  obtain ⟨x, _, hx⟩ := hu
  simp [encF] at hx
  rcases hx with rfl | rfl <;> rfl
theorem flatF_get : ∀ (fs : List Fi) (j : Nat), j < fs.length → (flatF fs)[j * 2]? = some (.string (fs.getD j default).1) ∧ (flatF fs)[j * 2 + 1]? = some (.string (fs.getD j default).2)
  | [], j, h => by simp at h
  | a :: l, 0, _ => ⟨rfl, rfl⟩
  | a :: l, j + 1, h => by
    have ih := flatF_get l j (by simpa using h)
    have e : flatF (a :: l) = .string a.1 :: .string a.2 :: flatF l := rfl
    rw [e, show (j + 1) * 2 = j * 2 + 1 + 1 by omega]
    simpa using ih
theorem flatF_cells {w : World} {F fo : Nat} {fs : List Fi} (h : FilesAt w F fo fs) : ∀ j u, (flatF fs)[j]? = some u → w.cell? ⟨F, fo + j, none⟩ = some u := by
  intro j u hu
  have hj : j < fs.length * 2 := by rw [← flatF_len]; exact (List.getElem?_eq_some_iff.1 hu).1
  have hg := flatF_get fs (j / 2) (by omega)
  rcases Nat.mod_two_eq_zero_or_one j with hm | hm
  · have e : j = j / 2 * 2 := by omega
    rw [e] at hu ⊢
    rw [hg.1] at hu
    rw [← Option.some.inj hu]
    exact h.p _ (by omega)
  · have e : j = j / 2 * 2 + 1 := by omega
    rw [e] at hu ⊢
    rw [hg.2] at hu
    rw [← Option.some.inj hu]
    exact h.t _ (by omega)
theorem wf_i64_nat (k : Nat) (h : k ≤ 1000000) : (Lit.int .i64 (k : Int)).wf = true := WalkArith.wf_i64 (by omega)
set_option maxRecDepth 100000 in
set_option maxHeartbeats 2000000 in
theorem apply0_any (F fo fc n : Nat) (fs : List Fi) (w : World) (hF : F < w.heap.size) (hn : n = fs.length) (hn1 : n ≤ 1000000) (hA : FilesAt w F fo fs) (hsz : ∀ j, j < fs.length → (fs.getD j default).1.size ≤ maxLen)
    (hd : ∀ i j, i < j → j < fs.length → (fs.getD i default).1.data.toList ≠ (fs.getD j default).1.data.toList) :
    Calls Try.prog 8 #[.slice (some ⟨F, fo, none⟩) n fc, .slice none 0 0] w fun e w' => ∃ v, e = .returned (.tuple #[v, .int .i64 0]) ∧ w'.ownsRow w.heap.size 32 2 v n (flatF fs) ∧ Below w.heap.size w w' := by
  have hmm := @run_makeMap Try.prog
  have HA : Hid (FilesAt w F fo fs) := hA
  have HSZ : Hid (∀ j, j < fs.length → (fs.getD j default).1.size ≤ maxLen) := hsz
  have HD : Hid (∀ i j, i < j → j < fs.length → (fs.getD i default).1.data.toList ≠ (fs.getD j default).1.data.toList) := hd
  have HN : Hid (n = fs.length) := hn
  have hnl : n ≤ fs.length := by omega
  have hnl2 : fs.length ≤ n := by omega
  clear hA hsz hd hn
  go_enter Try.func8, Try.ntmps8
  go_wp2_with fail
  go_loopw [18] (fun i w' => ∃ k : Nat, k ≤ n ∧ i = .int .i64 k ∧ w'.ownsMap Try.prog 9 (plainElem (H := Unit) Try.prog 3) w.heap.size k (mp fs k) ∧ Below w.heap.size w w' ∧ Hid (∀ j, j < k → Tidy (mp fs j))) (fun i _ => n - (intOf i).toNat)
  case atStart => exact ⟨0, by omega, rfl, World.ownsMap_made _ _ _ _, (Below.refl _ _).alloc (Nat.le_refl _) _, fun j hj => by omega⟩
  case round =>
    obtain ⟨k, hk, rfl, hown, hbl, HTD⟩ := hrel
    by_cases hlt : k < n
    · have hkz : k < fs.length := by omega
      have HA' : FilesAt wr F fo fs := HA.out.below hF hbl
      have r0 := HA'.p k hkz
      have r1 := HA'.t k hkz
      have hps := HSZ.out k hkz
      have HM : Hid (mp fs (k + 1) = (mp fs k).put (ky (fs.getD k default).1) (.lit (.int .i64 k))) := rfl
      have HTD' : Hid (∀ j, j < k + 1 → Tidy (mp fs j)) := fun j hj => by
        rcases Nat.lt_or_ge j k with h | h
        · exact HTD.out j h
        · obtain rfl : j = k := by omega
          exact own_tidy hown
      generalize fs.getD k default = x at *
      obtain ⟨p, t⟩ := x
      simp only at r0 r1 hps
      have hkey := Go.WideMaps.keyOf_string_mk (P := Try.prog) (s := p) Try.underlying9 hps
      have HO : Hid (wr.ownsMap Try.prog 9 (plainElem (H := Unit) Try.prog 3) w.heap.size k (mp fs k)) := hown
      have HB : Hid (Below w.heap.size w wr) := hbl
      have hz := hbl.size
      clear hown hbl HA' HTD
      go_wp2_with (at_mapUpdate; refine wpList_mapUpdate_own _ rfl _ _ _ 44 rfl 9 3 law9 Try.underlying44 (plainElem (H := Unit) Try.prog 3) w.heap.size k _ rfl (HO.out.alloc _) (by unfold maxLen; omega) _ _ _ rfl rfl hkey _ [] (plainElem_int Try.underlying3 (wf_i64_nat k (by omega))) ?_; intro w1 hown1 hgrow1)
      go_roundw
      case rel => exact ⟨k + 1, by omega, by go_num, by rw [HM.out]; exact hown1, (HB.out.alloc hz _).grown hgrow1 (by simp; omega) (fun j hj => by cases hj; exact Nat.le_refl _), HTD'⟩
      case measure => simp [intOf]; omega
    · obtain rfl : k = n := by omega
      have hmsz : Maps.size (mp fs k) = k := mp_size fs k HTD.out fun i j hi hj => HD.out i j hi (by omega)
      have HO : Hid (wr.ownsMap Try.prog 9 (plainElem (H := Unit) Try.prog 3) w.heap.size k (mp fs k)) := hown
      have HB : Hid (Below w.heap.size w wr) := hbl
      have hz := hbl.size
      have HA' : FilesAt wr F fo fs := HA.out.below hF hbl
      have h14 := cloneF_any F fo k fc (flatF fs) wr (by rw [flatF_len, ← HN.out]) (by unfold maxLen; omega) (by omega) (flatF_cells HA') (flatF_one fs)
      clear hown hbl HA' HTD
      go_wp2_with fail
      refine (sorted0_any _).mono ?_
      rintro e w1 ⟨rfl, rfl⟩
      go_wp2_with (at_len; refine wpList_len_own _ rfl _ 44 rfl 9 3 Try.underlying44 _ w.heap.size k _ rfl HO.out ?_; rw [hmsz])
      refine h14.mono ?_
      rintro e w2 ⟨v, rfl, hown2, hnn, hb2⟩
      clear h14
      have hfin : Below w.heap.size w w2 := HB.out.trans (hb2.mono hz)
      have HR : Hid (w2.ownsRow w.heap.size 32 2 v k (flatF fs)) := hown2.mono hz
      clear hown2 hnn hb2
      go_wp2_with fail
      refine wp_loop_rounds 1 ?_
      rw [rounds_succ]
      go_wp2
      go_ret2
      exact ⟨v, rfl, HR.out, hfin⟩
theorem ofOne1 (x : Ed) : ofOne [x] = 1 := by
  simp [ofOne, Lib.idxBy, Lib.idxByFrom, othP]
theorem atK1 {D : DataW Unit} {p : ByteArray} {c : Int} (h0 : D.atKey (ky p) (.lit (.int .i64 0)) = .lit (.int .i64 0)) (h : D.atKey (.string p.data.toList) (.lit (.int .i64 0)) = .lit (.int .i64 c)) : c = 0 := by
  unfold ky at h0
  rw [h0] at h
  simpa using h.symm
set_option maxRecDepth 100000 in
set_option maxHeartbeats 4000000 in
theorem apply1f_any (F fo fc n E ec : Nat) (fs : List Fi) (p s t : ByteArray) (a b : Int) (w : World) (hF : F < w.heap.size) (hE : E < w.heap.size) (hn : n = fs.length) (h0n : 0 < n) (hn1 : n ≤ 1000000) (hA : FilesAt w F fo fs) (hsz : ∀ j, j < fs.length → (fs.getD j default).1.size ≤ maxLen)
    (hd : ∀ i j, i < j → j < fs.length → (fs.getD i default).1.data.toList ≠ (fs.getD j default).1.data.toList) (hp0 : fs.getD 0 default = (p, s)) (hss : s.size ≤ maxLen)
    (hc : ∀ i v, (encE (p, a, b, t))[i]? = some v → w.cell? ⟨E, i, none⟩ = some v) (hx : noSp a b = false) (hok : okE s 0 [(p, a, b, t)])
    (hlen : (Lib.join ((pcs s 0 [(p, a, b, t)] ++ [s.extract (lastTo 0 [(p, a, b, t)]) s.size]).map (·.data.toList)) []).length ≤ 140737488355328) :
    Calls Try.prog 8 #[.slice (some ⟨F, fo, none⟩) n fc, .slice (some ⟨E, 0, none⟩) 1 ec] w fun e w' => ∃ g cap, e = .returned (.tuple #[.slice (some ⟨g, 0, none⟩) n cap, .int .i64 0]) ∧ Below w.heap.size w w' ∧ w'.cell? ⟨g, 0, none⟩ = some (.string p) ∧ w'.cell? ⟨g, 1, none⟩ = some (.string ⟨(Lib.join ((pcs s 0 [(p, a, b, t)] ++ [s.extract (lastTo 0 [(p, a, b, t)]) s.size]).map (·.data.toList)) []).toArray⟩) ∧ ∀ j, 2 ≤ j → j < n * 2 → w'.cell? ⟨g, j, none⟩ = (flatF fs)[j]? := by
  have hmm := @run_makeMap Try.prog
  have HA : Hid (FilesAt w F fo fs) := hA
  have HSZ : Hid (∀ j, j < fs.length → (fs.getD j default).1.size ≤ maxLen) := hsz
  have HD : Hid (∀ i j, i < j → j < fs.length → (fs.getD i default).1.data.toList ≠ (fs.getD j default).1.data.toList) := hd
  have HN : Hid (n = fs.length) := hn
  have hnl : n ≤ fs.length := by omega
  have hnl2 : fs.length ≤ n := by omega
  have HX : Hid ((∀ i v, (encE (p, a, b, t))[i]? = some v → w.cell? ⟨E, i, none⟩ = some v) ∧ noSp a b = false ∧ okE s 0 [(p, a, b, t)] ∧ (Lib.join ((pcs s 0 [(p, a, b, t)] ++ [s.extract (lastTo 0 [(p, a, b, t)]) s.size]).map (·.data.toList)) []).length ≤ 140737488355328 ∧ fs.getD 0 default = (p, s)) := ⟨hc, hx, hok, hlen, hp0⟩
  clear hA hsz hd hn hc hx hok hlen hp0
  go_enter Try.func8, Try.ntmps8
  go_wp2_with fail
  go_loopw [18] (fun i w' => ∃ k : Nat, k ≤ n ∧ i = .int .i64 k ∧ w'.ownsMap Try.prog 9 (plainElem (H := Unit) Try.prog 3) w.heap.size k (mp fs k) ∧ Below w.heap.size w w' ∧ Hid (∀ j, j < k → Tidy (mp fs j))) (fun i _ => n - (intOf i).toNat)
  case atStart => exact ⟨0, by omega, rfl, World.ownsMap_made _ _ _ _, (Below.refl _ _).alloc (Nat.le_refl _) _, fun j hj => by omega⟩
  case round =>
    obtain ⟨k, hk, rfl, hown, hbl, HTD⟩ := hrel
    by_cases hlt : k < n
    · have hkz : k < fs.length := by omega
      have HA' : FilesAt wr F fo fs := HA.out.below hF hbl
      have r0 := HA'.p k hkz
      have r1 := HA'.t k hkz
      have hps := HSZ.out k hkz
      have HM : Hid (mp fs (k + 1) = (mp fs k).put (ky (fs.getD k default).1) (.lit (.int .i64 k))) := rfl
      have HTD' : Hid (∀ j, j < k + 1 → Tidy (mp fs j)) := fun j hj => by
        rcases Nat.lt_or_ge j k with h | h
        · exact HTD.out j h
        · obtain rfl : j = k := by omega
          exact own_tidy hown
      generalize fs.getD k default = x at *
      obtain ⟨p, t⟩ := x
      simp only at r0 r1 hps
      have hkey := Go.WideMaps.keyOf_string_mk (P := Try.prog) (s := p) Try.underlying9 hps
      have HO : Hid (wr.ownsMap Try.prog 9 (plainElem (H := Unit) Try.prog 3) w.heap.size k (mp fs k)) := hown
      have HB : Hid (Below w.heap.size w wr) := hbl
      have hz := hbl.size
      clear hown hbl HA' HTD
      go_wp2_with (at_mapUpdate; refine wpList_mapUpdate_own _ rfl _ _ _ 44 rfl 9 3 law9 Try.underlying44 (plainElem (H := Unit) Try.prog 3) w.heap.size k _ rfl (HO.out.alloc _) (by unfold maxLen; omega) _ _ _ rfl rfl hkey _ [] (plainElem_int Try.underlying3 (wf_i64_nat k (by omega))) ?_; intro w1 hown1 hgrow1)
      go_roundw
      case rel => exact ⟨k + 1, by omega, by go_num, by rw [HM.out]; exact hown1, (HB.out.alloc hz _).grown hgrow1 (by simp; omega) (fun j hj => by cases hj; exact Nat.le_refl _), HTD'⟩
      case measure => simp [intOf]; omega
    · obtain rfl : k = n := by omega
      have hmsz : Maps.size (mp fs k) = k := mp_size fs k HTD.out fun i j hi hj => HD.out i j hi (by omega)
      obtain ⟨k', hk'⟩ : ∃ k', k = k' + 1 := ⟨k - 1, by omega⟩
      have hmf := mp_first fs k' fun j hj0 hj => (HD.out 0 j hj0 (by omega)).symm
      rw [← hk', HX.out.2.2.2.2] at hmf
      have HO : Hid (wr.ownsMap Try.prog 9 (plainElem (H := Unit) Try.prog 3) w.heap.size k (mp fs k)) := hown
      have hb1 : Below w.heap.size w wr := hbl
      have hz := hbl.size
      have h1z : w.heap.size < wr.heap.size := hown.lt
      have HA1 : FilesAt wr F fo fs := HA.out.below hF hbl
      have h10 := sorted1_any E ec (p, a, b, t) wr (by omega) (fun i v hi => (hb1.cell (p := ⟨E, i, none⟩) hE).trans (HX.out.1 i v hi)) HX.out.2.1
      have hkey := Go.WideMaps.keyOf_string_mk (P := Try.prog) (s := p) Try.underlying9 (by have := HSZ.out 0 (by omega); rw [HX.out.2.2.2.2] at this; exact this)
      have HMF : Hid ((mp fs k).atKey (ky p) (.lit (.int .i64 0)) = .lit (.int .i64 0) ∧ Maps.has (mp fs k) (ky p) = true) := hmf
      clear hown hbl HTD hmf hk'
      go_wp2_with fail
      refine h10.mono ?_
      rintro e w2 ⟨g, cap, rfl, hgz, hcap, hown2, hb2⟩
      clear h10
      have HM2 : Hid (w2.ownsMap Try.prog 9 (plainElem (H := Unit) Try.prog 3) w.heap.size k (mp fs k)) := ownsMap_below HO.out hb2
      have HO2 : Hid (w2.ownsRow wr.heap.size 26 4 (.slice (some ⟨g, 0, none⟩) 1 cap) 1 (encE (p, a, b, t))) := hown2
      have hg2 : g < w2.heap.size := (hown2.lt g rfl).2
      have hs2 := hb2.size
      have HA2 : FilesAt w2 F fo fs := HA1.below (by omega) hb2
      have h14 := cloneF_any F fo k fc (flatF fs) w2 (by rw [flatF_len, ← HN.out]) (by unfold maxLen; omega) (by omega) (flatF_cells HA2) (flatF_one fs)
      clear hown2 HA1
      go_wp2_with (at_len; refine wpList_len_own _ rfl _ 44 rfl 9 3 Try.underlying44 _ w.heap.size k _ rfl HM2.out ?_; rw [hmsz])
      refine h14.mono ?_
      rintro e w3 ⟨v3, rfl, hown3, hnn, hb3⟩
      clear h14
      obtain ⟨G, Gc, hv, hG1, hG2⟩ := hown3.form h0n
      rw [hv] at hown3
      rw [hv]
      clear hv hnn
      have hs3 := hb3.size
      have HM3 : Hid (w3.ownsMap Try.prog 9 (plainElem (H := Unit) Try.prog 3) w.heap.size k (mp fs k)) := ownsMap_below HM2.out hb3
      have HO3 : Hid (w3.ownsRow wr.heap.size 26 4 (.slice (some ⟨g, 0, none⟩) 1 cap) 1 (encE (p, a, b, t))) := ownsRow_below HO2.out hb3 hg2
      have HG3 : Hid (w3.ownsRow w2.heap.size 32 2 (.slice (some ⟨G, 0, none⟩) k Gc) k (flatF fs)) := hown3
      have HA3 : FilesAt w3 F fo fs := HA2.below (by omega) hb3
      have h15 := ofOnePath_any g 1 cap [(p, a, b, t)] w3 rfl (by omega) (by omega) (Nat.lt_of_lt_of_le hg2 hs3) (cells1 fun i v hi => by rw [HO3.out.cellAt i (by have := (List.getElem?_eq_some_iff.1 hi).1; simp [encE] at this; omega)]; exact hi)
      rw [ofOne1] at h15
      clear hown3 HM2 HO2 HA2
      go_wp2_with fail
      refine wp_loop_rounds 2 ?_
      rw [rounds_succ]
      go_wp2_with fail
      refine h15.mono ?_
      rintro e w4 ⟨rfl, hb4⟩
      clear h15
      have hs4 := hb4.size
      have HM4 : Hid (w4.ownsMap Try.prog 9 (plainElem (H := Unit) Try.prog 3) w.heap.size k (mp fs k)) := ownsMap_below HM3.out hb4
      have HO4 : Hid (w4.ownsRow wr.heap.size 26 4 (.slice (some ⟨g, 0, none⟩) 1 cap) 1 (encE (p, a, b, t))) := ownsRow_below HO3.out hb4 (Nat.lt_of_lt_of_le hg2 hs3)
      have HG4 : Hid (w4.ownsRow w2.heap.size 32 2 (.slice (some ⟨G, 0, none⟩) k Gc) k (flatF fs)) := ownsRow_below HG3.out hb4 hG2
      have HA4 : FilesAt w4 F fo fs := HA3.below (by omega) hb4
      have f1 := HA4.t 0 (by omega)
      rw [HX.out.2.2.2.2] at f1
      simp only [Nat.zero_mul, Nat.add_zero] at f1
      have c0 : w4.cell? ⟨g, 0, none⟩ = some (.string p) := by rw [HO4.out.cellAt 0 (by omega)]; rfl
      have c1 : w4.cell? ⟨g, 1, none⟩ = some (.int .i64 a) := by rw [HO4.out.cellAt 1 (by omega)]; rfl
      have c2 : w4.cell? ⟨g, 2, none⟩ = some (.int .i64 b) := by rw [HO4.out.cellAt 2 (by omega)]; rfl
      have c3 : w4.cell? ⟨g, 3, none⟩ = some (.string t) := by rw [HO4.out.cellAt 3 (by omega)]; rfl
      clear HM3 HO3 HG3 HA3
      have hhas := HMF.out.2
      unfold ky at hhas
      go_wp2_with (first | (at_lookup; refine wpList_lookup_own_ok_int _ rfl _ _ 44 rfl 9 3 .i64 law9 Try.underlying44 Try.underlying3 (zero3 _) w.heap.size k _ rfl HM4.out _ _ rfl hkey ?_; intro c hat hwc; have hc0 : c = 0 := (atK1 HMF.out.1 hat); subst hc0) | fail)
      have hok := HX.out.2.2.1
      have hbs : b ≤ (s.size : Int) := hok.2.2.1
      have hbs' : ¬ (s.size : Int) < b := by omega
      clear hok
      have hg4 : g < w4.heap.size := Nat.lt_of_lt_of_le (Nat.lt_of_lt_of_le hg2 hs3) hs4
      have hG4 : G < w4.heap.size := Nat.lt_of_lt_of_le hG2 hs4
      have hF4 : F < w4.heap.size := by omega
      have h16 := fun (W : World) (e1 : ∀ o, W.cell? ⟨g, o, none⟩ = w4.cell? ⟨g, o, none⟩) (e2 : W.heap.size = w4.heap.size) =>
        replaced_any s g cap 1 [(p, a, b, t)] W rfl (by omega) hss (by simp) (fun j hj => by
          obtain rfl : j = 0 := by simp at hj; omega
          exact ⟨(e1 _).trans c0, (e1 _).trans c1, (e1 _).trans c2, (e1 _).trans c3⟩) HX.out.2.2.1 HX.out.2.2.2.1
      generalize hR : (Lib.join ((pcs s 0 [(p, a, b, t)] ++ [s.extract (lastTo 0 [(p, a, b, t)]) s.size]).map (·.data.toList)) []).toArray = R at h16 ⊢
      have HR : Hid ((Lib.join ((pcs s 0 [(p, a, b, t)] ++ [s.extract (lastTo 0 [(p, a, b, t)]) s.size]).map (·.data.toList)) []).toArray = R) := hR
      clear hR
      have hgg := flatF_get fs 0 (by omega)
      rw [HX.out.2.2.2.2] at hgg
      have kG0 : w4.cell? ⟨G, 0, none⟩ = some (.string p) := by rw [HG4.out.cellAt 0 (by omega)]; exact hgg.1
      have kG1 : w4.cell? ⟨G, 1, none⟩ = some (.string s) := by rw [HG4.out.cellAt 1 (by omega)]; exact hgg.2
      have KG : Hid (∀ j, j < k * 2 → w4.cell? ⟨G, j, none⟩ = (flatF fs)[j]?) := fun j hj => HG4.out.cellAt j hj
      have kF1 : w4.frozen? ⟨G, 1, none⟩ = false := HG4.out.frozenAt 1
      clear hgg
      have z1 : (1 : Int) ≤ (cap : Int) := by omega
      have z2 : (0 : Int) < (k : Int) := by omega
      have hGF : G ≠ F := by omega
      have hw0 : IntKind.i64.wrap 0 = 0 := by decide
      have HBW : Hid (Below w.heap.size w w4) := ((hb1.trans (hb2.mono (by omega))).trans (hb3.mono (by omega))).trans (hb4.mono (by omega))
      go_quiet (fail)
      go_wp2_with fail
      go_region_held3 (fun w' => w'.cell? ⟨F, fo + 1, none⟩ = some (.string s))
        (first | go_keep | (rw [World.cell?_setCell_other _ _ _ _ (by intro h; cases h; exact hGF rfl)]; exact j1))
        ((go_at_call 16; refine (h16 _ (by intro o; simp) (by simp)).mono ?_; rintro e w5 ⟨rfl, hb5⟩; have j0 := (hb5.cell (p := ⟨G, 0, none⟩) (by simpa using hG4)).trans ((by simp : World.cell? _ _ = _).trans kG0); have j1 := (hb5.cell (p := ⟨F, fo + 1, none⟩) (by simpa using hF4)).trans ((by simp : World.cell? _ _ = _).trans f1); have j2 := (hb5.cell (p := ⟨G, 1, none⟩) (by simpa using hG4)).trans ((by simp : World.cell? _ _ = _).trans kG1); have j3 := (hb5.frozen (p := ⟨G, 1, none⟩) (by simpa using hG4)).trans ((by simp : World.frozen? _ _ = _).trans kF1)))
      all_goals
        go_wp2_with fail
        all_goals
          rw [rounds_succ]
          go_wp2_with fail
          go_ret2
          have hb5' : Below w.heap.size w w5 := by first | exact (below_drewN HBW.out _).trans (hb5.mono (by simp; omega)) | exact (below_drewN HBW.out _).drew.trans (hb5.mono (by simp; omega))
          refine ⟨G, Gc, rfl, hb5'.setCell (by simp; omega) _, ?_, ?_, fun j hj1 hj2 => ?_⟩
          · rw [World.cell?_setCell_other _ _ _ _ (by intro h; cases h)]; exact j0
          · rw [HR.out]
            exact World.cell?_setCell_same _ _ _ j2
          · rw [World.cell?_setCell_other _ _ _ _ (by intro h; cases h; omega), hb5.cell (p := ⟨G, j, none⟩) (by simpa using hG4)]
            have := KG.out j hj2
            simpa using this
end Go.Proofs.Ytbgkdofjndocfab
