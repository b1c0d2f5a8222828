/-
  spans.Sorted of any edits.
-/
import Derived.Test.YtbgkdofjndocfaaCompact
namespace Go.Proofs.Ytbgkdofjndocfaa
open Go.RowKit Go.Sort Go.Shelf
attribute [local go_sem ↓] Go.wp_at_zero Go.wp_at_succ
def flatE (l : List Ed) : List Value := l.flatMap encE
theorem flatE_len (l : List Ed) : (flatE l).length = l.length * 4 := by
  induction l with
  | nil => rfl
  | cons a l ih => simp [flatE, encE] at *; omega
theorem flatE_one (l : List Ed) : ∀ u ∈ flatE l, u.oneCell' = true := by
  intro u hu
  simp only [flatE, List.mem_flatMap] at hu
  obtain ⟨x, _, hx⟩ := hu
  exact encE_one x u hx
theorem flatE_get : ∀ (l : List Ed) (j i : Nat), j < l.length → i < 4 → (flatE l)[j * 4 + i]? = (encE (l.getD j default))[i]?
  | [], j, _, h, _ => by simp at h
  | a :: l, 0, i, _, hi => by
    have e : flatE (a :: l) = encE a ++ flatE l := rfl
    rw [e, Nat.zero_mul, Nat.zero_add, List.getElem?_append_left (by simpa [encE] using hi)]
    rfl
  | a :: l, j + 1, i, h, hi => by
    have ih := flatE_get l j i (by simpa using h) hi
    have e : flatE (a :: l) = encE a ++ flatE l := rfl
    rw [e, List.getElem?_append_right (by simp [encE]; omega), show (j + 1) * 4 + i - (encE a).length = j * 4 + i by simp [encE]; omega, ih]
    rfl
/-- The edits l lie from place o of block B on. -/
def EdsAt (w : World) (B o : Nat) (l : List Ed) : Prop := ∀ j u, (flatE l)[j]? = some u → w.cell? ⟨B, o + j, none⟩ = some u
theorem EdsAt.below {w w' : World} {B o : Nat} {l : List Ed} (h : EdsAt w B o l) (hB : 0 < l.length → B < w.heap.size) (hb : Go.RowKit.Below w.heap.size w w') : EdsAt w' B o l := fun j u hu => (hb.cell (p := ⟨B, o + j, none⟩) (hB (by have := (List.getElem?_eq_some_iff.1 hu).1; rw [flatE_len] at this; omega))).trans (h j u hu)
set_option maxHeartbeats 1000000 in
theorem contains_zero (a : Option Addr) (c : Nat) (w : World) (f : Value) : Calls Try.prog 21 #[.slice a 0 c, f] w fun e w' => e = .returned (.bool false) ∧ w' = w := by
  go_enter Try.func21, Try.ntmps21
  go_wp2
  refine wp_loop_rounds 1 ?_
  rw [rounds_succ]
  go_wp2
  go_ret
  exact ⟨rfl, rfl⟩
theorem contains_all (b off n c : Nat) (zs : List Ed) (w : World) (hz : n ≤ zs.length) (hbig : n ≤ 9223372036854775807) (hb : 0 < n → b < w.heap.size)
    (hc : ∀ j, j < zs.length → ∀ i v, (encE zs[j]!)[i]? = some v → w.cell? ⟨b, off + j * 4 + i, none⟩ = some v) :
    Calls Try.prog 21 #[.slice (some ⟨b, off, none⟩) n c, .func (.func 22) #[] #[]] w fun e w' => e = .returned (.bool ((zs.take n).any fun x => noSp x.2.1 x.2.2.1)) ∧ Go.RowKit.Below w.heap.size w w' := by
  rcases Nat.eq_zero_or_pos n with rfl | h0
  · refine (contains_zero _ _ w _).mono ?_
    rintro e w' ⟨rfl, rfl⟩
    exact ⟨rfl, Go.RowKit.Below.refl _ _⟩
  · exact contains_any b off n c zs w hz hbig (hb h0) hc
theorem EdsAt.each {w : World} {B o : Nat} {l : List Ed} (h : EdsAt w B o l) : ∀ j, j < l.length → ∀ i v, (encE l[j]!)[i]? = some v → w.cell? ⟨B, o + j * 4 + i, none⟩ = some v := by
  intro j hj i v hv
  have hi : i < 4 := by have := (List.getElem?_eq_some_iff.1 hv).1; simpa [encE] using this
  have := h (j * 4 + i) v (by rw [flatE_get l j i hj hi]; simpa [List.getD_eq_getElem?_getD, hj] using hv)
  rw [Nat.add_assoc]
  exact this
theorem edAt_of {w : World} {B : Nat} {l : List Ed} (h : EdsAt w B 0 l) (j : Nat) (hj : j < l.length) : EdAt w B j (l.getD j default) := by
  have g := fun i (hi : i < 4) => flatE_get l j i hj hi
  refine ⟨?_, ?_, ?_, ?_⟩
  · have := h (j * 4) _ (by rw [← Nat.add_zero (j * 4), g 0 (by omega)]; rfl); simpa using this
  · have := h (j * 4 + 1) _ (by rw [g 1 (by omega)]; rfl); simpa using this
  · have := h (j * 4 + 2) _ (by rw [g 2 (by omega)]; rfl); simpa using this
  · have := h (j * 4 + 3) _ (by rw [g 3 (by omega)]; rfl); simpa using this
theorem flatK_get (d : Array Ed) (j i : Nat) (hj : j < d.size) (hi : i < 4) : (flatK encE 4 d)[j * 4 + i]! = (encE (d.toList.getD j default))[i]! := by
  rw [get_flatK _ _ _ _ (by omega), show (j * 4 + i) / 4 = j by omega, show (j * 4 + i) % 4 = i by omega]
  simp [List.getD_eq_getElem?_getD, hj]
theorem edAt_holds {w : World} {B : Nat} {d : Array Ed} (h : HoldsK encE 4 w B 0 d) (j : Nat) (hj : j < d.size) : EdAt w B j (d.toList.getD j default) := by
  have hz : (flatK encE 4 d).size = d.size * 4 := by simp
  have g := fun i (hi : i < 4) => (h (j * 4 + i) (by rw [hz]; omega)).1
  refine ⟨?_, ?_, ?_, ?_⟩
  · have := g 0 (by omega); rw [flatK_get d j 0 hj (by omega)] at this; simpa [encE] using this
  · have := g 1 (by omega); rw [flatK_get d j 1 hj (by omega)] at this; simpa [encE] using this
  · have := g 2 (by omega); rw [flatK_get d j 2 hj (by omega)] at this; simpa [encE] using this
  · have := g 3 (by omega); rw [flatK_get d j 3 hj (by omega)] at this; simpa [encE] using this
theorem holds_own {w : World} {base g cap n : Nat} {l : List Ed} (h : w.ownsRow base 33 4 (.slice (some ⟨g, 0, none⟩) n cap) n (flatE l)) (hn : n = l.length) : HoldsK encE 4 w g 0 l.toArray := by
  intro j hj
  have hj4 : j < l.length * 4 := by simpa using hj
  refine ⟨?_, by rw [Nat.zero_add]; exact h.frozenAt j⟩
  rw [Nat.zero_add, h.cellAt j (by omega)]
  have e := flatE_get l (j / 4) (j % 4) (by omega) (Nat.mod_lt _ (by omega))
  rw [show j / 4 * 4 + j % 4 = j by omega] at e
  rw [e, get_flatK _ _ _ _ (by simpa using hj4)]
  have hl : j / 4 < l.length := by omega
  have hm : j % 4 < (encE l[j / 4]).length := Nat.mod_lt _ (by omega)
  simp [List.getD_eq_getElem?_getD, hl, hm]
theorem sortE_any (blk cap : Nat) (d : Array Ed) (w : World) (hH : HoldsK encE 4 w blk 0 d) (hblk : blk < w.heap.size) (hs : d.size ≤ 2932031007402) :
    Calls Try.prog 24 #[.slice (some ⟨blk, 0, none⟩) d.size cap, .func (.func 25) #[] #[]] w fun e w' => e = .returned (.tuple #[]) ∧ ∃ d' : Array Ed, d'.toList.Perm d.toList ∧ (∀ i j, i < j → j < d'.toList.length → ¬ KL (d'.toList.getD j default) (d'.toList.getD i default)) ∧ HoldsK encE 4 w' blk 0 d' ∧ w.grownBy w' (some blk) := by
  refine (AnyQ.slices_SortFunc Try.sortEd 4 Try.isAgg33 Try.sizeOf33 encE encE_len encE_one cfE swoE 25 #[] blk 0 cap d w eg25 (cmpLaysE blk 0 d.size w) hH hblk (by omega)).mono ?_
  rintro e w' ⟨rfl, d', n, os, hp, hso, rfl⟩
  have hsz : d'.size = d.size := hp.1
  refine ⟨rfl, d', ?_, fun i j hij hj => ?_, holdsK_sortWorldK encE 4 w blk 0 n d d' os hblk hH hsz, ?_⟩
  · have := hp.2.2
    rw [show d'.extract 0 d.size = d' by rw [← hsz]; exact Array.extract_size, show d.extract 0 d.size = d from Array.extract_size] at this
    exact this
  · have hj' : j < d'.size := by simpa using hj
    have h := hso i j (by omega) hij (by omega)
    intro hk
    have := of_decide_eq_false h
    apply this
    rw [cfE_lt]
    simpa [List.getD_eq_getElem?_getD, hj', (by omega : i < d'.size)] using hk
  · unfold sortWorldK
    refine ⟨rfl, rfl, rfl, ?_, fun k hk hne => ?_⟩
    · simp [grow, putRowK, putRow, mapBlock, Sort.ahead]
    · have hk' : k ≠ blk := fun e => hne (by rw [e])
      simp [grow, putRowK, putRow, mapBlock, Sort.ahead, Array.getElem?_append, hk]
      rw [Array.getElem_modify, if_neg (Ne.symm hk')]
theorem compact_small (a : Option Addr) (c n : Nat) (w : World) (hn : n < 2) : Calls Try.prog 26 #[.slice a n c] w fun e w' => e = .returned (.slice a n c) ∧ w' = w := by
  go_enter Try.func26, Try.ntmps26
  go_wp2
  go_ret
  exact ⟨rfl, rfl⟩
theorem cm_small (d : List Ed) (h : d.length < 2) : cm d d.length = d := by
  match d, h with
  | [], _ => rfl
  | [x], _ => simp [cm]
/-- A row of edits in memory of one's own. -/
structure EdRow (w : World) (base g : Nat) (out : List Ed) : Prop where
  lo : base ≤ g
  hi : g < w.heap.size
  eds : ∀ j, j < out.length → EdAt w g j (out.getD j default)
  fz : ∀ o, o < out.length * 4 → w.frozen? ⟨g, o, none⟩ = false
theorem cells_of_ed {w : World} {B : Nat} {l : List Ed} (h : ∀ j, j < l.length → EdAt w B j (l.getD j default)) : EdsAt w B 0 l := by
  intro j u hu
  have hj : j < l.length * 4 := by rw [← flatE_len]; exact (List.getElem?_eq_some_iff.1 hu).1
  obtain ⟨h0, h1, h2, h3⟩ := h (j / 4) (by omega)
  have e := flatE_get l (j / 4) (j % 4) (by omega) (Nat.mod_lt _ (by omega))
  rw [show j / 4 * 4 + j % 4 = j by omega, hu] at e
  rw [Nat.zero_add]
  rcases (by omega : j % 4 = 0 ∨ j % 4 = 1 ∨ j % 4 = 2 ∨ j % 4 = 3) with hm | hm | hm | hm <;> rw [hm] at e <;> simp [encE] at e <;> subst e
  · rw [show j = j / 4 * 4 by omega]; simpa using h0
  · rw [show j = j / 4 * 4 + 1 by omega]; simpa [show (j / 4 * 4 + 1) / 4 = j / 4 by omega] using h1
  · rw [show j = j / 4 * 4 + 2 by omega]; simpa [show (j / 4 * 4 + 2) / 4 = j / 4 by omega] using h2
  · rw [show j = j / 4 * 4 + 3 by omega]; simpa [show (j / 4 * 4 + 3) / 4 = j / 4 by omega] using h3
theorem compactE_any (B c n : Nat) (d : List Ed) (w : World) (hn : n = d.length) (hc : n ≤ c) (hn1 : n ≤ 2932031007402) (hd : ∀ j, j < n → EdAt w B j (d.getD j default)) (hfz : ∀ o, o < n * 4 → w.frozen? ⟨B, o, none⟩ = false) :
    Calls Try.prog 26 #[.slice (some ⟨B, 0, none⟩) n c] w fun e w' => ∃ m, e = .returned (.slice (some ⟨B, 0, none⟩) m c) ∧ CmPost w w' B d m := by
  by_cases h2 : 2 ≤ n
  · exact compact_any B c n d w hn h2 hc hn1 hd hfz
  · refine (compact_small _ c n w (by omega)).mono ?_
    rintro e w' ⟨rfl, rfl⟩
    have e := cm_small d (by omega)
    exact ⟨n, rfl, by rw [e]; exact hn.symm, fun j hj => by rw [e]; exact hd j hj, fun o ho => hfz o (by omega), ⟨rfl, rfl, rfl, Nat.le_refl _, fun _ _ _ => rfl⟩, rfl⟩
def SortedPost (l : List Ed) (w : World) (e : Ending) (w' : World) : Prop :=
  Below w.heap.size w w' ∧ ((∃ g cap out, Srt l out ∧ e = .returned (.tuple #[.slice (some ⟨g, 0, none⟩) out.length cap, .int .i64 0]) ∧ out.length ≤ cap ∧ EdRow w' w.heap.size g out) ∨ (¬ Good l ∧ e = .returned (.tuple #[.slice none 0 0, .int .i64 1])))
theorem adjOk_step {c : List Ed} {k : Nat} (h1 : 1 ≤ k) (h : adjOk c k) (hc : clashB (c.getD (k - 1) default).1 (c.getD (k - 1) default).2.1 (c.getD (k - 1) default).2.2.1 (c.getD k default).1 (c.getD k default).2.1 = false) : adjOk c (k + 1) := by
  intro i hi
  rcases Nat.lt_or_ge (i + 1) k with h2 | h2
  · exact h i h2
  · obtain rfl : i = k - 1 := by omega
    rw [Nat.sub_add_cancel h1]
    exact hc
theorem EdAt.below {w w' : World} {B j : Nat} {x : Ed} (h : EdAt w B j x) (hB : B < w.heap.size) (hb : Below w.heap.size w w') : EdAt w' B j x :=
  ⟨(hb.cell (p := ⟨B, _, none⟩) hB).trans h.1, (hb.cell (p := ⟨B, _, none⟩) hB).trans h.2.1, (hb.cell (p := ⟨B, _, none⟩) hB).trans h.2.2.1, (hb.cell (p := ⟨B, _, none⟩) hB).trans h.2.2.2⟩
theorem cell2_old {w : World} {A B : Obj} {g o : Nat} (h : g < w.heap.size) : ((w.alloc A).alloc B).drew.cell? ⟨g, o, none⟩ = w.cell? ⟨g, o, none⟩ := by
  rw [World.cell?_drew, World.cell?_alloc_lt _ _ _ (by simp; omega), World.cell?_alloc_lt _ _ _ h]
theorem notGood_any {l : List Ed} {n : Nat} (h : (l.take n).any (fun x => noSp x.2.1 x.2.2.1) = true) : ¬ Good l := by
  intro hg
  rw [List.any_eq_true] at h
  obtain ⟨x, hx, h⟩ := h
  have := (noSp_ok x).2 (hg.1 x (List.mem_of_mem_take hx))
  rw [this] at h; cases h
theorem okAll {l : List Ed} {n : Nat} (hn : n = l.length) (h : (l.take n).any (fun x => noSp x.2.1 x.2.2.1) = false) : ∀ x ∈ l, okSp x := by
  intro x hx
  rw [List.any_eq_false] at h
  have := h x (by rw [hn, List.take_length]; exact hx)
  exact (noSp_ok x).1 (by simpa using this)
set_option maxRecDepth 100000 in
set_option maxHeartbeats 1000000 in
theorem sorted_any (B o c n : Nat) (l : List Ed) (w : World) (hn : n = l.length) (hn1 : n ≤ 2932031007402) (hB : 0 < l.length → B < w.heap.size) (hl : EdsAt w B o l) :
    Calls Try.prog 10 #[.slice (some ⟨B, o, none⟩) n c] w fun e w' => SortedPost l w e w' := by
  have h21 := contains_all B o n c l w (by omega) (by omega) (fun h => hB (by omega)) hl.each
  have HL : Hid (EdsAt w B o l) := hl
  have HN : Hid (n = l.length) := hn
  have hnl : l.length ≤ 2932031007402 := by omega
  clear hl hn
  cases hany : (l.take n).any (fun x => noSp x.2.1 x.2.2.1)
  · rw [hany] at h21
    have HOK : Hid (∀ x ∈ l, okSp x) := okAll HN.out hany
    clear hany
    go_enter Try.func10, Try.ntmps10
    go_wp2_with fail
    refine h21.mono ?_
    rintro e w1 ⟨rfl, hb1⟩
    clear h21
    have h23 := cloneE_any B o n c (flatE l) w1 (by rw [flatE_len, HN.out]) (by unfold maxLen; omega) (by omega) (HL.out.below hB hb1) (flatE_one l)
    go_wp2_with fail
    refine h23.mono ?_
    rintro e w2 ⟨v2, rfl, hown, hnn, hb2⟩
    clear h23
    obtain ⟨g, cap, rfl, hg1, hg2, hcap⟩ : ∃ g cap, v2 = .slice (some ⟨g, 0, none⟩) n cap ∧ w1.heap.size ≤ g ∧ g < w2.heap.size ∧ n ≤ cap := by
      rcases hown.2 with ⟨h, _⟩ | ⟨g, cap, cur, h, h1, h2, h3, _⟩
      · exact absurd h hnn
      · exact ⟨g, cap, h, h1, (Array.getElem?_eq_some_iff.1 h2).1, h3⟩
    have hs1 := hb1.size
    have hs2 := hb2.size
    have h24 := sortE_any g cap l.toArray w2 (holds_own hown HN.out) hg2 (by simpa using hnl)
    rw [show l.toArray.size = n by simp [HN.out]] at h24
    have HB2 : Hid (Below w.heap.size w w2) := hb1.trans (hb2.mono hs1)
    clear hown hnn hb1 hb2
    go_wp2_with fail
    refine h24.mono ?_
    rintro e w3 ⟨rfl, d', hperm, hsorted, hH, hgr3⟩
    clear h24
    have hdl : d'.toList.length = l.length := hperm.length_eq
    have hds : d'.size = n := by rw [← Array.length_toList, hdl, HN.out]
    have h26 := compactE_any g cap n d'.toList w3 (by rw [hdl]; exact HN.out) hcap hn1 (fun j hj => edAt_holds hH j (by omega)) (fun o ho => by have := (hH o (by simp; omega)).2; rwa [Nat.zero_add] at this)
    have HS : Hid ((∀ i j, i < j → j < d'.toList.length → ¬ KL (d'.toList.getD j default) (d'.toList.getD i default)) ∧ d'.toList.Perm l) := ⟨hsorted, hperm⟩
    clear hsorted hH hperm
    have HB3 : Hid (Below w.heap.size w w3) := HB2.out.grown hgr3 (by omega) (fun k hk => by cases hk; omega)
    have hs3 := hgr3.size
    clear hgr3
    clear hds
    generalize d'.toList = d at *
    go_wp2_with fail
    refine h26.mono ?_
    rintro e w4 ⟨m, rfl, hP⟩
    clear h26
    have HB4 : Hid (Below w.heap.size w w4) := HB3.out.grown hP.grown (by omega) (fun k hk => by cases hk; omega)
    have HP : Hid (CmPost w3 w4 g d m) := hP
    have hg4 : g < w4.heap.size := by rw [hP.size]; omega
    have hmd : m ≤ d.length := by rw [← hP.len]; exact cm_le _ _
    have hs4 := HB4.out.size
    have hmc : m ≤ cap := by have := HN.out; omega
    clear hP HB3 HB2
    go_wp2_with fail
    go_loopw [5] (fun i w' => ∃ k : Nat, 1 ≤ k ∧ (k ≤ m ∨ k = 1) ∧ i = .int .i64 k ∧ Hid (adjOk (cm d d.length) k) ∧ Below w4.heap.size w4 w') (fun i _ => m - (intOf i).toNat)
    case atStart => exact ⟨1, by omega, by omega, rfl, fun i hi => by omega, Below.refl _ _⟩
    case round =>
      obtain ⟨k, hk1, hk2, rfl, HA, hbr⟩ := hrel
      by_cases hlt : k < m
      · obtain ⟨a0, a1, a2, a3⟩ := (HP.out.pre (k - 1) (by omega)).below hg4 hbr
        obtain ⟨b0, b1, b2, b3⟩ := (HP.out.pre k hlt).below hg4 hbr
        have hgr : g < wr.heap.size := Nat.lt_of_lt_of_le hg4 hbr.size
        have ew : IntKind.i64.wrap ((k : Int) - 1) = (k : Int) - 1 := IntWalk.i64_in _ (by omega)
        have ek : ((k : Int) - 1).toNat = k - 1 := by omega
        have z1 : (0 : Int) ≤ (k : Int) := by omega
        have z2 : (k : Int) < (m : Int) := by omega
        have z3 : (0 : Int) ≤ (k : Int) - 1 := by omega
        have z4 : (k : Int) - 1 < (m : Int) := by omega
        have z5 : (k : Int) ≤ (m : Int) := by omega
        have z6 : k ≤ m := by omega
        have z7 : (1 : Int) ≤ (k : Int) := by omega
        have HBR : Hid (Below w4.heap.size w4 wr) := hbr
        have HC : Hid (∀ r, clashB ((cm d d.length).getD (k - 1) default).1 ((cm d d.length).getD (k - 1) default).2.1 ((cm d d.length).getD (k - 1) default).2.2.1 ((cm d d.length).getD k default).1 ((cm d d.length).getD k default).2.1 = r → (r = false → adjOk (cm d d.length) (k + 1)) ∧ (r = true → ¬ Good l)) := fun r hr => ⟨fun h => adjOk_step hk1 HA.out (hr.trans h), fun h => bad_of l d HS.out.2 HS.out.1 HOK.out (k - 1) (by rw [HP.out.len]; omega) (by rw [Nat.sub_add_cancel hk1]; exact hr.trans h)⟩
        generalize (cm d d.length).getD (k - 1) default = x at *
        generalize (cm d d.length).getD k default = y at *
        obtain ⟨p, a, b, t⟩ := x
        obtain ⟨p', a', b', t'⟩ := y
        simp only at a0 a1 a2 a3 b0 b1 b2 b3
        have HC' : Hid (∀ r, clashB p a b p' a' = r → (r = false → adjOk (cm d d.length) (k + 1)) ∧ (r = true → ¬ Good l)) := HC.out
        clear HC hbr HA
        have h27 := fun W => clash_any p t p' t' a b a' b' W
        have HR' : Hid ((clashB p a b p' a' = false → adjOk (cm d d.length) (k + 1)) ∧ (clashB p a b p' a' = true → ¬ Good l)) := HC'.out _ rfl
        clear HC'
        generalize clashB p a b p' a' = r at *
        have hbn : Hid (∀ A B : Obj, Below w4.heap.size w4 ((wr.alloc A).alloc B).drew) := fun A B => ((HBR.out.alloc HBR.out.size _).alloc (by have := HBR.out.size; simp; omega) _).drew
        go_wp2_with fail
        go_region_held3 (fun w' => w'.cell? ⟨g, (k - 1) * 4, none⟩ = some (.string p) ∧ w'.cell? ⟨g, (k - 1) * 4 + 1, none⟩ = some (.int .i64 a) ∧ w'.cell? ⟨g, (k - 1) * 4 + 2, none⟩ = some (.int .i64 b) ∧ w'.cell? ⟨g, (k - 1) * 4 + 3, none⟩ = some (.string t) ∧ w'.cell? ⟨g, k * 4, none⟩ = some (.string p') ∧ w'.cell? ⟨g, k * 4 + 1, none⟩ = some (.int .i64 a') ∧ w'.cell? ⟨g, k * 4 + 2, none⟩ = some (.int .i64 b') ∧ w'.cell? ⟨g, k * 4 + 3, none⟩ = some (.string t')) (first | go_keep | (refine ⟨?_, ?_, ?_, ?_, ?_, ?_, ?_, ?_⟩ <;> (rw [cell2_old hgr]; assumption)))
          (first | (go_at_call 27; refine (h27 _).mono ?_; rintro e w' ⟨rfl, rfl⟩))
        cases r
        · go_wp2_with fail
          go_roundw
          case rel => exact ⟨k + 1, by omega, by omega, by go_num, by first | exact HR'.out.1 rfl | exact HR'.out.1 trivial, hbn.out _ _⟩
          case measure => simp [intOf]; omega
        · go_wp2_with fail
          go_ret2
          exact ⟨HB4.out.trans ((hbn.out _ _).mono hs4), .inr ⟨by first | exact HR'.out.2 rfl | exact HR'.out.2 trivial, rfl⟩⟩
      · have HQ : Hid (adjOk (cm d d.length) (cm d d.length).length) := fun i hi => HA.out i (by rw [HP.out.len] at hi; omega)
        have HBR : Hid (Below w4.heap.size w4 wr) := hbr
        clear hbr HA
        go_wp2_with fail
        go_ret2
        have hle := HP.out.len
        refine ⟨HB4.out.trans (HBR.out.mono hs4), .inl ⟨g, cap, cm d d.length, srt_of l d HS.out.2 HS.out.1 HOK.out HQ.out, by rw [hle]; rfl, by rw [hle]; exact hmc, by omega, Nat.lt_of_lt_of_le hg4 HBR.out.size, fun j hj => (HP.out.pre j (by omega)).below hg4 HBR.out, fun o ho => ?_⟩⟩
        rw [HBR.out.frozen (p := ⟨g, o, none⟩) hg4]
        exact HP.out.fz o (by omega)
  · rw [hany] at h21
    have HNG : Hid (¬ Good l) := notGood_any hany
    clear hany
    go_enter Try.func10, Try.ntmps10
    go_wp2_with fail
    refine h21.mono ?_
    rintro e w1 ⟨rfl, hb1⟩
    go_wp2
    go_ret2
    exact ⟨hb1, .inr ⟨HNG.out, rfl⟩⟩
end Go.Proofs.Ytbgkdofjndocfaa
