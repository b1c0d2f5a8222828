/-
  The reference: Flat, All, Some, Idents.
-/
import Derived.Test.YtgknigjpdnfkdaaAwake
import Derived.WalkMore
namespace Go.Proofs.Ytgknigjpdnfkdaa
open Go.RowKit
/-- a row of ints of the call's own -/
def RowI (base : Nat) (W : World) (v : Value) (ds : List Int) : Prop := W.ownsRow base 3 1 v ds.length (ds.map fun d => .int .i64 d)
theorem RowI.slice {base : Nat} {W : World} {v : Value} {l : List Int} (h : RowI base W v l) : ∃ a c, v = .slice a l.length c := by
  rcases h.2 with ⟨rfl, h0⟩ | ⟨g, cap, cur, rfl, _⟩
  · rw [h0]; exact ⟨_, _, rfl⟩
  · exact ⟨_, _, rfl⟩
theorem RowI.kept {base : Nat} {W W' : World} {v : Value} {l : List Int} (h : RowI base W v l) (hk : Below W.heap.size W W') : RowI base W' v l := own_kept h hk
/-- rows of two kinds lie apart -/
theorem rows_apart {W : World} {base base' size size' e e' n n' : Nat} {v v' : Value} {xs xs' : List Value} (h : W.ownsRow base e size v n xs) (h' : W.ownsRow base' e' size' v' n' xs') (hne : e ≠ e') : v.ownBlock = none ∨ v.ownBlock ≠ v'.ownBlock := by
  rcases h.2 with ⟨rfl, _⟩ | ⟨g, cap, cur, rfl, _, h2, _⟩
  · exact .inl rfl
  · refine .inr ?_
    rcases h'.2 with ⟨rfl, _⟩ | ⟨g', cap', cur', rfl, _, h3, _⟩
    · simp [Value.ownBlock]
    · intro e
      have e' : g = g' := by simpa [Value.ownBlock] using e
      subst e'
      rw [h2] at h3
      simp at h3
      exact hne h3.2
theorem RowN.own {base : Nat} {K : BP} {W : World} {v : Value} {l : List Nd} (h : RowN base K W v l) : ∃ xs, W.ownsRow base 24 5 v l.length xs := by
  obtain ⟨vs, _, ho, _⟩ := h.ex
  exact ⟨_, ho⟩
/-- what Flat answers -/
structure FtQ (n0 : Nat) (u1 u2 : Value) (L : List Nd) (D : List Int) (W : World) (v1 v2 : Value) (W' : World) : Prop where
  r1 : RowN n0 (Bl n0) W' v1 L
  r2 : RowI n0 W' v2 D
  keep : Kx (fun b => u1.ownBlock = some b ∨ u2.ownBlock = some b) W W'
  at1 : ∀ b, v1.ownBlock = some b → u1.ownBlock = some b ∨ W.heap.size ≤ b
  at2 : ∀ b, v2.ownBlock = some b → u2.ownBlock = some b ∨ W.heap.size ≤ b
def FtP (n0 : Nat) (u1 u2 : Value) (L : List Nd) (D : List Int) (W : World) : Ending → World → Prop := fun e W' =>
  ∃ a c a' c', e = .returned (.tuple #[.slice a L.length c, .slice a' D.length c']) ∧ FtQ n0 u1 u2 L D W (.slice a L.length c) (.slice a' D.length c') W'
theorem FtQ.trans {n0 : Nat} {u1 u2 v1 v2 z1 z2 : Value} {L L' : List Nd} {D D' : List Int} {A B C : World} (h : FtQ n0 u1 u2 L D A v1 v2 B) (k : FtQ n0 v1 v2 L' D' B z1 z2 C) : FtQ n0 u1 u2 L' D' A z1 z2 C := by
  refine ⟨k.r1, k.r2, h.keep.andThen k.keep (fun _ _ h => h) (fun b hb e => ?_), fun b hb => ?_, fun b hb => ?_⟩
  · rcases e with e | e
    · exact (h.at1 b e).elim .inl (fun h => by omega)
    · exact (h.at2 b e).elim .inr (fun h => by omega)
  · rcases k.at1 b hb with e | e
    · exact h.at1 b e
    · exact .inr (Nat.le_trans h.keep.size e)
  · rcases k.at2 b hb with e | e
    · exact h.at2 b e
    · exact .inr (Nat.le_trans h.keep.size e)
theorem snd_len (n : Nd) (d : Nat) : ((n.flat d).map Prod.snd).length = n.sz := by rw [List.length_map, flat_len]
set_option maxRecDepth 100000 in
set_option maxHeartbeats 2000000 in
theorem flat_any (n0 : Nat) (n : Nd) : ∀ (d : Nat) (w : World) (va u1 u2 : Value) (L : List Nd) (D : List Int), n0 ≤ w.heap.size → SlV (Bl n0) w va n.kids → RowN n0 (Bl n0) w u1 L → RowI n0 w u2 D → D.length = L.length → L.length + n.sz ≤ 1000000 → d + n.dep ≤ 1000000 →
    Calls Try.prog 10 #[aggN n va, .int .i64 d, u1, u2] w (FtP n0 u1 u2 (L ++ (n.flat d).map Prod.snd) (D ++ (n.flat d).map fun e => (e.1 : Int)) w) := by
  induction n using Nd.ind3
  rename_i n ih
  intro d w va u1 u2 L D hn0 ha hr hi hDL hLz hd
  obtain ⟨a1, c1, rfl, hl1, -⟩ := ha.open
  have IH : Hid _ := ⟨ih⟩
  clear ih
  obtain ⟨au, cu, rfl⟩ := hr.slice
  obtain ⟨av, cv, rfl⟩ := hi.slice
  obtain ⟨vs, hvl, hown, hks⟩ := hr.ex
  obtain ⟨i24, i1, i2, i3, i4⟩ := info24_ex
  obtain ⟨i3t, j1, j2, j3, j4⟩ := info3_ex
  have H1 : Hid (SlV (Bl n0) w (.slice a1 n.kids.length c1) n.kids) := ⟨ha⟩
  have HR : Hid (RowN n0 (Bl n0) w (.slice au L.length cu) L) := ⟨hr⟩
  have HI : Hid (w.ownsRow n0 3 1 (.slice av D.length cv) D.length (D.map fun d => .int .i64 d)) := ⟨hi⟩
  have HO : Hid (w.ownsRow n0 24 5 (.slice au L.length cu) L.length (flatV L vs)) := ⟨hown⟩
  have HK : Hid (∀ i (hi : i < L.length), SlV (fun b o ob => Bl n0 b o ob ∧ (Value.slice au L.length cu).ownBlock ≠ some b) w (vs[i]'(hvl ▸ hi)) L[i].kids) := ⟨hks⟩
  have hzn := n.sz_pos
  have HDL : Hid (D.length = L.length) := ⟨hDL⟩
  have hDz : D.length + 1 ≤ 1000000 := by omega
  clear hDL
  clear ha hr hi hown hks
  simp only [aggN, encN]
  -- the box, and the two appends
  obtain ⟨W0, hW0⟩ : ∃ y, w.alloc (.cells #[.int .i64 n.kind, .int .i64 n.fr, .int .i64 n.to, .string n.text, .slice a1 n.kids.length c1] 24) = y := ⟨_, rfl⟩
  have hb0 : Below w.heap.size w W0 := hW0 ▸ below_alloc _ _
  have hz0 : W0.heap.size = w.heap.size + 1 := by rw [← hW0]; simp
  have k1 : W0.heap[w.heap.size]? = some (.cells #[.int .i64 n.kind, .int .i64 n.fr, .int .i64 n.to, .string n.text, .slice a1 n.kids.length c1] 24) := by rw [← hW0]; exact heap_alloc_new _ _
  obtain ⟨T1, hT1⟩ : ∃ y, W0.alloc (.cells #[.int .i64 n.kind, .int .i64 n.fr, .int .i64 n.to, .string n.text, .slice a1 n.kids.length c1] 24) = y := ⟨_, rfl⟩
  have hbT1 : Below W0.heap.size W0 T1 := hT1 ▸ below_alloc _ _
  have hzT1 : T1.heap.size = w.heap.size + 2 := by rw [← hT1]; simp [hz0]
  have kT1 : T1.heap[w.heap.size + 1]? = some (.cells #[.int .i64 n.kind, .int .i64 n.fr, .int .i64 n.to, .string n.text, .slice a1 n.kids.length c1] 24) := by rw [← hT1, ← hz0]; exact heap_alloc_new _ _
  have x0 := cell_of k1 0
  have x1 := cell_of k1 1
  have x2 := cell_of k1 2
  have x3 := cell_of k1 3
  have x4 := cell_of k1 4
  simp only [List.getElem?_toArray, List.getElem?_cons_zero, List.getElem?_cons_succ] at x0 x1 x2 x3 x4
  go_enter Try.func10, Try.ntmps10
  go_wp2_with (first
    | (at_builtin; refine wpList_append_lies _ rfl _ _ _ rfl n0 24 i24 _ 5 64 Try.underlying22 i1 i2 i3 i4 rfl (by omega) (.slice au L.length cu) L.length _ rfl (own_kept HO.out (bthen hb0 hbT1)) ⟨w.heap.size + 1, 0, none⟩ 1 1 [.int .i64 n.kind, .int .i64 n.fr, .int .i64 n.to, .string n.text, .slice a1 n.kids.length c1] rfl rfl (World.news_of_block kT1) (by simp [Value.oneCell']) (by omega) (by unfold maxLen; omega) (by omega) (by omega) (w.heap.size + 2) hzT1 ?_; intro g1 cap1 w1 hown1 hgrow1 hat1 hlt1; obtain ⟨T2, hT2⟩ : ∃ y, w1.alloc (.cells #[.int .i64 d] 3) = y := ⟨_, rfl⟩; have hbT2 : Below w1.heap.size w1 T2 := hT2 ▸ below_alloc _ _; have hzT2 : T2.heap.size = w1.heap.size + 1 := (by rw [← hT2]; simp); have kT2 : T2.heap[w1.heap.size]? = some (.cells #[.int .i64 d] 3) := (by rw [← hT2]; exact heap_alloc_new _ _); have hz1 := hgrow1.size; have HOW : Hid (T1.ownsRow n0 3 1 (.slice av D.length cv) D.length (D.map fun d => .int .i64 d)) := ⟨own_kept HI.out (bthen hb0 hbT1)⟩; have HOW1 : Hid (T2.ownsRow n0 3 1 (.slice av D.length cv) D.length (D.map fun d => .int .i64 d)) := ⟨own_kept (HOW.out.kept hgrow1 (rows_apart HOW.out (own_kept HO.out (bthen hb0 hbT1)) (by decide))) hbT2⟩; have HOWN1 : Hid (w1.ownsRow _ _ _ _ _ _) := ⟨hown1⟩; have HGROW1 : Hid (World.grownBy _ _ _) := ⟨hgrow1⟩; have HAT1 : Hid (_ ∨ _) := ⟨hat1⟩; clear hown1 hgrow1 hat1)
    | (at_builtin; refine wpList_append_lies _ rfl _ _ _ rfl n0 3 i3t _ 1 8 Try.underlying27 j1 j2 j3 j4 rfl (by omega) (.slice av D.length cv) D.length _ rfl HOW1.out ⟨w1.heap.size, 0, none⟩ 1 1 [.int .i64 d] rfl rfl (World.news_of_block kT2) (by simp [Value.oneCell']) (by omega) (by unfold maxLen; omega) (by omega) (by omega) (w1.heap.size + 1) hzT2 ?_; intro g2 cap2 w2 hown2 hgrow2 hat2 hlt2; have HOWN2 : Hid (w2.ownsRow _ _ _ _ _ _) := ⟨hown2⟩; have HGROW2 : Hid (World.grownBy _ _ _) := ⟨hgrow2⟩; have HAT2 : Hid (_ ∨ _) := ⟨hat2⟩; clear hown2 hgrow2 hat2))
  have hz2 := HGROW2.out.size
  have hX1 : ∀ b, (Value.slice au L.length cu).ownBlock = some b → n0 ≤ b ∧ b < w.heap.size := HO.out.lt
  have hX2 : ∀ b, (Value.slice av D.length cv).ownBlock = some b → n0 ≤ b ∧ b < w.heap.size := HI.out.lt
  have HX1 : Hid (∀ b, (Value.slice au L.length cu).ownBlock = some b → n0 ≤ b ∧ b < w.heap.size) := ⟨hX1⟩
  have HX2 : Hid (∀ b, (Value.slice av D.length cv).ownBlock = some b → n0 ≤ b ∧ b < w.heap.size) := ⟨hX2⟩
  have HQ : Hid (FtQ n0 (.slice au L.length cu) (.slice av D.length cv) (L ++ [n]) (D ++ [(d : Int)]) W0 (.slice (some ⟨g1, 0, none⟩) (L.length + 1) cap1) (.slice (some ⟨g2, 0, none⟩) (D.length + 1) cap2) w2) := by
    refine ⟨?_, ?_, ?_, ?_, ?_⟩
    · have h1 : RowN n0 (Bl n0) w1 (.slice (some ⟨g1, 0, none⟩) (L.length + 1) cap1) (L ++ [n]) :=
        RowN.push hvl (W := T1) (fun i hi => (HK.out i hi).kept (bthen hb0 hbT1)) ((H1.out.kept (bthen hb0 hbT1)).with (fun b o ob _ h => ⟨h, fun e => by have := (hX1 b e).1; have : b < n0 := h; omega⟩)) HGROW1.out (HAT1.out.imp id (fun e => by omega)) HOWN1.out
      refine (h1.kept hbT2).to (grownBy_kx HGROW2.out) (fun b hb e => ?_) (fun b o ob _ h e => by have := (hX2 b e).1; have : b < n0 := h; omega)
      obtain ⟨xs, ho⟩ := (h1.kept hbT2).own
      rcases rows_apart ho HOW1.out (by decide) with h3 | h3
      · rw [h3] at hb; cases hb
      · exact h3 (hb.trans e.symm)
    · have := HOWN2.out
      unfold RowI
      simpa using this
    · have e1 : Kx (fun b => (Value.slice au L.length cu).ownBlock = some b) W0 w1 := (Kx.of_whole hbT1).trans (grownBy_kx HGROW1.out)
      have e2 : Kx (fun b => (Value.slice av D.length cv).ownBlock = some b) w1 w2 := (Kx.of_whole hbT2).trans (grownBy_kx HGROW2.out)
      exact e1.andThen e2 (fun _ _ h => .inl h) (fun _ _ h => .inr h)
    · intro b hb
      have e : g1 = b := by simpa [Value.ownBlock] using hb
      rcases HAT1.out with h3 | h3
      · exact .inl (e ▸ h3)
      · exact .inr (by omega)
    · intro b hb
      have e : g2 = b := by simpa [Value.ownBlock] using hb
      rcases HAT2.out with h3 | h3
      · exact .inl (e ▸ h3)
      · exact .inr (by omega)
  have HK1 : Hid (W0.heap[w.heap.size]? = some (.cells #[.int .i64 n.kind, .int .i64 n.fr, .int .i64 n.to, .string n.text, .slice a1 n.kids.length c1] 24)) := ⟨k1⟩
  have HB0 : Hid (Below w.heap.size w W0) := ⟨hb0⟩
  clear HAT1 HAT2 HGROW1 HGROW2 HOWN1 HOWN2 HOW HOW1 hT1 hT2 kT1 kT2 hbT1 hbT2 hzT1 hzT2 k1 hb0 x0 x1 x2 x3 x4 hX1 hX2 HK hlt1 hlt2 HR i1 i2 i3 i4 j1 j2 j3 j4 hvl
  have hSz : ∀ j, szL (n.kids.take j) + szL (n.kids.drop j) + 1 = n.sz := fun j => by
    have h1 := n.sz_eq
    have h2 := szL_append (n.kids.take j) (n.kids.drop j)
    rw [List.take_append_drop] at h2
    omega
  have HSz : Hid (∀ j, szL (n.kids.take j) + szL (n.kids.drop j) + 1 = n.sz) := ⟨hSz⟩
  clear hSz
  go_loopw [2, 3, 10] (fun l at_ i wr => ∃ j : Nat, i = .int .i64 j ∧ j ≤ n.kids.length ∧ Hid (FtQ n0 (.slice au L.length cu) (.slice av D.length cv) (L ++ n :: (flatL (n.kids.take j) (d + 1)).map Prod.snd) (D ++ (d : Int) :: (flatL (n.kids.take j) (d + 1)).map fun e => (e.1 : Int)) W0 l at_ wr)) (fun _ _ i _ => n.kids.length - (intOf i).toNat)
  case atStart => exact ⟨0, rfl, by omega, ⟨by simpa [flatL_nil] using HQ.out⟩⟩
  case round =>
    clear HQ hz1 hz2
    obtain ⟨j, rfl, hj, HF⟩ := hrel
    have hbox := HF.out.keep.keep _ _ HK1.out (fun h => h.elim (fun h => by have := (HX1.out _ h).2; omega) (fun h => by have := (HX2.out _ h).2; omega))
    have x4 := cell_of hbox 4
    simp only [List.getElem?_toArray, List.getElem?_cons_zero, List.getElem?_cons_succ] at x4
    have hwr := HF.out.keep.size
    clear hbox
    by_cases hlt : j < n.kids.length
    · have hlt' : (j : Int) < (n.kids.length : Int) := by omega
      have HSr : Hid (SlV (Bl n0) wr (.slice a1 n.kids.length c1) n.kids) := ⟨(H1.out.kept HB0.out).to' HF.out.keep (fun _ _ _ _ h => h) (fun b o ob _ h e => e.elim (fun e => by have := (HX1.out _ e).1; have : b < n0 := h; omega) (fun e => by have := (HX2.out _ e).1; have : b < n0 := h; omega))⟩
      obtain ⟨_, _, e1, _, g1⟩ := HSr.out.open
      cases e1
      obtain ⟨b1, o1, rfl, _, l1⟩ := g1 j hlt
      obtain ⟨x, hx⟩ : ∃ x, n.kids[j] = x := ⟨_, rfl⟩
      have mx : x ∈ n.kids := hx ▸ List.getElem_mem _
      have HT : Hid (flatL (n.kids.take (j + 1)) (d + 1) = flatL (n.kids.take j) (d + 1) ++ x.flat (d + 1)) := ⟨by rw [List.take_succ_eq_append_getElem hlt, flatL_append, hx, flatL_cons, flatL_nil, List.append_nil]⟩
      have hdx : d + 1 + x.dep ≤ 1000000 := by
        have h1 := n.dep_eq
        have h2 := depL_append (n.kids.take j) (n.kids.drop j)
        rw [List.take_append_drop, List.drop_eq_getElem_cons hlt, hx, depL_cons] at h2
        omega
      have hfl : ∀ l : List Nd, (flatL l (d + 1)).length = szL l := fun l => by
        induction l with
        | nil => simp [flatL_nil, szL_nil]
        | cons y r ihl => rw [flatL_cons, List.length_append, flat_len, ihl, szL_cons]
      have hz3 : szL (n.kids.take j) + x.sz + 1 ≤ n.sz := by
        have h1 := HSz.out j
        rw [List.drop_eq_getElem_cons hlt, hx, szL_cons] at h1
        omega
      rw [hx] at l1
      obtain ⟨p0, p1, p2, p3, vx, p4, sx⟩ := lies_iff.1 l1
      obtain ⟨Lj, hLj⟩ : ∃ y, L ++ n :: (flatL (n.kids.take j) (d + 1)).map Prod.snd = y := ⟨_, rfl⟩
      obtain ⟨Dj, hDj⟩ : ∃ y, D ++ (d : Int) :: (flatL (n.kids.take j) (d + 1)).map (fun e => (e.1 : Int)) = y := ⟨_, rfl⟩
      have hLl : Lj.length = L.length + 1 + szL (n.kids.take j) := by rw [← hLj]; simp [hfl]; omega
      have hDl : Dj.length = Lj.length := by rw [hLl, ← hDj]; simp [hfl, HDL.out]; omega
      rw [hLj, hDj] at HF
      have IC := IH.out x mx (d + 1) wr vx _ _ Lj Dj (by omega) sx HF.out.r1 HF.out.r2 hDl (by omega) hdx
      obtain ⟨ax, cx, rfl⟩ := sx.slice
      obtain ⟨a5, c5, rfl⟩ := HF.out.r1.slice
      obtain ⟨a6, c6, rfl⟩ := HF.out.r2.slice
      obtain ⟨L2, hL2⟩ : ∃ y, Lj ++ (x.flat (d + 1)).map Prod.snd = y := ⟨_, rfl⟩
      obtain ⟨D2, hD2⟩ : ∃ y, Dj ++ (x.flat (d + 1)).map (fun e => (e.1 : Int)) = y := ⟨_, rfl⟩
      have HLj : Hid (L2 = L ++ n :: (flatL (n.kids.take (j + 1)) (d + 1)).map Prod.snd) := ⟨by rw [← hL2, ← hLj, HT.out]; simp⟩
      have HDj : Hid (D2 = D ++ (d : Int) :: (flatL (n.kids.take (j + 1)) (d + 1)).map fun e => (e.1 : Int)) := ⟨by rw [← hD2, ← hDj, HT.out]; simp⟩
      rw [hL2, hD2] at IC
      clear hL2 hD2
      rw [show ((d + 1 : Nat) : Int) = (d : Int) + 1 by omega] at IC
      simp only [aggN, encN] at IC
      clear g1 l1 sx hdx hLj hDj hfl hLl hDl hz3
      go_wp2_with (go_at_call 10; refine IC.mono ?_; clear IC; rintro e w3 ⟨a7, c7, a8, c8, rfl, hq⟩; have HQ3 : Hid (FtQ _ _ _ _ _ _ _ _ _) := ⟨hq⟩; clear hq)
      go_roundw
      case rel =>
        have hq := HQ3.out
        refine ⟨j + 1, by go_num, by omega, ⟨?_⟩⟩
        have h9 := HF.out.trans hq
        rw [← HLj.out, ← HDj.out]
        exact h9
      case measure => simp [intOf]; omega
    · have hlt' : ¬ (j : Int) < (n.kids.length : Int) := by omega
      have hq := HF.out
      rw [List.take_of_length_le (by omega)] at hq
      obtain ⟨Lf, hLf⟩ : ∃ y, L ++ n :: (flatL n.kids (d + 1)).map Prod.snd = y := ⟨_, rfl⟩
      obtain ⟨Df, hDf⟩ : ∃ y, D ++ (d : Int) :: (flatL n.kids (d + 1)).map (fun e => (e.1 : Int)) = y := ⟨_, rfl⟩
      rw [hLf, hDf] at hq
      obtain ⟨a5, c5, rfl⟩ := hq.r1.slice
      obtain ⟨a6, c6, rfl⟩ := hq.r2.slice
      have HQ' : Hid (FtQ _ _ _ _ _ _ _ _ _) := ⟨hq⟩
      have HLf : Hid (L ++ (n.flat d).map Prod.snd = Lf) := ⟨by rw [← hLf, Nd.flat_eq]; simp⟩
      have HDf : Hid (D ++ (n.flat d).map (fun e => (e.1 : Int)) = Df) := ⟨by rw [← hDf, Nd.flat_eq]; simp⟩
      clear hq HF hLf hDf
      go_wp2
      rw [HLf.out, HDf.out]
      refine bodyPost_ret (v := .tuple #[.slice a5 Lf.length c5, .slice a6 Df.length c6]) (by simp [results, Try.results10, go_sem]) rfl ⟨a5, c5, a6, c6, rfl, ?_⟩
      have hq := HQ'.out
      refine ⟨hq.r1, hq.r2, (Kx.of_whole HB0.out).trans hq.keep, fun b hb => (hq.at1 b hb).imp id (fun h => by omega), fun b hb => (hq.at2 b hb).imp id (fun h => by omega)⟩
end Go.Proofs.Ytgknigjpdnfkdaa
