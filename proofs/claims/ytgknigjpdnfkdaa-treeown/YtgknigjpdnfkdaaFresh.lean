/-
  tree.fresh and tree.freshList: a tree in new memory.
-/
import Derived.Test.YtgknigjpdnfkdaaRowz
import Derived.WalkMore
namespace Go.Proofs.Ytgknigjpdnfkdaa
open Go.RowKit
/-- what fresh answers of n -/
def FrP (n : Nd) : Prop := ∀ (w : World) (va : Value) (B : BP), SlV B w va n.kids →
    Calls Try.prog 34 #[aggN n va] w fun e w' => ∃ a c, e = .returned (aggN n (.slice a n.kids.length c)) ∧ SlV (Bf w.heap.size) w' (.slice a n.kids.length c) n.kids ∧ Below w.heap.size w w'
/-- what freshList answers of l -/
def FlP (l : List Nd) : Prop := ∀ (w : World) (va : Value) (B : BP), SlV B w va l →
    Calls Try.prog 38 #[va] w fun e w' => ∃ a c, e = .returned (.slice a l.length c) ∧ SlV (Bf w.heap.size) w' (.slice a l.length c) l ∧ Below w.heap.size w w'
set_option maxRecDepth 100000 in
set_option maxHeartbeats 2000000 in
theorem fresh_of (n : Nd) (h : FlP n.kids) : FrP n := by
  intro w va B ha
  have IC := h (w.alloc (.cells (encN n va) 24) |>.alloc (.cells #[.int .i64 0, .int .i64 0, .int .i64 0, .string ⟨#[]⟩, .slice none 0 0] 24)) va B (ha.kept (below_alloc2 _ _ _))
  simp only [aggN, encN] at IC ⊢
  obtain ⟨a1, c1, rfl, -, -⟩ := ha.open
  have HZ : Hid (Below w.heap.size w ((w.alloc (.cells #[.int .i64 n.kind, .int .i64 n.fr, .int .i64 n.to, .string n.text, .slice a1 n.kids.length c1] 24)).alloc (.cells #[.int .i64 0, .int .i64 0, .int .i64 0, .string ⟨#[]⟩, .slice none 0 0] 24))) := ⟨below_alloc2 _ _ _⟩
  have hz : ((w.alloc (.cells #[.int .i64 n.kind, .int .i64 n.fr, .int .i64 n.to, .string n.text, .slice a1 n.kids.length c1] 24)).alloc (.cells #[.int .i64 0, .int .i64 0, .int .i64 0, .string ⟨#[]⟩, .slice none 0 0] 24)).heap.size = w.heap.size + 2 := by simp
  have k1 : ((w.alloc (.cells #[.int .i64 n.kind, .int .i64 n.fr, .int .i64 n.to, .string n.text, .slice a1 n.kids.length c1] 24)).alloc (.cells #[.int .i64 0, .int .i64 0, .int .i64 0, .string ⟨#[]⟩, .slice none 0 0] 24)).heap[w.heap.size]? = some (.cells #[.int .i64 n.kind, .int .i64 n.fr, .int .i64 n.to, .string n.text, .slice a1 n.kids.length c1] 24) := (Below.heap_alloc _ _ _ (by simp)).trans (heap_alloc_new w _)
  have k2 : ((w.alloc (.cells #[.int .i64 n.kind, .int .i64 n.fr, .int .i64 n.to, .string n.text, .slice a1 n.kids.length c1] 24)).alloc (.cells #[.int .i64 0, .int .i64 0, .int .i64 0, .string ⟨#[]⟩, .slice none 0 0] 24)).heap[w.heap.size + 1]? = some (.cells #[.int .i64 0, .int .i64 0, .int .i64 0, .string ⟨#[]⟩, .slice none 0 0] 24) := by have := heap_alloc_new (w.alloc (.cells #[.int .i64 n.kind, .int .i64 n.fr, .int .i64 n.to, .string n.text, .slice a1 n.kids.length c1] 24)) (.cells #[.int .i64 0, .int .i64 0, .int .i64 0, .string ⟨#[]⟩, .slice none 0 0] 24); simpa using this
  go_enter Try.func34, Try.ntmps34
  go_wp2_with (go_at_call 38; refine IC.mono ?_; clear IC; rintro e w1 ⟨a2, c2, rfl, hS1, hB1⟩; have j1 := (hB1.block w.heap.size (by omega)).trans k1; have j2 := (hB1.block (w.heap.size + 1) (by omega)).trans k2; have c0 := cell_of j1 0; have x1 := cell_of j1 1; have x2 := cell_of j1 2; have x3 := cell_of j1 3; have x4 := cell_of j1 4; have y0 := cell_of j2 0; have y1 := cell_of j2 1; have y2 := cell_of j2 2; have y3 := cell_of j2 3; have y4 := cell_of j2 4; have z4 : w1.frozen? ⟨w.heap.size, 4, none⟩ = false := (by simp [World.frozen?, j1]); have f0 : w1.frozen? ⟨w.heap.size + 1, 0, none⟩ = false := (by simp [World.frozen?, j2]); have f1 : w1.frozen? ⟨w.heap.size + 1, 1, none⟩ = false := (by simp [World.frozen?, j2]); have f2 : w1.frozen? ⟨w.heap.size + 1, 2, none⟩ = false := (by simp [World.frozen?, j2]); have f3 : w1.frozen? ⟨w.heap.size + 1, 3, none⟩ = false := (by simp [World.frozen?, j2]); have f4 : w1.frozen? ⟨w.heap.size + 1, 4, none⟩ = false := (by simp [World.frozen?, j2]); have HB1 : Hid (Below _ _ _) := ⟨hB1⟩; have HS1 : Hid (SlV _ _ _ _) := ⟨hS1⟩; clear hB1 hS1 j1 j2)
  have HK : Hid (Kx (fun b => w.heap.size ≤ b ∧ b < w.heap.size + 2) w1 ((((((w1.setCell ⟨w.heap.size, 4, none⟩ (.slice a2 n.kids.length c2)).setCell ⟨w.heap.size + 1, 0, none⟩ (.int .i64 n.kind)).setCell ⟨w.heap.size + 1, 1, none⟩ (.int .i64 n.fr)).setCell ⟨w.heap.size + 1, 2, none⟩ (.int .i64 n.to)).setCell ⟨w.heap.size + 1, 3, none⟩ (.string n.text)).setCell ⟨w.heap.size + 1, 4, none⟩ (.slice a2 n.kids.length c2))) :=
    ⟨((((((Kx.refl _ _).set (by simp only; omega) _).set (by simp only; omega) _).set (by simp only; omega) _).set (by simp only; omega) _).set (by simp only; omega) _).set (by simp only; omega) _⟩
  refine bodyPost_ret (v := .agg #[.int .i64 n.kind, .int .i64 n.fr, .int .i64 n.to, .string n.text, .slice a2 n.kids.length c2]) ?_ rfl ⟨a2, c2, rfl, ?_, ?_⟩
  · simp [results, Try.results34, go_sem, y0, y1, y2, y3, y4]
  · exact HS1.out.to' HK.out (fun b o ob _ h1 => Bf.mono (by omega) _ _ _ h1) (fun b o ob _ h1 h2 => by have := h1.1; omega)
  · have h1 : Kx (fun _ => False) w w1 := (Kx.of_whole HZ.out).trans (Kx.of_whole (HB1.out))
    exact Kx.below (X := fun b => w.heap.size ≤ b) ((h1.mono (fun _ _ h => h.elim)).andThen HK.out (fun _ _ h => h) (fun _ _ h => h.1)) (Nat.le_refl _) (fun b h1 h2 => by omega)
set_option maxRecDepth 100000 in
set_option maxHeartbeats 2000000 in
theorem freshList_of (l : List Nd) (hz : l.length ≤ 1000000) (ih : ∀ x ∈ l, FrP x) : FlP l := by
  intro w va B ha
  obtain ⟨a1, c1, rfl, hl1, -⟩ := ha.open
  have H1 : Hid (SlV B w (.slice a1 l.length c1) l) := ⟨ha⟩
  have IH : Hid (∀ x ∈ l, FrP x) := ⟨ih⟩
  clear ha ih
  obtain ⟨i24, i1, i2, i3, i4⟩ := info24_ex
  have HI : Hid (Try.prog.info? 24 = some i24 ∧ i24.zero = some (.agg #[.int .i64 0, .int .i64 0, .int .i64 0, .string ⟨#[]⟩, .slice none 0 0]) ∧ i24.size = 5 ∧ i24.bytes = 64) := ⟨i1, i2, i3, i4⟩
  by_cases h0 : l.length = 0
  · obtain rfl : l = [] := List.eq_nil_of_length_eq_zero h0
    go_enter Try.func38, Try.ntmps38
    go_wp2
    go_ret
    exact ⟨none, 0, rfl, .inl ⟨_, _, rfl, rfl⟩, Below.refl _ _⟩
  · have h0b : ((l.length : Int) == 0) = false := by rw [beq_eq_false_iff_ne]; omega
    have h0' : ¬ (l.length : Int) = 0 := by omega
    have hmk := fun w : World => run_makeSlice (P := Try.prog) w 22 24 i24 _ Try.underlying22 i1 i2 .i64 .i64 0 l.length (by omega) (by omega) (by rw [i3]; simp; omega) (by rw [i4]; omega) (by omega)
    simp only [Int.toNat_zero, Int.toNat_natCast, i3] at hmk
    clear i1 i2 i3 i4
    go_enter Try.func38, Try.ntmps38
    go_wp2
    have HB0 : Hid (Below w.heap.size w (w.alloc (.cells (madeCells #[.int .i64 0, .int .i64 0, .int .i64 0, .string ⟨#[]⟩, .slice none 0 0] (l.length * 5)) 24))) := ⟨below_alloc _ _⟩
    have HR0 : Hid (RowN w.heap.size (Bf w.heap.size) (w.alloc (.cells (madeCells #[.int .i64 0, .int .i64 0, .int .i64 0, .string ⟨#[]⟩, .slice none 0 0] (l.length * 5)) 24)) (.slice (some ⟨w.heap.size, 0, none⟩) 0 l.length) []) := ⟨RowN.made (World.ownsRow_made w _ _ (Nat.le_refl _) (by unfold maxLen; omega) (by rw [size_madeCells]))⟩
    generalize (w.alloc (.cells (madeCells #[.int .i64 0, .int .i64 0, .int .i64 0, .string ⟨#[]⟩, .slice none 0 0] (l.length * 5)) 24)) = W0 at *
    clear hmk
    go_loopw [3, 14] (fun u i wr => ∃ j : Nat, i = .int .i64 j ∧ j ≤ l.length ∧ Hid (RowN w.heap.size (Bf w.heap.size) wr u (l.take j)) ∧ Hid (Below w.heap.size w wr)) (fun _ i _ => l.length - (intOf i).toNat)
    case atStart => exact ⟨0, rfl, by omega, ⟨by simpa using HR0.out⟩, HB0⟩
    case round =>
      obtain ⟨j, rfl, hj, HR, HBw⟩ := hrel
      by_cases hlt : j < l.length
      · have hlt' : (j : Int) < (l.length : Int) := by omega
        obtain ⟨_, _, e1, _, g1⟩ := (H1.out.kept HBw.out).open
        cases e1
        obtain ⟨b1, o1, rfl, _, l1⟩ := g1 j hlt
        obtain ⟨x, hx⟩ : ∃ x, l[j] = x := ⟨_, rfl⟩
        have mx : x ∈ l := hx ▸ List.getElem_mem _
        have hT : l.take (j + 1) = l.take j ++ [x] := by rw [List.take_succ_eq_append_getElem hlt, hx]
        obtain ⟨lj, hlj⟩ : ∃ y, l.take j = y := ⟨_, rfl⟩
        have hjl : lj.length = j := by rw [← hlj]; simp; omega
        rw [hlj] at HR hT
        have HT : Hid (l.take (j + 1) = lj ++ [x]) := ⟨hT⟩
        have HJ : Hid (lj.length = j) := ⟨hjl⟩
        rw [hx] at l1
        obtain ⟨p0, p1, p2, p3, vx, p4, sx⟩ := lies_iff.1 l1
        obtain ⟨a2, c2, rfl⟩ := HR.out.slice
        obtain ⟨vs, hvl, hown, hks⟩ := HR.out.ex
        have IC := IH.out x mx (wr.alloc (.cells (encN x vx) 24)) vx B (sx.kept (below_alloc _ _))
        obtain ⟨ax, cx, rfl⟩ := sx.slice
        have HK : Hid (∀ i (hi : i < lj.length), SlV (fun b o ob => Bf w.heap.size b o ob ∧ (Value.slice a2 lj.length c2).ownBlock ≠ some b) wr (vs[i]'(hvl ▸ hi)) lj[i].kids) := ⟨hks⟩
        have HO : Hid (wr.ownsRow w.heap.size 24 5 (.slice a2 lj.length c2) lj.length (flatV lj vs)) := ⟨hown⟩
        have hwr := HBw.out.size
        simp only [aggN, encN] at IC
        clear hks hown hT l1 g1 hlj sx
        rw [hjl] at HO
        rw [hjl]
        clear hjl
        go_wp2_with (first
          | (go_at_call 34; refine IC.mono ?_; clear IC; rintro e w1 ⟨a3, c3, rfl, hS1, hB1⟩; have hz1 := hB1.size; simp only [World.size_alloc] at hz1; have HS1 : Hid (SlV _ _ _ _) := ⟨hS1⟩; have HB1 : Hid (Below wr.heap.size wr w1) := ⟨bthen (below_alloc _ _) hB1⟩; clear hS1 hB1)
          | (at_builtin; refine wpList_append_lies _ rfl _ _ _ rfl w.heap.size 24 i24 _ 5 64 Try.underlying22 HI.out.1 HI.out.2.1 HI.out.2.2.1 HI.out.2.2.2 rfl (by omega) (.slice a2 j c2) j _ rfl (own_kept HO.out (bthen HB1.out (below_alloc _ _))) ⟨w1.heap.size, 0, none⟩ 1 1 [.int .i64 x.kind, .int .i64 x.fr, .int .i64 x.to, .string x.text, .slice a3 x.kids.length c3] rfl rfl (news24 w1 _ _ _ _ _) (by simp [Value.oneCell']) (by omega) (by unfold maxLen; omega) (by omega) (by simp; omega) (w1.heap.size + 1) (by simp) ?_; intro gg cap w2 hown2 hgrow hat hlt1))
        go_roundw
        case rel =>
          have e1 := HJ.out
          have hB2 : Below w.heap.size w w2 := by
            have h2 : Kx (fun b => w.heap.size ≤ b) (w1.alloc (.cells #[.int .i64 x.kind, .int .i64 x.fr, .int .i64 x.to, .string x.text, .slice a3 x.kids.length c3] 24)) w2 := (grownBy_kx hgrow).mono (fun b _ e => (HO.out.lt b e).1)
            exact (HBw.out.trans (bthen HB1.out (below_alloc _ _) |>.mono hwr)).trans (h2.below (by simp; omega) (fun b h h' => by omega))
          refine ⟨j + 1, by go_num, by omega, ⟨?_⟩, ⟨hB2⟩⟩
          rw [HT.out]
          subst e1
          refine RowN.push hvl (W := w1.alloc (.cells #[.int .i64 x.kind, .int .i64 x.fr, .int .i64 x.to, .string x.text, .slice a3 x.kids.length c3] 24)) (fun i hi => (HK.out i hi).kept (bthen HB1.out (below_alloc _ _))) ?_ hgrow ?_ hown2
          · refine (HS1.out.kept (below_alloc _ _)).with (fun b o ob _ h1 => ⟨Bf.mono (by simp; omega) _ _ _ h1, fun e => ?_⟩)
            have h3 := (HO.out.lt b e).2
            have h4 := h1.1
            simp at h4
            omega
          · rcases hat with h3 | h3
            · exact .inl h3
            · exact .inr (by simp [h3])
        case measure => simp [intOf]; omega
      · have hlt' : ¬ (j : Int) < (l.length : Int) := by omega
        have HR' := HR.out
        rw [List.take_of_length_le (by omega)] at HR'
        obtain ⟨a2, c2, rfl⟩ := HR'.slice
        go_wp2
        go_ret
        exact ⟨a2, c2, rfl, HR'.read (by omega) (fun _ _ _ _ h => h) (fun b cur _ h1 _ => ⟨h1, rfl, cur, rfl⟩), HBw.out⟩
theorem fresh_any (n : Nd) (hz : n.sz ≤ 1000000) : FrP n := by
  induction n using Nd.ind3
  rename_i n ih
  have h1 := n.sz_eq
  have h2 := szL_len n.kids
  exact fresh_of n (freshList_of n.kids (by omega) (fun x hx => ih x hx (by have := szL_mem hx; omega)))
theorem freshList_any (l : List Nd) (hz : szL l ≤ 1000000) : FlP l :=
  freshList_of l (by have := szL_len l; omega) (fun x hx => fresh_any x (by have := szL_mem hx; omega))
end Go.Proofs.Ytgknigjpdnfkdaa
