/-
  Lists of ints: slices.Contains, recastalike.Ints; tree.Kids and the reference for it.
-/
import Derived.Test.YtgknigjpdnfkdaaRefB
import Derived.Deep.RegionHeld3
import Derived.BigQuiet
import Derived.Deep.DrawnRows
namespace Go.Proofs.Ytgknigjpdnfkdaa
open Go.RowKit
attribute [local go_sem ↓] Go.wp_at_zero Go.wp_at_succ
/-- a slice of ints reads as these -/
def InV (W : World) (v : Value) (ks : List Int) : Prop :=
  (v = .slice none 0 0 ∧ ks = []) ∨ ∃ b o c, v = .slice (some ⟨b, o, none⟩) ks.length c ∧ ∀ i (h : i < ks.length), W.cell? ⟨b, o + i, none⟩ = some (.int .i64 ks[i])
theorem InV.kept {W W' : World} {v : Value} {l : List Int} (h : InV W v l) (hk : Below W.heap.size W W') : InV W' v l := by
  rcases h with h | ⟨b, o, c, e, h⟩
  · exact .inl h
  · exact .inr ⟨b, o, c, e, fun i hi => bcell hk (h i hi)⟩
theorem InV.open {W : World} {v : Value} {l : List Int} (h : InV W v l) : ∃ a c, v = .slice a l.length c ∧ ∀ i (hi : i < l.length), ∃ b o, a = some ⟨b, o, none⟩ ∧ W.cell? ⟨b, o + i, none⟩ = some (.int .i64 l[i]) := by
  rcases h with ⟨rfl, rfl⟩ | ⟨b, o, c, rfl, h⟩
  · exact ⟨none, 0, rfl, fun i hi => by cases hi⟩
  · exact ⟨_, c, rfl, fun i hi => ⟨b, o, rfl, h i hi⟩⟩
set_option maxRecDepth 100000 in
set_option maxHeartbeats 2000000 in
theorem index_any (l : List Int) (hz : l.length ≤ 1000000) (x : Int) (w : World) (va : Value) (ha : InV w va l) :
    Calls Try.prog 43 #[va, .int .i64 x] w fun e w' => ∃ r : Int, e = .returned (.int .i64 r) ∧ (0 ≤ r ↔ x ∈ l) ∧ w' = w := by
  obtain ⟨a1, c1, rfl, -⟩ := ha.open
  have H1 : Hid (InV w (.slice a1 l.length c1) l) := ⟨ha⟩
  clear ha
  go_enter Try.func43, Try.ntmps43
  go_wp2
  go_loopw [8] (fun i wr => ∃ j : Nat, i = .int .i64 j ∧ j ≤ l.length ∧ wr = w ∧ Hid (∀ i (h : i < l.length), i < j → l[i] ≠ x)) (fun i _ => l.length - (intOf i).toNat)
  case atStart => exact ⟨0, rfl, by omega, rfl, ⟨fun _ _ h => by omega⟩⟩
  case round =>
    obtain ⟨j, rfl, hj, rfl, HN⟩ := hrel
    by_cases hlt : j < l.length
    · have hlt' : (j : Int) < (l.length : Int) := by omega
      obtain ⟨_, _, e1, g1⟩ := H1.out.open
      cases e1
      obtain ⟨b1, o1, rfl, p0⟩ := g1 j hlt
      obtain ⟨y, hy⟩ : ∃ y, l[j] = y := ⟨_, rfl⟩
      rw [hy] at p0
      have HY : Hid (l[j] = y) := ⟨hy⟩
      clear g1 hy
      by_cases hk : x = y
      · have hk' : (x == y) = true := by simp [hk]
        have HKK : Hid (x = y) := ⟨hk⟩
        clear hk
        go_wp2
        go_ret
        refine ⟨j, rfl, ⟨fun _ => ?_, fun _ => by omega⟩, rfl⟩
        rw [HKK.out, ← HY.out]
        exact List.getElem_mem _
      · have hk' : (x == y) = false := by simp [hk]
        have HKK : Hid (¬ x = y) := ⟨hk⟩
        clear hk
        go_wp2
        go_roundw
        case rel =>
          refine ⟨j + 1, by go_num, by omega, trivial, ⟨fun i h hij => ?_⟩⟩
          rcases Nat.lt_or_ge i j with h1 | h1
          · exact HN.out i h h1
          · obtain rfl : i = j := by omega
            rw [HY.out]
            exact fun e => HKK.out e.symm
        case measure => simp [intOf]; omega
    · have hlt' : ¬ (j : Int) < (l.length : Int) := by omega
      go_wp2
      go_ret
      refine ⟨-1, rfl, ⟨fun h => by omega, fun h => ?_⟩, rfl⟩
      obtain ⟨i, hi, e⟩ := List.getElem_of_mem h
      exact (HN.out i hi (by omega) e).elim
theorem contains_any (l : List Int) (hz : l.length ≤ 1000000) (x : Int) (w : World) (va : Value) (ha : InV w va l) :
    Calls Try.prog 39 #[va, .int .i64 x] w fun e w' => e = .returned (.bool (decide (x ∈ l))) ∧ w' = w := by
  have IC := index_any l hz x w va ha
  obtain ⟨a1, c1, rfl, -⟩ := ha.open
  clear ha
  go_enter Try.func39, Try.ntmps39
  go_wp2_with (go_at_call 43; refine IC.mono ?_; clear IC; rintro e w1 ⟨r, rfl, hr, rfl⟩)
  go_ret
  refine ⟨ret_bool ?_, rfl⟩
  rw [decide_eq_decide]
set_option maxRecDepth 100000 in
set_option maxHeartbeats 2000000 in
/-- a list of ints against one that reads the same: true -/
theorem ints_any (l : List Int) (hz : l.length ≤ 1000000) (w : World) (va vb : Value) (ha : InV w va l) (hb : InV w vb l) :
    Calls Try.prog 26 #[va, vb] w fun e w' => e = .returned (.bool true) ∧ Below w.heap.size w w' := by
  obtain ⟨a1, c1, rfl, -⟩ := ha.open
  obtain ⟨a2, c2, rfl, -⟩ := hb.open
  have H1 : Hid (InV w (.slice a1 l.length c1) l) := ⟨ha⟩
  have H2 : Hid (InV w (.slice a2 l.length c2) l) := ⟨hb⟩
  clear ha hb
  go_enter Try.func26, Try.ntmps26
  go_wp2
  go_loopw [5] (fun i wr => ∃ j : Nat, i = .int .i64 j ∧ j ≤ l.length ∧ Hid (Below w.heap.size w wr)) (fun i _ => l.length - (intOf i).toNat)
  case atStart => exact ⟨0, rfl, by omega, ⟨Below.refl _ _⟩⟩
  case round =>
    obtain ⟨j, rfl, hj, HB⟩ := hrel
    by_cases hlt : j < l.length
    · have hlt' : (j : Int) < (l.length : Int) := by omega
      obtain ⟨_, _, e1, g1⟩ := (H1.out.kept HB.out).open
      cases e1
      obtain ⟨b1, o1, rfl, p0⟩ := g1 j hlt
      obtain ⟨_, _, e2, g2⟩ := (H2.out.kept HB.out).open
      cases e2
      obtain ⟨b2, o2, rfl, q0⟩ := g2 j hlt
      obtain ⟨y, hy⟩ : ∃ y, l[j] = y := ⟨_, rfl⟩
      rw [hy] at p0 q0
      have hyy : (y != y) = false := by simp
      clear g1 g2 hy
      go_wp2
      go_region_held3 (fun w' => w'.cell? ⟨b1, o1 + j, none⟩ = some (.int .i64 y) ∧ w'.cell? ⟨b2, o2 + j, none⟩ = some (.int .i64 y)) (go_keep) (fail)
      go_wp2
      go_roundw
      case rel => exact ⟨j + 1, by go_num, by omega, ⟨HB.out.drew⟩⟩
      case measure => simp [intOf]; omega
    · have hlt' : ¬ (j : Int) < (l.length : Int) := by omega
      go_wp2
      go_ret
      exact ⟨rfl, HB.out⟩
def kidsF (n : Nd) (ks : List Int) : List Nd := n.kids.filter (fun x => decide (x.kind ∈ ks))
theorem kidsF_len (n : Nd) (ks : List Int) : (kidsF n ks).length ≤ n.sz := by
  have h1 := List.length_filter_le (fun x : Nd => decide (x.kind ∈ ks)) n.kids
  have h2 := szL_len n.kids
  have h3 := n.sz_eq
  unfold kidsF
  omega
set_option maxRecDepth 100000 in
set_option maxHeartbeats 2000000 in
theorem kids_any (n : Nd) (hz : n.sz ≤ 1000000) (ks : List Int) (hk0 : ks.length ≤ 1000000) (w : World) (va vk : Value) (B : BP) (ha : SlV B w va n.kids) (hv : InV w vk ks) :
    Calls Try.prog 22 #[aggN n va, vk] w fun e w' => ∃ a c, e = .returned (.slice a (kidsF n ks).length c) ∧ SlV (Bf w.heap.size) w' (.slice a (kidsF n ks).length c) (kidsF n ks) ∧ Below w.heap.size w w' := by
  obtain ⟨a1, c1, rfl, hl1, -⟩ := ha.open
  obtain ⟨ak, ck, rfl, -⟩ := hv.open
  have H1 : Hid (SlV B w (.slice a1 n.kids.length c1) n.kids) := ⟨ha⟩
  have H2 : Hid (InV w (.slice ak ks.length ck) ks) := ⟨hv⟩
  have hkl : (kidsF n ks).length ≤ 1000000 := Nat.le_trans (kidsF_len n ks) hz
  have hnl : n.kids.length ≤ 1000000 := by have h2 := szL_len n.kids; have h3 := n.sz_eq; omega
  have HZK : Hid (∀ x ∈ n.kids, x.sz ≤ 1000000) := ⟨fun x hx => by have := szL_mem hx; have h3 := n.sz_eq; omega⟩
  clear ha hv hz
  obtain ⟨i24, i1, i2, i3, i4⟩ := info24_ex
  have HI : Hid (Try.prog.info? 24 = some i24 ∧ i24.zero = some (.agg #[.int .i64 0, .int .i64 0, .int .i64 0, .string ⟨#[]⟩, .slice none 0 0]) ∧ i24.size = 5 ∧ i24.bytes = 64) := ⟨i1, i2, i3, i4⟩
  clear i1 i2 i3 i4
  obtain ⟨R, hR⟩ : ∃ y, kidsF n ks = y := ⟨_, rfl⟩
  rw [hR]
  rw [hR] at hkl
  have HRR : Hid (kidsF n ks = R) := ⟨hR⟩
  clear hR
  have hb0 : Below w.heap.size w (w.alloc (.cells #[.int .i64 n.kind, .int .i64 n.fr, .int .i64 n.to, .string n.text, .slice a1 n.kids.length c1] 24)) := below_alloc _ _
  simp only [aggN, encN]
  go_enter Try.func22, Try.ntmps22
  go_wp2
  have HB0 : Hid (Below w.heap.size w (w.alloc (.cells #[.int .i64 n.kind, .int .i64 n.fr, .int .i64 n.to, .string n.text, .slice a1 n.kids.length c1] 24))) := ⟨hb0⟩
  generalize (w.alloc (.cells #[.int .i64 n.kind, .int .i64 n.fr, .int .i64 n.to, .string n.text, .slice a1 n.kids.length c1] 24)) = W0 at *
  clear hb0
  go_loopw [5, 11] (fun u i wr => ∃ j : Nat, i = .int .i64 j ∧ j ≤ n.kids.length ∧ Hid (RowN w.heap.size (Bf w.heap.size) wr u ((n.kids.take j).filter (fun x => decide (x.kind ∈ ks)))) ∧ Hid (Below w.heap.size w wr)) (fun _ i _ => n.kids.length - (intOf i).toNat)
  case atStart => exact ⟨0, rfl, by omega, ⟨by simpa using RowN.nil _ _ _⟩, HB0⟩
  case round =>
    clear HB0
    obtain ⟨j, rfl, hj, HR, HBw⟩ := hrel
    by_cases hlt : j < n.kids.length
    · have hlt' : (j : Int) < (n.kids.length : Int) := by omega
      obtain ⟨_, _, e1, _, g1⟩ := (H1.out.kept HBw.out).open
      cases e1
      obtain ⟨b1, o1, rfl, _, l1⟩ := g1 j hlt
      obtain ⟨x, hx⟩ : ∃ x, n.kids[j] = x := ⟨_, rfl⟩
      have mx : x ∈ n.kids := hx ▸ List.getElem_mem _
      have HT : Hid ((n.kids.take (j + 1)).filter (fun x => decide (x.kind ∈ ks)) = (n.kids.take j).filter (fun x => decide (x.kind ∈ ks)) ++ (if x.kind ∈ ks then [x] else [])) := by
        refine ⟨?_⟩
        rw [List.take_succ_eq_append_getElem hlt, hx, List.filter_append]
        by_cases h : x.kind ∈ ks <;> simp [h]
      obtain ⟨lj, hlj⟩ : ∃ y, (n.kids.take j).filter (fun x => decide (x.kind ∈ ks)) = y := ⟨_, rfl⟩
      have hjl : lj.length ≤ j := by rw [← hlj]; exact Nat.le_trans (List.length_filter_le _ _) (by simp; omega)
      rw [hlj] at HR HT
      rw [hx] at l1
      obtain ⟨p0, p1, p2, p3, vx, p4, sx⟩ := lies_iff.1 l1
      obtain ⟨a2, c2, rfl⟩ := HR.out.slice
      obtain ⟨vs, hvl, hown, hks⟩ := HR.out.ex
      have IC := fresh_any x (HZK.out x mx) (wr.alloc (.cells (encN x vx) 24)) vx B (sx.kept (below_alloc _ _))
      have CC := contains_any ks hk0 x.kind (wr.alloc (.cells (encN x vx) 24)) _ ((H2.out.kept HBw.out).kept (below_alloc _ _))
      obtain ⟨ax, cx, rfl⟩ := sx.slice
      have HK : Hid (∀ i (hi : i < lj.length), SlV (fun b o ob => Bf w.heap.size b o ob ∧ (Value.slice a2 lj.length c2).ownBlock ≠ some b) wr (vs[i]'(hvl ▸ hi)) lj[i].kids) := ⟨hks⟩
      have HO : Hid (wr.ownsRow w.heap.size 24 5 (.slice a2 lj.length c2) lj.length (flatV lj vs)) := ⟨hown⟩
      have hwr := HBw.out.size
      simp only [aggN, encN] at IC CC
      clear hks hown l1 g1 hlj sx
      by_cases hk : x.kind ∈ ks
      · rw [decide_eq_true hk] at CC
        have HKK : Hid (x.kind ∈ ks) := ⟨hk⟩
        clear hk
        go_wp2_with (first
          | (go_at_call 39; refine CC.mono ?_; clear CC; rintro e w0 ⟨rfl, rfl⟩)
          | (go_at_call 34; refine IC.mono ?_; clear IC; rintro e w1 ⟨a3, c3, rfl, hS1, hB1⟩; have hz1 := hB1.size; simp only [World.size_alloc] at hz1; have HS1 : Hid (SlV _ _ _ _) := ⟨hS1⟩; have HB1 : Hid (Below wr.heap.size wr w1) := ⟨bthen (below_alloc _ _) hB1⟩; clear hS1 hB1)
          | (at_builtin; refine wpList_append_lies _ rfl _ _ _ rfl w.heap.size 24 i24 _ 5 64 Try.underlying22 HI.out.1 HI.out.2.1 HI.out.2.2.1 HI.out.2.2.2 rfl (by omega) (.slice a2 lj.length c2) lj.length _ rfl (own_kept HO.out (bthen HB1.out (below_alloc _ _))) ⟨w1.heap.size, 0, none⟩ 1 1 [.int .i64 x.kind, .int .i64 x.fr, .int .i64 x.to, .string x.text, .slice a3 x.kids.length c3] rfl rfl (news24 w1 _ _ _ _ _) (by simp [Value.oneCell']) (by omega) (by unfold maxLen; omega) (by omega) (by simp; omega) (w1.heap.size + 1) (by simp) ?_; intro gg cap w2 hown2 hgrow hat hlt1))
        go_roundw
        case rel =>
          have hB2 : Below w.heap.size w w2 := by
            have h2 : Kx (fun b => w.heap.size ≤ b) (w1.alloc (.cells #[.int .i64 x.kind, .int .i64 x.fr, .int .i64 x.to, .string x.text, .slice a3 x.kids.length c3] 24)) w2 := (grownBy_kx hgrow).mono (fun b _ e => (HO.out.lt b e).1)
            exact (HBw.out.trans (bthen HB1.out (below_alloc _ _) |>.mono hwr)).trans (h2.below (by simp; omega) (fun b h h' => by omega))
          refine ⟨j + 1, by go_num, by omega, ⟨?_⟩, ⟨hB2⟩⟩
          rw [HT.out, if_pos HKK.out]
          refine RowN.push hvl (W := w1.alloc (.cells #[.int .i64 x.kind, .int .i64 x.fr, .int .i64 x.to, .string x.text, .slice a3 x.kids.length c3] 24)) (fun i hi => (HK.out i hi).kept (bthen HB1.out (below_alloc _ _))) ?_ hgrow (hat.imp id (fun e => by simp [e])) hown2
          refine (HS1.out.kept (below_alloc _ _)).with (fun b o ob _ h1 => ⟨Bf.mono (by simp; omega) _ _ _ h1, fun e => ?_⟩)
          have h3 := (HO.out.lt b e).2
          have h4 := h1.1
          simp at h4
          omega
        case measure => simp [intOf]; omega
      · rw [decide_eq_false hk] at CC
        have HKK : Hid (¬ x.kind ∈ ks) := ⟨hk⟩
        clear hk
        go_wp2_with (go_at_call 39; refine CC.mono ?_; clear CC; rintro e w0 ⟨rfl, rfl⟩)
        go_roundw
        case rel => exact ⟨j + 1, by go_num, by omega, ⟨by rw [HT.out, if_neg HKK.out, List.append_nil]; exact HR.out.kept (below_alloc _ _)⟩, ⟨HBw.out.trans ((below_alloc _ _).mono hwr)⟩⟩
        case measure => simp [intOf]; omega
    · have hlt' : ¬ (j : Int) < (n.kids.length : Int) := by omega
      have hR' := HR.out
      have e : n.kids.filter (fun x => decide (x.kind ∈ ks)) = R := HRR.out
      rw [List.take_of_length_le (by omega), e] at hR'
      obtain ⟨a2, c2, rfl⟩ := hR'.slice
      have HR2 : Hid (RowN _ _ _ _ _) := ⟨hR'⟩
      clear hR' HR e
      go_wp2
      go_ret
      exact ⟨a2, c2, rfl, HR2.out.read (by omega) (fun _ _ _ _ h => h) (fun b cur _ h1 _ => ⟨h1, rfl, cur, rfl⟩), HBw.out⟩
end Go.Proofs.Ytgknigjpdnfkdaa
