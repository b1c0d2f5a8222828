/-
  The reference for tree.Kids.
-/
import Derived.Test.YtgknigjpdnfkdaaInts
import Derived.Deep.QuietTactic
import Derived.WalkSmall
namespace Go.Proofs.Ytgknigjpdnfkdaa
open Go.RowKit
attribute [local go_sem ↓] Go.wp_at_zero Go.wp_at_succ
set_option maxRecDepth 100000 in
set_option maxHeartbeats 2000000 in
theorem rkids_any (n : Nd) (hz : n.sz ≤ 1000000) (ks : List Int) (hk0 : ks.length ≤ 1000000) (w : World) (va vk : Value) (B : BP) (ha : SlV B w va n.kids) (hv : InV w vk ks) :
    Calls Try.prog 23 #[aggN n va, vk] w fun e w' => ∃ a c, e = .returned (.slice a (kidsF n ks).length c) ∧ SlV (fun _ _ _ => True) w' (.slice a (kidsF n ks).length c) (kidsF n ks) ∧ Below w.heap.size w w' := by
  have hlow := ha.low
  obtain ⟨a1, c1, rfl, hl1, -⟩ := ha.open
  obtain ⟨ak, ck, rfl, -⟩ := hv.open
  have H1 : Hid (SlV (Bl w.heap.size) w (.slice a1 n.kids.length c1) n.kids) := ⟨hlow⟩
  have H2 : Hid (InV w (.slice ak ks.length ck) ks) := ⟨hv⟩
  have hkl : (kidsF n ks).length ≤ 1000000 := Nat.le_trans (kidsF_len n ks) hz
  have hnl : n.kids.length ≤ 1000000 := by have h2 := szL_len n.kids; have h3 := n.sz_eq; omega
  clear ha hv hz hlow
  obtain ⟨i24, i1, i2, i3, i4⟩ := info24_ex
  have HI : Hid (Try.prog.info? 24 = some i24 ∧ i24.zero = some (.agg #[.int .i64 0, .int .i64 0, .int .i64 0, .string ⟨#[]⟩, .slice none 0 0]) ∧ i24.size = 5 ∧ i24.bytes = 64) := ⟨i1, i2, i3, i4⟩
  clear i1 i2 i3 i4
  obtain ⟨R, hR⟩ : ∃ y, kidsF n ks = y := ⟨_, rfl⟩
  rw [hR]
  rw [hR] at hkl
  have HRR : Hid (kidsF n ks = R) := ⟨hR⟩
  clear hR
  have hb0 : Below w.heap.size w (w.alloc (.cells #[.int .i64 n.kind, .int .i64 n.fr, .int .i64 n.to, .string n.text, .slice a1 n.kids.length c1] 24)) := below_alloc _ _
  have k1 : (w.alloc (.cells #[.int .i64 n.kind, .int .i64 n.fr, .int .i64 n.to, .string n.text, .slice a1 n.kids.length c1] 24)).heap[w.heap.size]? = some (.cells #[.int .i64 n.kind, .int .i64 n.fr, .int .i64 n.to, .string n.text, .slice a1 n.kids.length c1] 24) := heap_alloc_new _ _
  have hz0 : (w.alloc (.cells #[.int .i64 n.kind, .int .i64 n.fr, .int .i64 n.to, .string n.text, .slice a1 n.kids.length c1] 24)).heap.size = w.heap.size + 1 := by simp
  simp only [aggN, encN]
  go_enter Try.func23, Try.ntmps23
  go_wp2
  have HB0 : Hid (Below w.heap.size w (w.alloc (.cells #[.int .i64 n.kind, .int .i64 n.fr, .int .i64 n.to, .string n.text, .slice a1 n.kids.length c1] 24))) := ⟨hb0⟩
  have HK1 : Hid ((w.alloc (.cells #[.int .i64 n.kind, .int .i64 n.fr, .int .i64 n.to, .string n.text, .slice a1 n.kids.length c1] 24)).heap[w.heap.size]? = some (.cells #[.int .i64 n.kind, .int .i64 n.fr, .int .i64 n.to, .string n.text, .slice a1 n.kids.length c1] 24)) := ⟨k1⟩
  generalize (w.alloc (.cells #[.int .i64 n.kind, .int .i64 n.fr, .int .i64 n.to, .string n.text, .slice a1 n.kids.length c1] 24)) = W0 at *
  clear hb0 k1
  go_loopw [5, 6] (fun u i wr => ∃ j : Nat, i = .int .i64 j ∧ j ≤ n.kids.length ∧ Hid (RowN W0.heap.size (Bl W0.heap.size) wr u ((n.kids.take j).filter (fun x => decide (x.kind ∈ ks)))) ∧ Hid (Below W0.heap.size W0 wr)) (fun _ i _ => n.kids.length - (intOf i).toNat)
  case atStart => exact ⟨0, rfl, by omega, ⟨by simpa using RowN.nil _ _ _⟩, ⟨Below.refl _ _⟩⟩
  case round =>
    obtain ⟨j, rfl, hj, HR, HBw⟩ := hrel
    have x4 := cell_of ((HBw.out.block _ (by omega)).trans HK1.out) 4
    simp only [List.getElem?_toArray, List.getElem?_cons_zero, List.getElem?_cons_succ] at x4
    by_cases hlt : j < n.kids.length
    · have hlt' : (j : Int) < (n.kids.length : Int) := by omega
      obtain ⟨_, _, e1, _, g1⟩ := (H1.out.kept (bthen HB0.out HBw.out)).open
      cases e1
      obtain ⟨b1, o1, rfl, _, l1⟩ := g1 j hlt
      obtain ⟨x, hx⟩ : ∃ x, n.kids[j] = x := ⟨_, rfl⟩
      have HT : Hid ((n.kids.take (j + 1)).filter (fun x => decide (x.kind ∈ ks)) = (n.kids.take j).filter (fun x => decide (x.kind ∈ ks)) ++ (if x.kind ∈ ks then [x] else [])) := by
        refine ⟨?_⟩
        rw [List.take_succ_eq_append_getElem hlt, hx, List.filter_append]
        by_cases h : x.kind ∈ ks <;> simp [h]
      obtain ⟨lj, hlj⟩ : ∃ y, (n.kids.take j).filter (fun x => decide (x.kind ∈ ks)) = y := ⟨_, rfl⟩
      have hjl : lj.length ≤ j := by rw [← hlj]; exact Nat.le_trans (List.length_filter_le _ _) (by simp; omega)
      rw [hlj] at HR HT
      rw [hx] at l1
      have HL1 : Hid (x.lies (Bl w.heap.size) wr b1 (o1 + j * 5)) := ⟨l1⟩
      obtain ⟨a2, c2, rfl⟩ := HR.out.slice
      have hwr := HBw.out.size
      clear l1 g1 hlj
      go_wp2
      rename World => wo
      go_loopw [7, 8] (fun s i ws => ∃ k : Nat, i = .int .i64 k ∧ k ≤ ks.length ∧ (∃ q : Bool, s = .bool q ∧ Hid (q = decide (x.kind ∈ ks.take k))) ∧ Hid (Below wo.heap.size wo ws)) (fun _ i _ => ks.length - (intOf i).toNat)
      case atStart => exact ⟨0, rfl, by omega, ⟨false, rfl, ⟨by simp⟩⟩, ⟨Below.refl _ _⟩⟩
      case round =>
        obtain ⟨k, rfl, hk, ⟨q, rfl, HQ⟩, HBs⟩ := hrel
        have y4 := bcell HBs.out x4
        obtain ⟨p0, p1, p2, p3, vx, p4, sx⟩ := lies_iff.1 (lies_to (X := fun _ => False) (Kx.of_whole HBs.out) (fun _ _ _ h => h) (fun _ _ _ _ h => h) _ _ _ (fun h => h) HL1.out)
        obtain ⟨ax, cx, rfl⟩ := sx.slice
        by_cases hlk : k < ks.length
        · have hlk' : (k : Int) < (ks.length : Int) := by omega
          obtain ⟨_, _, e2, g2⟩ := (H2.out.kept (bthen HB0.out (bthen HBw.out HBs.out))).open
          cases e2
          obtain ⟨b2, o2, rfl, z0⟩ := g2 k hlk
          obtain ⟨y, hy⟩ : ∃ y, ks[k] = y := ⟨_, rfl⟩
          rw [hy] at z0
          have HT2 : Hid (ks.take (k + 1) = ks.take k ++ [y]) := ⟨by rw [List.take_succ_eq_append_getElem hlk, hy]⟩
          clear g2 hy sx
          cases q
          · by_cases hyk : y = x.kind
            · have hyk' : (y == x.kind) = true := by simp [hyk]
              have HYK : Hid (y = x.kind) := ⟨hyk⟩
              clear hyk
              go_wp2
              go_region_held3 (fun w' => w'.cell? ⟨b2, o2 + k, none⟩ = some (.int .i64 y) ∧ w'.cell? ⟨w.heap.size, 4, none⟩ = some (.slice (some ⟨b1, o1, none⟩) n.kids.length c1) ∧ w'.cell? ⟨b1, o1 + j * 5, none⟩ = some (.int .i64 x.kind)) (go_keep) (fail)
              go_wp2
              go_roundw
              case rel => exact ⟨k + 1, by go_num, by omega, ⟨true, rfl, ⟨by rw [HT2.out, HYK.out]; simp⟩⟩, ⟨HBs.out.drew⟩⟩
              case measure => simp [intOf]; omega
            · have hyk' : (y == x.kind) = false := by simp [hyk]
              have HYK : Hid (¬ y = x.kind) := ⟨hyk⟩
              clear hyk
              go_wp2
              go_region_held3 (fun w' => w'.cell? ⟨b2, o2 + k, none⟩ = some (.int .i64 y) ∧ w'.cell? ⟨w.heap.size, 4, none⟩ = some (.slice (some ⟨b1, o1, none⟩) n.kids.length c1) ∧ w'.cell? ⟨b1, o1 + j * 5, none⟩ = some (.int .i64 x.kind)) (go_keep) (fail)
              go_wp2
              go_roundw
              case rel =>
                refine ⟨k + 1, by go_num, by omega, ⟨false, rfl, ⟨?_⟩⟩, ⟨HBs.out.drew⟩⟩
                have h1 : ¬ x.kind ∈ ks.take k := fun h => by have := HQ.out; rw [decide_eq_true h] at this; cases this
                rw [HT2.out]
                refine (decide_eq_false ?_).symm
                simp only [List.mem_append, List.mem_singleton]
                exact fun h => h.elim h1 (fun e => HYK.out e.symm)
              case measure => simp [intOf]; omega
          · go_wp2
            go_quiet (fail)
            go_wp2
            go_roundw
            case rel =>
              refine ⟨k + 1, by go_num, by omega, ⟨true, rfl, ⟨?_⟩⟩, ⟨below_drewN HBs.out _⟩⟩
              have h1 : x.kind ∈ ks.take k := of_decide_eq_true HQ.out.symm
              rw [HT2.out]
              exact (decide_eq_true (List.mem_append_left _ h1)).symm
            case measure => simp [intOf]; omega
        · have hlk' : ¬ (k : Int) < (ks.length : Int) := by omega
          have HQ2 : Hid (q = decide (x.kind ∈ ks)) := ⟨by rw [HQ.out, List.take_of_length_le (by omega)]⟩
          have HR3 := HR.out.kept HBs.out
          obtain ⟨vs, hvl, hown, hks⟩ := HR3.ex
          have HSX : Hid (SlV (Bl W0.heap.size) wr (.slice ax x.kids.length cx) x.kids) := ⟨sx.with (fun b o ob _ h => by have h' : b < w.heap.size := h; show b < W0.heap.size; omega)⟩
          have HK : Hid (∀ i (hi : i < lj.length), SlV (fun b o ob => Bl W0.heap.size b o ob ∧ (Value.slice a2 lj.length c2).ownBlock ≠ some b) wr (vs[i]'(hvl ▸ hi)) lj[i].kids) := ⟨hks⟩
          have HO : Hid (wr.ownsRow W0.heap.size 24 5 (.slice a2 lj.length c2) lj.length (flatV lj vs)) := ⟨hown⟩
          have HBws : Hid (Below W0.heap.size W0 wr) := ⟨bthen HBw.out HBs.out⟩
          have hws := HBws.out.size
          have HR3' : Hid (RowN W0.heap.size (Bl W0.heap.size) wr (.slice a2 lj.length c2) lj) := ⟨HR3⟩
          clear hks hown sx HQ HR3
          cases q
          · go_wp2
            go_roundw
            case rel => exact ⟨j + 1, by go_num, by omega, ⟨by rw [HT.out, if_neg (of_decide_eq_false HQ2.out.symm), List.append_nil]; exact HR3'.out⟩, HBws⟩
            case measure => simp [intOf]; omega
          · go_wp2_with (at_builtin; refine wpList_append_lies _ rfl _ _ _ rfl W0.heap.size 24 i24 _ 5 64 Try.underlying22 HI.out.1 HI.out.2.1 HI.out.2.2.1 HI.out.2.2.2 rfl (by omega) (.slice a2 lj.length c2) lj.length _ rfl (own_kept HO.out (below_alloc _ _)) ⟨wr.heap.size, 0, none⟩ 1 1 [.int .i64 x.kind, .int .i64 x.fr, .int .i64 x.to, .string x.text, .slice ax x.kids.length cx] rfl rfl (news24 wr _ _ _ _ _) (by simp [Value.oneCell']) (by omega) (by unfold maxLen; omega) (by omega) (by simp; omega) (wr.heap.size + 1) (by simp) ?_; intro gg cap w2 hown2 hgrow hat hlt1)
            go_roundw
            case rel =>
              have hB2 : Below W0.heap.size W0 w2 := by
                have h2 : Kx (fun b => W0.heap.size ≤ b) (wr.alloc (.cells #[.int .i64 x.kind, .int .i64 x.fr, .int .i64 x.to, .string x.text, .slice ax x.kids.length cx] 24)) w2 := (grownBy_kx hgrow).mono (fun b _ e => (HO.out.lt b e).1)
                exact (HBws.out.trans ((below_alloc wr _).mono hws)).trans (h2.below (by simp; omega) (fun b h h' => by omega))
              have hR2 : RowN W0.heap.size (Bl W0.heap.size) w2 (.slice (some ⟨gg, 0, none⟩) (lj.length + 1) cap) (lj ++ [x]) := by
                refine RowN.push hvl (W := wr.alloc (.cells #[.int .i64 x.kind, .int .i64 x.fr, .int .i64 x.to, .string x.text, .slice ax x.kids.length cx] 24)) (fun i hi => (HK.out i hi).kept (below_alloc _ _)) ((HSX.out.kept (below_alloc _ _)).with (fun b o ob _ h1 => ⟨h1, fun e => by have := (HO.out.lt b e).1; have : b < W0.heap.size := h1; omega⟩)) hgrow (hat.imp id (fun e => by simp [e])) hown2
              refine ⟨j + 1, by go_num, by omega, ⟨?_⟩, ⟨hB2⟩⟩
              rw [HT.out, if_pos (of_decide_eq_true HQ2.out.symm)]
              exact hR2
            case measure => simp [intOf]; omega
    · have hlt' : ¬ (j : Int) < (n.kids.length : Int) := by omega
      have hR' := HR.out
      have e : n.kids.filter (fun x => decide (x.kind ∈ ks)) = R := HRR.out
      rw [List.take_of_length_le (by omega), e] at hR'
      obtain ⟨a2, c2, rfl⟩ := hR'.slice
      have HR2 : Hid (RowN _ _ _ _ _) := ⟨hR'⟩
      clear hR' HR e
      go_wp2
      go_ret
      exact ⟨a2, c2, rfl, HR2.out.read (by omega) (fun _ _ _ _ _ => trivial) (fun _ _ _ _ _ => trivial), bthen HB0.out HBw.out⟩
end Go.Proofs.Ytgknigjpdnfkdaa
