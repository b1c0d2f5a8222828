/-
  The reference: All, Some, Idents, Kids.
-/
import Derived.Test.YtgknigjpdnfkdaaFlat
namespace Go.Proofs.Ytgknigjpdnfkdaa
open Go.RowKit
def AL (n : Nd) : List Nd := (n.flat 0).map Prod.snd
theorem AL_len (n : Nd) : (AL n).length = n.sz := snd_len n 0
set_option maxRecDepth 100000 in
set_option maxHeartbeats 2000000 in
theorem rall_any (n : Nd) (hz : n.sz ≤ 1000000) (w : World) (va : Value) (B : BP) (ha : SlV B w va n.kids) :
    Calls Try.prog 31 #[aggN n va] w fun e w' => ∃ a c, e = .returned (.slice a (AL n).length c) ∧ RowN w.heap.size (Bl w.heap.size) w' (.slice a (AL n).length c) (AL n) ∧ Below w.heap.size w w' := by
  have IC := flat_any w.heap.size n 0 (w.alloc (.cells (encN n va) 24)) va (.slice none 0 0) (.slice none 0 0) [] [] (by simp) (ha.low.kept (below_alloc _ _)) (RowN.nil _ _ _) (World.ownsRow_nil _ _ _ _) rfl (by simpa using hz) (by have := dep_le_sz n; omega)
  obtain ⟨a1, c1, rfl, -, -⟩ := ha.open
  clear ha
  rw [List.nil_append, List.nil_append] at IC
  obtain ⟨L, hL⟩ : ∃ y, AL n = y := ⟨_, rfl⟩
  have hL' := hL
  unfold AL at hL'
  rw [hL'] at IC
  rw [hL]
  generalize (n.flat 0).map (fun e => (e.1 : Int)) = D at IC
  simp only [aggN, encN, Int.natCast_zero] at IC ⊢
  clear hL hL' hz
  go_enter Try.func31, Try.ntmps31
  go_wp2_with (go_at_call 10; refine IC.mono ?_; clear IC; rintro e w1 ⟨a2, c2, a3, c3, rfl, hq⟩)
  go_ret
  refine ⟨a2, c2, rfl, hq.r1, ?_⟩
  have h1 : Below w.heap.size w (w.alloc (.cells (encN n (.slice a1 n.kids.length c1)) 24)) := below_alloc _ _
  exact h1.trans (hq.keep.below (by simp) (fun b _ h => by rcases h with h | h <;> simp [Value.ownBlock] at h))
set_option maxRecDepth 100000 in
set_option maxHeartbeats 2000000 in
theorem rsome_any (l : List Nd) (hz : l.length ≤ 1000000) (k : Int) (w : World) (va : Value) (B : BP) (ha : SlV B w va l) :
    Calls Try.prog 40 #[va, .int .i64 k] w fun e w' => ∃ a c, e = .returned (.slice a (l.filter (fun x => x.kind == k)).length c) ∧ RowN w.heap.size (Bl w.heap.size) w' (.slice a (l.filter (fun x => x.kind == k)).length c) (l.filter (fun x => x.kind == k)) ∧ Below w.heap.size w w' := by
  have hlow := ha.low
  obtain ⟨a1, c1, rfl, hl1, -⟩ := ha.open
  have H1 : Hid (SlV (Bl w.heap.size) w (.slice a1 l.length c1) l) := ⟨hlow⟩
  clear ha hlow
  obtain ⟨i24, i1, i2, i3, i4⟩ := info24_ex
  have HI : Hid (Try.prog.info? 24 = some i24 ∧ i24.zero = some (.agg #[.int .i64 0, .int .i64 0, .int .i64 0, .string ⟨#[]⟩, .slice none 0 0]) ∧ i24.size = 5 ∧ i24.bytes = 64) := ⟨i1, i2, i3, i4⟩
  clear i1 i2 i3 i4
  obtain ⟨R, hR⟩ : ∃ y, l.filter (fun x => x.kind == k) = y := ⟨_, rfl⟩
  rw [hR]
  have HRR : Hid (l.filter (fun x => x.kind == k) = R) := ⟨hR⟩
  clear hR
  go_enter Try.func40, Try.ntmps40
  go_wp2
  go_loopw [5, 6] (fun u i wr => ∃ j : Nat, i = .int .i64 j ∧ j ≤ l.length ∧ Hid (RowN w.heap.size (Bl w.heap.size) wr u ((l.take j).filter (fun x => x.kind == k))) ∧ Hid (Below w.heap.size w wr)) (fun _ i _ => l.length - (intOf i).toNat)
  case atStart => exact ⟨0, rfl, by omega, ⟨by simpa using RowN.nil _ _ _⟩, ⟨Below.refl _ _⟩⟩
  case round =>
    obtain ⟨j, rfl, hj, HR, HBw⟩ := hrel
    by_cases hlt : j < l.length
    · have hlt' : (j : Int) < (l.length : Int) := by omega
      obtain ⟨_, _, e1, _, g1⟩ := (H1.out.kept HBw.out).open
      cases e1
      obtain ⟨b1, o1, rfl, _, l1⟩ := g1 j hlt
      obtain ⟨x, hx⟩ : ∃ x, l[j] = x := ⟨_, rfl⟩
      have HT : Hid ((l.take (j + 1)).filter (fun x => x.kind == k) = (l.take j).filter (fun x => x.kind == k) ++ (if x.kind = k then [x] else [])) := by
        refine ⟨?_⟩
        rw [List.take_succ_eq_append_getElem hlt, hx, List.filter_append]
        by_cases h : x.kind = k <;> simp [h]
      obtain ⟨lj, hlj⟩ : ∃ y, (l.take j).filter (fun x => x.kind == k) = y := ⟨_, rfl⟩
      have hjl : lj.length ≤ j := by rw [← hlj]; exact Nat.le_trans (List.length_filter_le _ _) (by simp; omega)
      rw [hlj] at HR HT
      rw [hx] at l1
      obtain ⟨p0, p1, p2, p3, vx, p4, sx⟩ := lies_iff.1 l1
      obtain ⟨a2, c2, rfl⟩ := HR.out.slice
      obtain ⟨vs, hvl, hown, hks⟩ := HR.out.ex
      obtain ⟨ax, cx, rfl⟩ := sx.slice
      have HSX : Hid (SlV (Bl w.heap.size) wr (.slice ax x.kids.length cx) x.kids) := ⟨sx⟩
      have HK : Hid (∀ i (hi : i < lj.length), SlV (fun b o ob => Bl w.heap.size b o ob ∧ (Value.slice a2 lj.length c2).ownBlock ≠ some b) wr (vs[i]'(hvl ▸ hi)) lj[i].kids) := ⟨hks⟩
      have HO : Hid (wr.ownsRow w.heap.size 24 5 (.slice a2 lj.length c2) lj.length (flatV lj vs)) := ⟨hown⟩
      have hwr := HBw.out.size
      clear hks hown l1 g1 hlj sx
      by_cases hk : x.kind = k
      · have hk' : (x.kind == k) = true := by simp [hk]
        have HKK : Hid (x.kind = k) := ⟨hk⟩
        clear hk
        go_wp2_with (at_builtin; refine wpList_append_lies _ rfl _ _ _ rfl w.heap.size 24 i24 _ 5 64 Try.underlying22 HI.out.1 HI.out.2.1 HI.out.2.2.1 HI.out.2.2.2 rfl (by omega) (.slice a2 lj.length c2) lj.length _ rfl (own_kept HO.out (below_alloc _ _)) ⟨wr.heap.size, 0, none⟩ 1 1 [.int .i64 x.kind, .int .i64 x.fr, .int .i64 x.to, .string x.text, .slice ax x.kids.length cx] rfl rfl (news24 wr _ _ _ _ _) (by simp [Value.oneCell']) (by omega) (by unfold maxLen; omega) (by omega) (by simp; omega) (wr.heap.size + 1) (by simp) ?_; intro gg cap w2 hown2 hgrow hat hlt1)
        go_roundw
        case rel =>
          have hB2 : Below w.heap.size w w2 := by
            have h2 : Kx (fun b => w.heap.size ≤ b) (wr.alloc (.cells #[.int .i64 x.kind, .int .i64 x.fr, .int .i64 x.to, .string x.text, .slice ax x.kids.length cx] 24)) w2 := (grownBy_kx hgrow).mono (fun b _ e => (HO.out.lt b e).1)
            exact (HBw.out.trans ((below_alloc wr _).mono hwr)).trans (h2.below (by simp; omega) (fun b h h' => by omega))
          have hR2 : RowN w.heap.size (Bl w.heap.size) w2 (.slice (some ⟨gg, 0, none⟩) (lj.length + 1) cap) (lj ++ [x]) := by
            refine RowN.push hvl (W := wr.alloc (.cells #[.int .i64 x.kind, .int .i64 x.fr, .int .i64 x.to, .string x.text, .slice ax x.kids.length cx] 24)) (fun i hi => (HK.out i hi).kept (below_alloc _ _)) ((HSX.out.kept (below_alloc _ _)).with (fun b o ob _ h1 => ⟨h1, fun e => by have := (HO.out.lt b e).1; have : b < w.heap.size := h1; omega⟩)) hgrow (hat.imp id (fun e => by simp [e])) hown2
          refine ⟨j + 1, by go_num, by omega, ⟨?_⟩, ⟨hB2⟩⟩
          rw [HT.out, if_pos HKK.out]
          exact hR2
        case measure => simp [intOf]; omega
      · have hk' : (x.kind == k) = false := by simp [hk]
        have HKK : Hid (¬ x.kind = k) := ⟨hk⟩
        clear hk
        go_wp2
        go_roundw
        case rel => exact ⟨j + 1, by go_num, by omega, ⟨by rw [HT.out, if_neg HKK.out, List.append_nil]; exact HR.out⟩, HBw⟩
        case measure => simp [intOf]; omega
    · have hlt' : ¬ (j : Int) < (l.length : Int) := by omega
      have hR' := HR.out
      rw [List.take_of_length_le (by omega), HRR.out] at hR'
      obtain ⟨a2, c2, rfl⟩ := hR'.slice
      have HR2 : Hid (RowN _ _ _ _ _) := ⟨hR'⟩
      clear hR' HR
      go_wp2
      go_ret
      exact ⟨a2, c2, rfl, HR2.out, HBw.out⟩
theorem bl_read {n0 : Nat} {W : World} {v : Value} {l : List Nd} (h : RowN n0 (Bl n0) W v l) (hm : l.length ≤ 1000000) : SlV (fun _ _ _ => True) W v l :=
  h.read (by omega) (fun _ _ _ _ _ => trivial) (fun _ _ _ _ _ => trivial)
theorem ridents_any (n : Nd) (hz : n.sz ≤ 1000000) (w : World) (va : Value) (B : BP) (ha : SlV B w va n.kids) :
    Calls Try.prog 25 #[aggN n va] w fun e w' => ∃ a c, e = .returned (.slice a (idk (n.flat 0)).length c) ∧ SlV (fun _ _ _ => True) w' (.slice a (idk (n.flat 0)).length c) (idk (n.flat 0)) ∧ Below w.heap.size w w' := by
  have C1 := rall_any n hz (w.alloc (.cells (encN n va) 24)) va B (ha.kept (below_alloc _ _))
  have C2 : ∀ w' v, SlV (fun _ _ _ => True) w' v (AL n) → _ := fun w' v h => rsome_any (AL n) (by rw [AL_len]; omega) 40 w' v _ h
  obtain ⟨a1, c1, rfl, -, -⟩ := ha.open
  have hle := idk_len (n.flat 0)
  rw [flat_len] at hle
  have hid : (AL n).filter (fun x => x.kind == 40) = idk (n.flat 0) := rfl
  rw [hid] at C2
  have hal : (AL n).length ≤ 1000000 := by rw [AL_len]; omega
  have HC2 : Hid _ := ⟨C2⟩
  have HAL : Hid ((AL n).length ≤ 1000000) := ⟨hal⟩
  have HLE : Hid ((idk (n.flat 0)).length ≤ n.sz) := ⟨hle⟩
  simp only [aggN, encN] at C1 ⊢
  clear ha C2 hid hal hle
  generalize idk (n.flat 0) = R at *
  generalize AL n = A at *
  go_enter Try.func25, Try.ntmps25
  go_wp2_with (first
    | (go_at_call 31; refine C1.mono ?_; clear C1; rintro e w1 ⟨a2, c2, rfl, hr1, hB1⟩; have HS1 : Hid (SlV (fun _ _ _ => True) w1 _ _) := ⟨bl_read hr1 HAL.out⟩; clear hr1)
    | (go_at_call 40; refine (HC2.out _ _ HS1.out).mono ?_; clear HC2; rintro e w2 ⟨a3, c3, rfl, hr2, hB2⟩))
  go_ret
  exact ⟨a3, c3, rfl, bl_read hr2 (by have := HLE.out; omega), bthen (below_alloc _ _) (bthen hB1 hB2)⟩
end Go.Proofs.Ytgknigjpdnfkdaa
