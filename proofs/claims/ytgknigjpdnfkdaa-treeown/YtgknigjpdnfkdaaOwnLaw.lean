/-
  recastlaw4.TreeOwn at every tree.
-/
import Derived.Test.YtgknigjpdnfkdaaOwnP
namespace Go.Proofs.Ytgknigjpdnfkdaa
open Go.RowKit
theorem inv3 {W : World} {b : Nat} (h : W.heap[b]? = some (.cells #[.int .i64 40, .int .i64 44, .int .i64 60] 3 (0, 0))) : InV W (.slice (some ⟨b, 0, none⟩) 3 3) [40, 44, 60] := by
  refine .inr ⟨b, 0, 3, rfl, fun i hi => ?_⟩
  rw [cell_of h, Nat.zero_add]
  match i, hi with
  | 0, _ => rfl
  | 1, _ => rfl
  | 2, _ => rfl
set_option maxRecDepth 100000 in
set_option maxHeartbeats 2000000 in
theorem treeOwn_in (n : Nd) (h1 : n.sz ≤ 300) (w : World) (va : Value) (B : BP) (ha : SlV B w va n.kids) :
    Calls Try.prog 7 #[aggN n va] w fun e w' => e = .returned (.bool true) ∧ Below w.heap.size w w' := by
  have hlow := ha.low
  obtain ⟨a1, c1, rfl, -, -⟩ := ha.open
  obtain ⟨W0, hW0⟩ : ∃ y, w.alloc (.cells #[.int .i64 n.kind, .int .i64 n.fr, .int .i64 n.to, .string n.text, .slice a1 n.kids.length c1] 24) = y := ⟨_, rfl⟩
  have hB0 : Below w.heap.size w W0 := hW0 ▸ below_alloc _ _
  have hz0 : W0.heap.size = w.heap.size + 1 := by rw [← hW0]; simp
  have HA : Hid (SlV (Bl w.heap.size) W0 (.slice a1 n.kids.length c1) n.kids) := ⟨hlow.kept hB0⟩
  have k0 : W0.heap[w.heap.size]? = some (.cells #[.int .i64 n.kind, .int .i64 n.fr, .int .i64 n.to, .string n.text, .slice a1 n.kids.length c1] 24) := by rw [← hW0]; exact heap_alloc_new _ _
  have KF : Hid (∀ w', Below W0.heap.size W0 w' → (w'.cell? ⟨w.heap.size, 0, none⟩ = some (.int .i64 n.kind) ∧ w'.cell? ⟨w.heap.size, 1, none⟩ = some (.int .i64 n.fr) ∧ w'.cell? ⟨w.heap.size, 2, none⟩ = some (.int .i64 n.to) ∧ w'.cell? ⟨w.heap.size, 3, none⟩ = some (.string n.text) ∧ w'.cell? ⟨w.heap.size, 4, none⟩ = some (.slice a1 n.kids.length c1))) := ⟨fun w' h => by
    have j1 := (h.block _ (Array.getElem?_eq_some_iff.1 k0).1).trans k0
    simp [cell_of j1]⟩
  have C8 := in_any n W0 (.slice a1 n.kids.length c1) _ HA.out
  have C24 : Hid (∀ w', Below W0.heap.size W0 w' → _) := ⟨fun w' h => idents_any n (by omega) w' (.slice a1 n.kids.length c1) _ (HA.out.kept h)⟩
  have C20 : Hid (∀ w', Below W0.heap.size W0 w' → _) := ⟨fun w' h => at_any n.fr n.to n (by omega) w' (.slice a1 n.kids.length c1) _ (HA.out.kept h)⟩
  have C22 : Hid (∀ w' vk, Below W0.heap.size W0 w' → InV w' vk [40, 44, 60] → _) := ⟨fun w' vk h hv => kids_any n (by omega) [40, 44, 60] (by simp) w' (.slice a1 n.kids.length c1) vk _ (HA.out.kept h) hv⟩
  have C31 : Hid (∀ w', w.heap.size ≤ w'.heap.size → SlV (Bl w.heap.size) w' (.slice a1 n.kids.length c1) n.kids → _) := ⟨fun w' h hs => rall_low w.heap.size n (by omega) w' (.slice a1 n.kids.length c1) h hs⟩
  have HALL : Hid ((AL n).length ≤ 1000000) := ⟨by rw [AL_len]; omega⟩
  have HB0 : Hid (Below w.heap.size w W0) := ⟨hB0⟩
  have hX : Below W0.heap.size W0 W0 := Below.refl _ _
  obtain ⟨x0, x1, x2, x3, x4⟩ := KF.out W0 hX
  have HK0 : Hid (W0.heap[w.heap.size]? = some (.cells #[.int .i64 n.kind, .int .i64 n.fr, .int .i64 n.to, .string n.text, .slice a1 n.kids.length c1] 24)) := ⟨k0⟩
  have r1 : (idk (n.flat 0)).length ≤ 1000000 := by have := idk_len (n.flat 0); rw [flat_len] at this; omega
  have r2 : (n.atR n.fr n.to).length ≤ 1000000 := by have := atR_len n.fr n.to n; have := dep_le_sz n; omega
  have r3 : (kidsF n [40, 44, 60]).length ≤ 1000000 := by have := kidsF_len n [40, 44, 60]; omega
  rw [decide_eq_true h1] at C8
  simp only [aggN, encN] at C8 C24 C20 C22 C31 hW0 ⊢
  generalize idk (n.flat 0) = R1 at *
  generalize n.atR n.fr n.to = R2 at *
  generalize kidsF n [40, 44, 60] = R3 at *
  generalize AL n = A at *
  clear ha hlow k0 hB0
  go_enter Try.func7, Try.ntmps7
  go_wp2_with (first
    | (go_at_call 8; refine C8.mono ?_; clear C8; rintro e v8 ⟨rfl, hB8⟩; obtain ⟨y0, y1, y2, y3, y4⟩ := KF.out v8 hB8)
    | (go_at_call 24; refine (C24.out v8 hB8).mono ?_; clear C24; rintro e v24 ⟨a24, c24, rfl, hS24, hB24⟩; have HS24 : Hid (SlV _ v24 _ _) := ⟨hS24⟩; have hX24 : Below W0.heap.size W0 v24 := bthen hB8 hB24; obtain ⟨z0, z1, z2, z3, z4⟩ := KF.out v24 hX24; clear hS24)
    | (go_at_call 20; refine (C20.out v24 hX24).mono ?_; clear C20; rintro e v20 ⟨a20, c20, rfl, hS20, hB20⟩; have HS20 : Hid (SlV _ v20 _ _) := ⟨hS20⟩; have hX20 : Below W0.heap.size W0 v20 := bthen hX24 hB20; obtain ⟨q0, q1, q2, q3, q4⟩ := KF.out v20 hX20; clear hS20; obtain ⟨W5, hW5⟩ : ∃ y, v20.alloc (.cells #[.int .i64 40, .int .i64 44, .int .i64 60] 3) = y := ⟨_, rfl⟩; have hB5 : Below v20.heap.size v20 W5 := hW5 ▸ below_alloc _ _; have hX5 : Below W0.heap.size W0 W5 := bthen hX20 hB5; have hv5 : InV W5 (.slice (some ⟨v20.heap.size, 0, none⟩) 3 3) [40, 44, 60] := inv3 (hW5 ▸ heap_alloc_new _ _))
    | (go_at_call 22; refine (C22.out W5 _ hX5 hv5).mono ?_; clear C22; rintro e v22 ⟨a22, c22, rfl, hS22, hB22⟩; have HS22 : Hid (SlV _ v22 _ _) := ⟨hS22⟩; have hX22 : Below W0.heap.size W0 v22 := bthen hX5 hB22; obtain ⟨s0, s1, s2, s3, s4⟩ := KF.out v22 hX22; have hz22 := hX22.size; clear hS22)
    | (go_at_call 31; refine (C31.out v22 (by omega) (HA.out.kept hX22)).mono ?_; rintro e V ⟨a31, c31, rfl, hr31, hat31, hB31⟩))
  have HM : Hid (SlV (Bw W0.heap.size v22.heap.size) V (.slice a24 R1.length c24) R1) := ⟨((HS24.out.with (fun b o ob h k => Bf.bw (hi := v22.heap.size) (by have := hB20.size; have := hB5.size; have := hB22.size; omega) b o ob h (Bf.mono (hB8.size) b o ob k))).kept (bthen hB20 (bthen hB5 (bthen hB22 hB31))))⟩
  have HN : Hid (SlV (Bw W0.heap.size v22.heap.size) V (.slice a20 R2.length c20) R2) := ⟨((HS20.out.with (fun b o ob h k => Bf.bw (hi := v22.heap.size) (by have := hB5.size; have := hB22.size; omega) b o ob h (Bf.mono (hX24.size) b o ob k))).kept (bthen hB5 (bthen hB22 hB31)))⟩
  have HO : Hid (SlV (Bw W0.heap.size v22.heap.size) V (.slice a22 R3.length c22) R3) := ⟨((HS22.out.with (fun b o ob h k => Bf.bw (hi := v22.heap.size) (by omega) b o ob h (Bf.mono (hX5.size) b o ob k))).kept hB31)⟩
  have hXV : Below W0.heap.size W0 V := bthen hX22 hB31
  have HXV : Hid (Below W0.heap.size W0 V) := ⟨hXV⟩
  have HR31 : Hid (RowN w.heap.size (Bl w.heap.size) V (.slice a31 A.length c31) A) := ⟨hr31⟩
  have HAT : Hid (∀ b, (Value.slice a31 A.length c31).ownBlock = some b → v22.heap.size ≤ b) := ⟨hat31⟩
  obtain ⟨lo, hlo⟩ : ∃ y, W0.heap.size = y := ⟨_, rfl⟩
  obtain ⟨hi, hhi⟩ : ∃ y, v22.heap.size = y := ⟨_, rfl⟩
  rw [hlo, hhi] at HM HN HO
  rw [hhi] at HAT
  have H0 : Hid (WrI lo hi V V) := ⟨WrI.refl lo hi V⟩
  have hlo2 : w.heap.size < lo := by omega
  clear hXV hr31 hat31 HS24 HS20 HS22 x0 x1 x2 x3 x4 y0 y1 y2 y3 y4 z0 z1 z2 z3 z4 q0 q1 q2 q3 q4 s0 s1 s2 s3 s4 hB8 hB24 hB20 hB5 hB22 hB31 hX24 hX20 hX5 hX22 hv5 hW5 hX hW0 hz22 hz0 hlo hhi
  go_loopw [7] (fun i wr => ∃ j : Nat, i = .int .i64 j ∧ j ≤ R1.length ∧ Hid (WrI lo hi V wr)) (fun i _ => R1.length - (intOf i).toNat)
  case atStart => exact ⟨0, rfl, by omega, H0⟩
  case round =>
    obtain ⟨j, rfl, hj, HW⟩ := hrel
    by_cases hlt : j < R1.length
    · have hlt' : (j : Int) < (R1.length : Int) := by omega
      obtain ⟨b, c, u, e, k1, k2, su, p4, ⟨z0, p0⟩, ⟨z3, p3⟩, f0, f3⟩ := HW.out.node HM.out j hlt
      cases e
      clear su
      go_wp2
      go_roundw
      case rel => exact ⟨j + 1, by go_num, by omega, ⟨HW.out.set k1 k2 (by omega) _⟩⟩
      case measure => simp [intOf]; omega
    · have hlt' : ¬ (j : Int) < (R1.length : Int) := by omega
      have HP1 := HW
      clear HW
      go_wp2
      go_loopw [8] (fun i wr => ∃ j : Nat, i = .int .i64 j ∧ j ≤ R2.length ∧ Hid (WrI lo hi V wr)) (fun i _ => R2.length - (intOf i).toNat)
      case atStart => exact ⟨0, rfl, by omega, HP1⟩
      case round =>
        obtain ⟨j, rfl, hj, HW⟩ := hrel
        by_cases hlt : j < R2.length
        · have hlt' : (j : Int) < (R2.length : Int) := by omega
          obtain ⟨b, c, u, e, k1, k2, su, p4, ⟨z0, p0⟩, ⟨z3, p3⟩, f0, f3⟩ := HW.out.node HN.out j hlt
          cases e
          have HWR2 : Hid (WrI lo hi V (wr.setCell ⟨b, j * 5 + 3, none⟩ (.string ⟨#[63]⟩))) := ⟨HW.out.set k1 k2 (by omega) _⟩
          clear su
          go_wp2
          generalize (wr.setCell ⟨b, j * 5 + 3, none⟩ (.string ⟨#[63]⟩)) = wz at *
          clear p4 p0 p3 f0 f3 HW
          rename World => wo
          go_loopw [9] (fun i ws => ∃ q : Nat, i = .int .i64 q ∧ q ≤ R2[j].kids.length ∧ Hid (WrI lo hi V ws)) (fun i _ => R2[j].kids.length - (intOf i).toNat)
          case atStart => exact ⟨0, rfl, by omega, ⟨HWR2.out⟩⟩
          case round =>
            obtain ⟨q, rfl, hq, HW3⟩ := hrel
            obtain ⟨b', c', u', e', k1', k2', su', p4', -, -, -, -⟩ := HW3.out.node HN.out j hlt
            cases e'
            obtain ⟨au, cu, rfl, hul, -⟩ := su'.open
            have HSU : Hid (SlV (Bw lo hi) V (.slice au R2[j].kids.length cu) R2[j].kids) := ⟨su'⟩
            by_cases hq2 : q < R2[j].kids.length
            · have hq2' : (q : Int) < (R2[j].kids.length : Int) := by omega
              obtain ⟨b9, c9, u9, e9, k19, k29, -, p49, ⟨z09, p09⟩, ⟨z39, p39⟩, f09, f39⟩ := HW3.out.node HSU.out q hq2
              cases e9
              have hlt' : (j : Int) < (R2.length : Int) := by omega
              clear su'
              go_wp2
              go_roundw
              case rel => exact ⟨q + 1, by go_num, by omega, ⟨HW3.out.set k19 k29 (by omega) _⟩⟩
              case measure => simp [intOf]; omega
            · have hq2' : ¬ (q : Int) < (R2[j].kids.length : Int) := by omega
              have hlt' : (j : Int) < (R2.length : Int) := by omega
              clear su'
              go_wp2
              go_roundw
              case rel => exact ⟨j + 1, by go_num, by omega, HW3⟩
              case measure => simp [intOf]; omega
        · have hlt' : ¬ (j : Int) < (R2.length : Int) := by omega
          have HP2 := HW
          clear HW
          go_wp2
          go_loopw [10] (fun i wr => ∃ j : Nat, i = .int .i64 j ∧ j ≤ R3.length ∧ Hid (WrI lo hi V wr)) (fun i _ => R3.length - (intOf i).toNat)
          case atStart => exact ⟨0, rfl, by omega, HP2⟩
          case round =>
            obtain ⟨j, rfl, hj, HW⟩ := hrel
            by_cases hlt : j < R3.length
            · have hlt' : (j : Int) < (R3.length : Int) := by omega
              obtain ⟨b, c, u, e, k1, k2, su, p4, ⟨z0, p0⟩, ⟨z3, p3⟩, f0, f3⟩ := HW.out.node HO.out j hlt
              cases e
              have HWR2 : Hid (WrI lo hi V (wr.setCell ⟨b, j * 5, none⟩ (.int .i64 (-1)))) := ⟨HW.out.set k1 k2 (by omega) _⟩
              clear su
              go_wp2
              generalize (wr.setCell ⟨b, j * 5, none⟩ (.int .i64 (-1))) = wz at *
              clear p4 p0 p3 f0 f3 HW
              rename World => wo
              go_loopw [11] (fun i ws => ∃ q : Nat, i = .int .i64 q ∧ q ≤ R3[j].kids.length ∧ Hid (WrI lo hi V ws)) (fun i _ => R3[j].kids.length - (intOf i).toNat)
              case atStart => exact ⟨0, rfl, by omega, ⟨HWR2.out⟩⟩
              case round =>
                obtain ⟨q, rfl, hq, HW3⟩ := hrel
                obtain ⟨b', c', u', e', k1', k2', su', p4', -, -, -, -⟩ := HW3.out.node HO.out j hlt
                cases e'
                obtain ⟨au, cu, rfl, hul, -⟩ := su'.open
                have HSU : Hid (SlV (Bw lo hi) V (.slice au R3[j].kids.length cu) R3[j].kids) := ⟨su'⟩
                by_cases hq2 : q < R3[j].kids.length
                · have hq2' : (q : Int) < (R3[j].kids.length : Int) := by omega
                  obtain ⟨b9, c9, u9, e9, k19, k29, -, p49, ⟨z09, p09⟩, ⟨z39, p39⟩, f09, f39⟩ := HW3.out.node HSU.out q hq2
                  cases e9
                  have hlt' : (j : Int) < (R3.length : Int) := by omega
                  clear su'
                  go_wp2
                  go_roundw
                  case rel => exact ⟨q + 1, by go_num, by omega, ⟨HW3.out.set k19 k29 (by omega) _⟩⟩
                  case measure => simp [intOf]; omega
                · have hq2' : ¬ (q : Int) < (R3[j].kids.length : Int) := by omega
                  have hlt' : (j : Int) < (R3.length : Int) := by omega
                  clear su'
                  go_wp2
                  go_roundw
                  case rel => exact ⟨j + 1, by go_num, by omega, HW3⟩
                  case measure => simp [intOf]; omega
            · have hlt' : ¬ (j : Int) < (R3.length : Int) := by omega
              have hbox := HW.out.keep.keep _ _ ((HXV.out.block _ (Array.getElem?_eq_some_iff.1 HK0.out).1).trans HK0.out) (fun e => by omega)
              have x0 := cell_of hbox 0
              have x1 := cell_of hbox 1
              have x2 := cell_of hbox 2
              have x3 := cell_of hbox 3
              have x4 := cell_of hbox 4
              simp only [List.getElem?_toArray, List.getElem?_cons_zero, List.getElem?_cons_succ] at x0 x1 x2 x3 x4
              have hsn : SlV (Bl w.heap.size) wr (.slice a1 n.kids.length c1) n.kids := (HA.out.kept HXV.out).to HW.out.keep (fun _ _ _ h => h) (fun b o ob h e => by have : b < w.heap.size := h; omega)
              have hrw : RowN w.heap.size (Bl w.heap.size) wr (.slice a31 A.length c31) A := HR31.out.to HW.out.keep (fun b hb e => by have := HAT.out b hb; omega) (fun b o ob _ h e => by have : b < w.heap.size := h; omega)
              have hzw : w.heap.size ≤ wr.heap.size := by have := HW.out.keep.size; have := HXV.out.size; have := HB0.out.size; omega
              have C := C31.out wr hzw hsn
              have HRW : Hid (RowN w.heap.size (Bl w.heap.size) wr (.slice a31 A.length c31) A) := ⟨hrw⟩
              have HBW : Hid (Below w.heap.size w wr) := ⟨(bthen HB0.out HXV.out).trans (HW.out.keep.below (by have := HXV.out.size; have := HB0.out.size; omega) (fun b hb e => by omega))⟩
              clear hbox hsn hrw
              go_wp2_with (first
                | (go_at_call 31; refine C.mono ?_; clear C; rintro e v1 ⟨a9, c9, rfl, hr9, -, hB9⟩; have HS9 : Hid (SlV (fun _ _ _ => True) v1 _ _) := ⟨bl_read hr9 HALL.out⟩; clear hr9)
                | (go_at_call 19; refine (rows_any _ _ _ _ _ (fun _ _ _ => True) HS9.out (bl_read (HRW.out.kept hB9) HALL.out)).mono ?_; rintro e v2 ⟨rfl, hB2⟩)
                | (go_at_call 9; refine (awake_any _).mono ?_; rintro e v3 ⟨rfl, hB3⟩))
              go_ret
              exact ⟨rfl, bthen HBW.out (bthen hB9 (bthen hB2 hB3))⟩
set_option maxRecDepth 100000 in
set_option maxHeartbeats 2000000 in
theorem treeOwn_any (n : Nd) (w : World) (va : Value) (B : BP) (ha : SlV B w va n.kids) :
    Calls Try.prog 7 #[aggN n va] w fun e w' => e = .returned (.bool true) ∧ Below w.heap.size w w' := by
  by_cases h1 : n.sz ≤ 300
  · exact treeOwn_in n h1 w va B ha
  · have C8 := in_any n (w.alloc (.cells (encN n va) 24)) va B (ha.kept (below_alloc _ _))
    obtain ⟨a1, c1, rfl, -, -⟩ := ha.open
    clear ha
    rw [decide_eq_false h1] at C8
    simp only [aggN, encN] at C8 ⊢
    go_enter Try.func7, Try.ntmps7
    go_wp2_with (first
      | (go_at_call 8; refine C8.mono ?_; clear C8; rintro e v8 ⟨rfl, hB8⟩)
      | (go_at_call 9; refine (awake_any _).mono ?_; rintro e v9 ⟨rfl, hB9⟩))
    go_ret
    exact ⟨rfl, bthen (below_alloc _ _) (bthen hB8 hB9)⟩
end Go.Proofs.Ytgknigjpdnfkdaa
