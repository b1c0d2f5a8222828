/-
  recastlaw4.TreeAll at every tree.
-/
import Derived.Test.YtgknigjpdnfkdaaAllReg
namespace Go.Proofs.Ytgknigjpdnfkdaa
open Go.RowKit
attribute [local go_sem ↓] Go.wp_at_zero Go.wp_at_succ
theorem func_nil (fn : Fn) (caps : Array Value) (w : World) : (binOp .eql 31 (.func fn #[] caps) .nilFunc).run Try.prog w = .ok (.bool false) w := by rfl
theorem sta_init (FL : List (Nat × Nd)) (n0 sb N : Nat) (stop : Int) (al ad : Option Addr) (cl cd : Nat) (v10 v11 : World) (r1 : RowN n0 (Bl n0) v10 (.slice al N cl) (FL.map Prod.snd)) (r2 : RowI n0 v10 (.slice ad N cd) (FL.map fun e => (e.1 : Int))) (hs : v10.heap[sb]? = some (.cells #[.int .i64 stop] 3 (0, 0))) (hn0 : n0 ≤ v10.heap.size)
    (hB : Below ((v10.alloc (.cells #[.slice al N cl] 22)).alloc (.cells #[.slice ad N cd] 27)).heap.size ((v10.alloc (.cells #[.slice al N cl] 22)).alloc (.cells #[.slice ad N cd] 27)) v11) :
    StA FL n0 (v11.heap.size + 1) (v11.heap.size + 1 + 1) v11.heap.size v10.heap.size (v10.heap.size + 1) sb stop (.slice al N cl) (.slice ad N cd) 0 false (((v11.alloc (.cells #[.int .i64 0] 3)).alloc (.cells #[.bool true] 4)).alloc (.cells #[.bool false] 4)) := by
  have hsz := hB.size
  simp only [World.size_alloc] at hsz
  have hB1 : Below v10.heap.size v10 v11 := bthen (below_alloc2 _ _ _) hB
  have hB2 : Below v10.heap.size v10 (((v11.alloc (.cells #[.int .i64 0] 3)).alloc (.cells #[.bool true] 4)).alloc (.cells #[.bool false] 4)) := bthen hB1 (bthen (below_alloc2 _ _ _) (below_alloc _ _))
  have kp : ∀ {b : Nat} {o : Obj}, v11.heap[b]? = some o → (((v11.alloc (.cells #[.int .i64 0] 3)).alloc (.cells #[.bool true] 4)).alloc (.cells #[.bool false] 4)).heap[b]? = some o := fun {b o} h => heap_old (heap_old (heap_old h))
  have q1 : ((v10.alloc (.cells #[.slice al N cl] 22)).alloc (.cells #[.slice ad N cd] 27)).heap[v10.heap.size]? = some (.cells #[.slice al N cl] 22) := heap_old (heap_alloc_new _ _)
  have q2 : ((v10.alloc (.cells #[.slice al N cl] 22)).alloc (.cells #[.slice ad N cd] 27)).heap[v10.heap.size + 1]? = some (.cells #[.slice ad N cd] 27) := by
    have := heap_alloc_new (v10.alloc (.cells #[.slice al N cl] 22)) (.cells #[.slice ad N cd] 27)
    rwa [World.size_alloc] at this
  refine ⟨?_, ?_, heap_old (heap_old (heap_alloc_new _ _)), kp ((hB.block _ (by simp; omega)).trans q1), kp ((hB.block _ (by simp)).trans q2), (hB2.block _ (Array.getElem?_eq_some_iff.1 hs).1).trans hs, r1.kept hB2, r2.kept hB2, by omega, by omega, by omega, ?_, by omega, by omega, by omega, fun e => ?_⟩
  · have := heap_alloc_new (v11.alloc (.cells #[.int .i64 0] 3)) (.cells #[.bool true] 4)
    rw [World.size_alloc] at this
    exact heap_old this
  · have := heap_alloc_new ((v11.alloc (.cells #[.int .i64 0] 3)).alloc (.cells #[.bool true] 4)) (.cells #[.bool false] 4)
    rwa [World.size_alloc, World.size_alloc] at this
  · have := (Array.getElem?_eq_some_iff.1 hs).1
    omega
  · have := (World.ownsRow.lt r2 _ e).2
    omega
set_option maxRecDepth 100000 in
set_option maxHeartbeats 2000000 in
theorem treeAll_in (n : Nd) (h1 : n.sz ≤ 300) (stop : Int) (w : World) (va : Value) (B : BP) (ha : SlV B w va n.kids) :
    Calls Try.prog 3 #[aggN n va, .int .i64 stop] w fun e w' => e = .returned (.bool true) ∧ Below w.heap.size w w' := by
  have hlow := ha.low
  obtain ⟨a1, c1, rfl, -, -⟩ := ha.open
  obtain ⟨W0, hW0⟩ : ∃ y, (w.alloc (.cells #[.int .i64 n.kind, .int .i64 n.fr, .int .i64 n.to, .string n.text, .slice a1 n.kids.length c1] 24)).alloc (.cells #[.int .i64 stop] 3) = y := ⟨_, rfl⟩
  have hB0 : Below w.heap.size w W0 := hW0 ▸ below_alloc2 _ _ _
  have hz0 : W0.heap.size = w.heap.size + 2 := by rw [← hW0]; simp
  have HA : Hid (SlV (Bl w.heap.size) W0 (.slice a1 n.kids.length c1) n.kids) := ⟨hlow.kept hB0⟩
  have k0 : W0.heap[w.heap.size]? = some (.cells #[.int .i64 n.kind, .int .i64 n.fr, .int .i64 n.to, .string n.text, .slice a1 n.kids.length c1] 24) := by rw [← hW0]; exact heap_old (heap_alloc_new _ _)
  have k1 : W0.heap[w.heap.size + 1]? = some (.cells #[.int .i64 stop] 3 (0, 0)) := by
    rw [← hW0]
    have := heap_alloc_new (w.alloc (.cells #[.int .i64 n.kind, .int .i64 n.fr, .int .i64 n.to, .string n.text, .slice a1 n.kids.length c1] 24)) (.cells #[.int .i64 stop] 3)
    rwa [World.size_alloc] at this
  have KF : Hid (∀ w', Below W0.heap.size W0 w' → (w'.cell? ⟨w.heap.size, 0, none⟩ = some (.int .i64 n.kind) ∧ w'.cell? ⟨w.heap.size, 1, none⟩ = some (.int .i64 n.fr) ∧ w'.cell? ⟨w.heap.size, 2, none⟩ = some (.int .i64 n.to) ∧ w'.cell? ⟨w.heap.size, 3, none⟩ = some (.string n.text) ∧ w'.cell? ⟨w.heap.size, 4, none⟩ = some (.slice a1 n.kids.length c1))) := ⟨fun w' h => by
    have j1 := (h.block _ (Array.getElem?_eq_some_iff.1 k0).1).trans k0
    simp [cell_of j1]⟩
  have C8 := in_any n W0 (.slice a1 n.kids.length c1) _ HA.out
  have hfl : (n.flat 0).length = n.sz := flat_len n 0
  obtain ⟨L, hL⟩ : ∃ y, AL n = y := ⟨_, rfl⟩
  have hLl : L.length = n.sz := by rw [← hL]; exact AL_len n
  obtain ⟨Dl, hDl⟩ : ∃ y, (n.flat 0).map (fun e => (e.1 : Int)) = y := ⟨_, rfl⟩
  have hDll : Dl.length = n.sz := by rw [← hDl, List.length_map, hfl]
  have C10 : Hid (∀ w', Below W0.heap.size W0 w' → Calls Try.prog 10 #[aggN n (.slice a1 n.kids.length c1), .int .i64 0, .slice none 0 0, .slice none 0 0] w' (FtP w.heap.size (.slice none 0 0) (.slice none 0 0) L Dl w')) := ⟨fun w' h => by
    have := flat_any w.heap.size n 0 w' (.slice a1 n.kids.length c1) (.slice none 0 0) (.slice none 0 0) [] [] (by have := h.size; omega) (HA.out.kept h) (RowN.nil _ _ _) (World.ownsRow_nil _ _ _ _) rfl (by simp; omega) (by have := dep_le_sz n; omega)
    rw [List.nil_append, List.nil_append, hDl] at this
    have e : (n.flat 0).map Prod.snd = L := hL
    rw [e] at this
    exact this⟩
  have C11 : Hid (∀ w', Below W0.heap.size W0 w' → _) := ⟨fun w' h => all_any n (by omega) w' (.slice a1 n.kids.length c1) _ (HA.out.kept h)⟩
  have STI : Hid (∀ (al ad : Option Addr) (cl cd : Nat) (v10 v11 : World), RowN w.heap.size (Bl w.heap.size) v10 (.slice al n.sz cl) L → RowI w.heap.size v10 (.slice ad n.sz cd) Dl → Below W0.heap.size W0 v10 → Below ((v10.alloc (.cells #[.slice al n.sz cl] 22)).alloc (.cells #[.slice ad n.sz cd] 27)).heap.size ((v10.alloc (.cells #[.slice al n.sz cl] 22)).alloc (.cells #[.slice ad n.sz cd] 27)) v11 →
      StA (n.flat 0) w.heap.size (v11.heap.size + 1) (v11.heap.size + 1 + 1) v11.heap.size v10.heap.size (v10.heap.size + 1) (w.heap.size + 1) stop (.slice al n.sz cl) (.slice ad n.sz cd) 0 false (((v11.alloc (.cells #[.int .i64 0] 3)).alloc (.cells #[.bool true] 4)).alloc (.cells #[.bool false] 4))) := ⟨fun al ad cl cd v10 v11 r1 r2 h3 h4 => sta_init (n.flat 0) w.heap.size (w.heap.size + 1) n.sz stop al ad cl cd v10 v11 (by have e : (n.flat 0).map Prod.snd = L := hL; rw [e]; exact r1) (by rw [hDl]; exact r2) ((h3.block _ (Array.getElem?_eq_some_iff.1 k1).1).trans k1) (by have := h3.size; omega) h4⟩
  have HB0 : Hid (Below w.heap.size w W0) := ⟨hB0⟩
  have hX : Below W0.heap.size W0 W0 := Below.refl _ _
  obtain ⟨x0, x1, x2, x3, x4⟩ := KF.out W0 hX
  have HK0 : Hid (W0.heap[w.heap.size]? = some (.cells #[.int .i64 n.kind, .int .i64 n.fr, .int .i64 n.to, .string n.text, .slice a1 n.kids.length c1] 24)) := ⟨k0⟩
  have HK1 : Hid (W0.heap[w.heap.size + 1]? = some (.cells #[.int .i64 stop] 3 (0, 0))) := ⟨k1⟩
  have hmf := hmf41
  have hfn := func_nil
  rw [decide_eq_true h1] at C8
  simp only [aggN, encN] at C8 C10 C11 hW0 ⊢
  clear ha hlow k0 k1 hB0
  go_enter Try.func3, Try.ntmps3
  go_wp2_with (first
    | (go_at_call 8; refine C8.mono ?_; clear C8; rintro e v8 ⟨rfl, hB8⟩; obtain ⟨y0, y1, y2, y3, y4⟩ := KF.out v8 hB8)
    | (go_at_call 10; refine (C10.out v8 hB8).mono ?_; clear C10; rintro e v10 ⟨al, cl, ad, cd, rfl, hq⟩; have hB10 : Below W0.heap.size W0 v10 := bthen hB8 (hq.keep.below (Nat.le_refl _) (fun b _ h => by rcases h with h | h <;> simp [Value.ownBlock] at h)); rw [hLl, hDll] at hq; have HQ1 : Hid (RowN w.heap.size (Bl w.heap.size) v10 (.slice al n.sz cl) L) := ⟨hq.r1⟩; have HQ2 : Hid (RowI w.heap.size v10 (.slice ad n.sz cd) Dl) := ⟨hq.r2⟩; clear hq; have hz10 := hB10.size; obtain ⟨W2, hW2⟩ : ∃ y, (v10.alloc (.cells #[.slice al n.sz cl] 22)).alloc (.cells #[.slice ad n.sz cd] 27) = y := ⟨_, rfl⟩; have hB2 : Below W0.heap.size W0 W2 := bthen hB10 (hW2 ▸ below_alloc2 _ _ _); obtain ⟨z0, z1, z2, z3, z4⟩ := KF.out W2 hB2; have HW2S : Hid (w.heap.size ≤ W2.heap.size) := ⟨by have := hB2.size; omega⟩)
    | (go_at_call 11; refine (C11.out W2 hB2).mono ?_; clear C11; rintro e v11 ⟨own, ao, co, rfl, ho, hso, hB11⟩; have hst0 := STI.out al ad cl cd v10 v11 HQ1.out HQ2.out hB10 (by rw [hW2]; exact hB11); obtain ⟨W4, hW4⟩ : ∃ y, ((v11.alloc (.cells #[.int .i64 0] 3)).alloc (.cells #[.bool true] 4)).alloc (.cells #[.bool false] 4) = y := ⟨_, rfl⟩; rw [hW4] at hst0; have hB4 : Below v11.heap.size v11 W4 := hW4 ▸ bthen (below_alloc2 _ _ _) (below_alloc _ _); have hz11 := hB11.size; have CI := allit_any n (by omega) w.heap.size (v11.heap.size + 1) (v11.heap.size + 1 + 1) v11.heap.size v10.heap.size (v10.heap.size + 1) (w.heap.size + 1) own v11.heap.size stop _ _ _ W4 hst0 ((hB4.block _ (Array.getElem?_eq_some_iff.1 ho).1).trans ho) (hso.low.kept hB4) (by omega) (by omega) (by omega) (by have := hB4.size; have := HW2S.out; omega); simp only [yvl] at CI; have hov := hst0.ov; have g0 := cell_of hov 0; simp only [List.getElem?_toArray, List.getElem?_cons_zero] at g0; have g1 : W4.frozen? ⟨v11.heap.size + 1 + 1, 0, none⟩ = false := (by simp [World.frozen?, hov]); have g2 := setCell_same hov; clear hst0 ho hso hov)
    | (go_at_call 35; refine CI.mono ?_; clear CI; rintro e v35 ⟨⟨u, rfl⟩, ⟨kk, q, hst5, hqf, hqt⟩, hk35⟩; have HST5 : Hid (StA _ _ _ _ _ _ _ _ _ _ _ _ _ _) := ⟨hst5⟩; clear hst5))
  rename_i Kq hKq
  have hB04 : Below W0.heap.size W0 W4 := bthen hB2 (bthen hB11 hB4)
  have hz2 := hB2.size
  have hst := HST5.out
  have box : v35.heap[w.heap.size]? = some (.cells #[.int .i64 n.kind, .int .i64 n.fr, .int .i64 n.to, .string n.text, .slice a1 n.kids.length c1] 24) := hk35.keep _ _ ((hB04.block _ (Array.getElem?_eq_some_iff.1 HK0.out).1).trans HK0.out) (fun e => by omega)
  have HSv : SlV (Bl w.heap.size) v35 (.slice a1 n.kids.length c1) n.kids := (HA.out.kept hB04).to hk35 (fun _ _ _ h => h) (fun b o ob h e => by have : b < w.heap.size := h; omega)
  have hBf : Below w.heap.size w v35 := (bthen HB0.out hB04).trans (hk35.below (by have := hB04.size; omega) (fun b hb e => by omega))
  have hSR : SR (v11.heap.size + 1) v11.heap.size v10.heap.size (w.heap.size + 1) w.heap.size kk (.slice al n.sz cl) stop #[.int .i64 n.kind, .int .i64 n.fr, .int .i64 n.to, .string n.text, .slice a1 n.kids.length c1] v35 := ⟨hst.ok, hst.kc, hst.lc, hst.sc, box⟩
  have hdz := dep_le_sz n
  have D14 : ∀ w', Below v35.heap.size v35 w' → _ := fun w' h => size_any n (by omega) w' (.slice a1 n.kids.length c1) _ (HSv.kept h)
  have D15 : ∀ w', Below v35.heap.size v35 w' → _ := fun w' h => depth_any n (by omega) w' (.slice a1 n.kids.length c1) _ (HSv.kept h)
  have D16 : ∀ w', Below v35.heap.size v35 w' → _ := fun w' h => rdepth_any n (by omega) w' (.slice a1 n.kids.length c1) _ (HSv.kept h)
  simp only [aggN, encN] at D14 D15 D16
  have D9 : ∀ w', Below v35.heap.size v35 w' → _ := fun w' _ => awake_any w'
  have HBF : Hid (Below w.heap.size w v35) := ⟨hBf⟩
  have HSR : Hid _ := ⟨hSR⟩
  have hend : ∀ (s0 s1 s2 s3 s5 s6 s7 s8 s9 s10 s11 s12 s13 s14 s15 s16 s17 s18 s19 s20 s21 s22 s23 s24 s25 s26 s27 s28 s29 s30 s31 s32 s33 s34 s35 s36 s37 s38 s39 s40 s41 s42 s43 s44 s45 s46 s47 s48 s49 s50 s51 s52 s53 s54 s55 s56 s57 s58 s59 : Value) W', Below v35.heap.size v35 W' → Kq { tmps := #[s0, s1, s2, s3, .bool true, s5, s6, s7, s8, s9, s10, s11, s12, s13, s14, s15, s16, s17, s18, s19, s20, s21, s22, s23, s24, s25, s26, s27, s28, s29, s30, s31, s32, s33, s34, s35, s36, s37, s38, s39, s40, s41, s42, s43, s44, s45, s46, s47, s48, s49, s50, s51, s52, s53, s54, s55, s56, s57, s58, s59], defers := [] } W' := by
    intro s0 s1 s2 s3 s5 s6 s7 s8 s9 s10 s11 s12 s13 s14 s15 s16 s17 s18 s19 s20 s21 s22 s23 s24 s25 s26 s27 s28 s29 s30 s31 s32 s33 s34 s35 s36 s37 s38 s39 s40 s41 s42 s43 s44 s45 s46 s47 s48 s49 s50 s51 s52 s53 s54 s55 s56 s57 s58 s59 W' hB'
    refine hKq _ _ ?_
    clear hKq D14 D15 D16 D9 HSR hSR box hst HSv hBf
    go_wp2
    go_ret
    exact ⟨rfl, bthen HBF.out hB'⟩
  by_cases hkN : kk = n.sz
  · refine wp_region_held (S := SR (v11.heap.size + 1) v11.heap.size v10.heap.size (w.heap.size + 1) w.heap.size kk (.slice al n.sz cl) stop #[.int .i64 n.kind, .int .i64 n.fr, .int .i64 n.to, .string n.text, .slice a1 n.kids.length c1]) (by kernel_rfl) ?_
    exact all_rA _ (fun _ _ d _ _ h => by cases d <;> exact h) _ _ _ _ _ _ _ _ _ _ _ _ _ _ _ _ _ _ _ _ _ _ _ _ _ _ _ _ _ _ _ _ _ _ _ _ _ _ _ _ _ _ _ _ _ _ _ _ _ _ _ _ _ _ _ n _ _ _ _ _ kk n.dep a1 al c1 cl stop v35 hSR (by simp [hkN]) D14 D15 D16 D9 (fun _ _ _ _ _ _ _ _ _ _ _ _ _ _ _ _ _ _ _ _ _ _ _ _ _ _ _ _ _ _ _ _ _ W' h => hend _ _ _ _ _ _ _ _ _ _ _ _ _ _ _ _ _ _ _ _ _ _ _ _ _ _ _ _ _ _ _ _ _ _ _ _ _ _ _ _ _ _ _ _ _ _ _ _ _ _ _ _ _ _ _ _ _ _ _ W' h)
  · have hq1 : q = true := by
      cases q
      · exact (hkN (hqf rfl)).elim
      · rfl
    obtain ⟨hs1, hs2, hs3⟩ := hqt hq1
    refine wp_region_held (S := SR (v11.heap.size + 1) v11.heap.size v10.heap.size (w.heap.size + 1) w.heap.size kk (.slice al n.sz cl) stop #[.int .i64 n.kind, .int .i64 n.fr, .int .i64 n.to, .string n.text, .slice a1 n.kids.length c1]) (by kernel_rfl) ?_
    exact all_rB _ (fun _ _ d _ _ h => by cases d <;> exact h) _ _ _ _ _ _ _ _ _ _ _ _ _ _ _ _ _ _ _ _ _ _ _ _ _ _ _ _ _ _ _ _ _ _ _ _ _ _ _ _ _ _ _ _ _ _ _ _ _ _ _ _ _ _ _ n _ _ _ _ _ kk n.dep a1 al c1 cl stop v35 hSR (by simp; omega) (by simp [hs1]) (by omega) D14 D15 D16 D9 (fun _ _ _ _ _ _ _ _ _ _ _ _ _ _ _ _ _ _ _ _ _ _ _ _ _ _ _ _ _ _ _ _ _ W' h => hend _ _ _ _ _ _ _ _ _ _ _ _ _ _ _ _ _ _ _ _ _ _ _ _ _ _ _ _ _ _ _ _ _ _ _ _ _ _ _ _ _ _ _ _ _ _ _ _ _ _ _ _ _ _ _ _ _ _ _ W' h)
set_option maxRecDepth 100000 in
set_option maxHeartbeats 2000000 in
theorem treeAll_any (n : Nd) (stop : Int) (w : World) (va : Value) (B : BP) (ha : SlV B w va n.kids) :
    Calls Try.prog 3 #[aggN n va, .int .i64 stop] w fun e w' => e = .returned (.bool true) ∧ Below w.heap.size w w' := by
  by_cases h1 : n.sz ≤ 300
  · exact treeAll_in n h1 stop w va B ha
  · have C8 := in_any n ((w.alloc (.cells (encN n va) 24)).alloc (.cells #[.int .i64 stop] 3)) va B (ha.kept (below_alloc2 _ _ _))
    obtain ⟨a1, c1, rfl, -, -⟩ := ha.open
    clear ha
    rw [decide_eq_false h1] at C8
    simp only [aggN, encN] at C8 ⊢
    go_enter Try.func3, Try.ntmps3
    go_wp2_with (first
      | (go_at_call 8; refine C8.mono ?_; clear C8; rintro e v8 ⟨rfl, hB8⟩)
      | (go_at_call 9; refine (awake_any _).mono ?_; rintro e v9 ⟨rfl, hB9⟩))
    go_ret
    exact ⟨rfl, bthen (below_alloc2 _ _ _) (bthen hB8 hB9)⟩
end Go.Proofs.Ytgknigjpdnfkdaa
