/-
  The walk of recastlaw4.TreeKids.
-/
import Derived.Test.YtgknigjpdnfkdaaRKids
namespace Go.Proofs.Ytgknigjpdnfkdaa
open Go.RowKit
attribute [local go_sem ↓] Go.wp_at_zero Go.wp_at_succ
theorem RowI.inv {base : Nat} {W : World} {v : Value} {l : List Int} (h : RowI base W v l) : InV W v l := by
  have hx := h.1
  rcases h.2 with ⟨h0, h1⟩ | ⟨g, cap, cur, rfl, h1, h2, h3, h4, h5, h6⟩
  · exact .inl ⟨h0, List.eq_nil_of_length_eq_zero h1⟩
  · refine .inr ⟨g, 0, cap, rfl, fun i hi => ?_⟩
    rw [cell_of h2, Nat.zero_add]
    have h7 : (cur.toList.take (l.length * 1))[i]? = (l.map fun d => Value.int .i64 d)[i]? := by rw [h6]
    rw [List.getElem?_take, if_pos (by omega), Array.getElem?_toList] at h7
    rw [h7]
    simp [hi]
set_option maxRecDepth 100000 in
set_option maxHeartbeats 2000000 in
theorem treeKids_nil (n : Nd) (w : World) (va : Value) (B : BP) (ha : SlV B w va n.kids) (hv : InV w (.slice none 0 0) []) (h1 : n.sz ≤ 300) :
    Calls Try.prog 6 #[aggN n va, (.slice none 0 0)] w fun e w' => e = .returned (.bool true) ∧ Below w.heap.size w w' := by
  obtain ⟨a1, c1, rfl, -, -⟩ := ha.open
  obtain ⟨W0, hW0⟩ : ∃ y, w.alloc (.cells #[.int .i64 n.kind, .int .i64 n.fr, .int .i64 n.to, .string n.text, .slice a1 n.kids.length c1] 24) = y := ⟨_, rfl⟩
  have hB0 : Below w.heap.size w W0 := hW0 ▸ below_alloc _ _
  have HA : Hid (SlV B W0 (.slice a1 n.kids.length c1) n.kids) := ⟨ha.kept hB0⟩
  have HV : Hid (InV W0 (.slice none 0 0) []) := ⟨hv.kept hB0⟩
  have k1 : W0.heap[w.heap.size]? = some (.cells #[.int .i64 n.kind, .int .i64 n.fr, .int .i64 n.to, .string n.text, .slice a1 n.kids.length c1] 24) := by rw [← hW0]; exact heap_alloc_new _ _
  have KS0 : Hid (∀ w', Below W0.heap.size W0 w' → (w'.cell? ⟨w.heap.size, 0, none⟩ = some (.int .i64 n.kind) ∧ w'.cell? ⟨w.heap.size, 1, none⟩ = some (.int .i64 n.fr) ∧ w'.cell? ⟨w.heap.size, 2, none⟩ = some (.int .i64 n.to) ∧ w'.cell? ⟨w.heap.size, 3, none⟩ = some (.string n.text) ∧ w'.cell? ⟨w.heap.size, 4, none⟩ = some (.slice a1 n.kids.length c1))) := ⟨fun w' h => by
    have j1 := (h.block _ (Array.getElem?_eq_some_iff.1 k1).1).trans k1
    simp [cell_of j1]⟩
  have C8 := in_any n W0 (.slice a1 n.kids.length c1) B HA.out
  have HB0 : Hid (Below w.heap.size w W0) := ⟨hB0⟩
  obtain ⟨x0, x1, x2, x3, x4⟩ := KS0.out W0 (Below.refl _ _)
  clear ha hv k1 hB0
  simp only [aggN, encN] at C8 hW0 ⊢
  rw [decide_eq_true h1] at C8
  go_enter Try.func6, Try.ntmps6
  go_wp2_with (go_at_call 8; refine C8.mono ?_; clear C8; rintro e w1 ⟨rfl, hB8⟩)
  have HBv : Hid (Below W0.heap.size W0 w1) := ⟨hB8⟩
  have HU : Hid (InV w1 (.slice none 0 0) []) := ⟨.inl ⟨rfl, rfl⟩⟩
  clear hB8 x0 x1 x2 x3 x4
  have KS : Hid (∀ w', Below w1.heap.size w1 w' → (w'.cell? ⟨w.heap.size, 0, none⟩ = some (.int .i64 n.kind) ∧ w'.cell? ⟨w.heap.size, 1, none⟩ = some (.int .i64 n.fr) ∧ w'.cell? ⟨w.heap.size, 2, none⟩ = some (.int .i64 n.to) ∧ w'.cell? ⟨w.heap.size, 3, none⟩ = some (.string n.text) ∧ w'.cell? ⟨w.heap.size, 4, none⟩ = some (.slice a1 n.kids.length c1))) := ⟨fun w' h => KS0.out w' (bthen HBv.out h)⟩
  have HSw : Hid (∀ w', Below w1.heap.size w1 w' → SlV B w' (.slice a1 n.kids.length c1) n.kids) := ⟨fun w' h => HA.out.kept (bthen HBv.out h)⟩
  have HVw : Hid (∀ w', Below w1.heap.size w1 w' → InV w' (.slice none 0 0) []) := ⟨fun w' h => HV.out.kept (bthen HBv.out h)⟩
  have HUw : Hid (∀ w', Below w1.heap.size w1 w' → InV w' (.slice none 0 0) []) := ⟨fun w' h => HU.out.kept h⟩
  have C22 : Hid (∀ w', Below w1.heap.size w1 w' → _) := ⟨fun w' h => kids_any n (by omega) [] (by simp) w' (.slice a1 n.kids.length c1) _ B (HSw.out w' h) (HUw.out w' h)⟩
  have C23 : Hid (∀ w', Below w1.heap.size w1 w' → _) := ⟨fun w' h => rkids_any n (by omega) [] (by simp) w' (.slice a1 n.kids.length c1) _ B (HSw.out w' h) (HVw.out w' h)⟩
  have C24 : Hid (∀ w', Below w1.heap.size w1 w' → _) := ⟨fun w' h => idents_any n (by omega) w' (.slice a1 n.kids.length c1) B (HSw.out w' h)⟩
  have C25 : Hid (∀ w', Below w1.heap.size w1 w' → _) := ⟨fun w' h => ridents_any n (by omega) w' (.slice a1 n.kids.length c1) B (HSw.out w' h)⟩
  have C26 : Hid (∀ w', Below w1.heap.size w1 w' → _) := ⟨fun w' h => ints_any [] (by simp) w' _ _ (HUw.out w' h) (HVw.out w' h)⟩
  simp only [aggN, encN] at C22 C23 C24 C25
  have hX : Below w1.heap.size w1 w1 := Below.refl _ _
  have hXd : Below w1.heap.size w1 w1.drew := hX.drew
  obtain ⟨x0, x1, x2, x3, x4⟩ := KS.out w1 hX
  go_region_held3 (fun w' => w'.cell? ⟨w.heap.size, 0, none⟩ = some (.int .i64 n.kind) ∧ w'.cell? ⟨w.heap.size, 1, none⟩ = some (.int .i64 n.fr) ∧ w'.cell? ⟨w.heap.size, 2, none⟩ = some (.int .i64 n.to) ∧ w'.cell? ⟨w.heap.size, 3, none⟩ = some (.string n.text) ∧ w'.cell? ⟨w.heap.size, 4, none⟩ = some (.slice a1 n.kids.length c1))
    (first | go_keep | exact KS.out _ hX22 | exact KS.out _ hX23 | exact KS.out _ hX19a | exact KS.out _ hX24 | exact KS.out _ hX25 | exact KS.out _ hX19b)
    (first
      | (go_at_call 22; refine (C22.out _ (by first | exact hX23 | exact hX19a | exact hX24 | exact hX25 | exact hX19b | exact hXd)).mono ?_; clear C22; rintro e v22 ⟨a22, c22, rfl, hS22, hB22⟩; have hX22 : Below w1.heap.size w1 v22 := bthen (by first | exact hX23 | exact hX19a | exact hX24 | exact hX25 | exact hX19b | exact hXd) hB22; have HS22 : Hid (SlV _ v22 _ _) := ⟨hS22⟩; clear hS22)
      | (go_at_call 23; refine (C23.out _ (by first | exact hX22 | exact hX19a | exact hX24 | exact hX25 | exact hX19b | exact hXd)).mono ?_; clear C23; rintro e v23 ⟨a23, c23, rfl, hS23, hB23⟩; have hX23 : Below w1.heap.size w1 v23 := bthen (by first | exact hX22 | exact hX19a | exact hX24 | exact hX25 | exact hX19b | exact hXd) hB23; have HS23 : Hid (SlV _ v23 _ _) := ⟨hS23⟩; clear hS23)
      | (go_at_call 19; refine (rows_any _ _ _ _ _ _ (by first | exact HS22.out | exact HS22.out.kept hB23) (by first | exact HS23.out | exact HS23.out.kept hB22)).mono ?_; rintro e v19a ⟨rfl, hB19a⟩; have hX19a : Below w1.heap.size w1 v19a := bthen (by first | exact hX22 | exact hX23 | exact hX24 | exact hX25 | exact hX19b | exact hXd) hB19a; clear HS22 HS23)
      | (go_at_call 24; refine (C24.out _ (by first | exact hX22 | exact hX23 | exact hX19a | exact hX25 | exact hX19b | exact hXd)).mono ?_; clear C24; rintro e v24 ⟨a24, c24, rfl, hS24, hB24⟩; have hX24 : Below w1.heap.size w1 v24 := bthen (by first | exact hX22 | exact hX23 | exact hX19a | exact hX25 | exact hX19b | exact hXd) hB24; have HS24 : Hid (SlV _ v24 _ _) := ⟨hS24⟩; clear hS24)
      | (go_at_call 25; refine (C25.out _ (by first | exact hX22 | exact hX23 | exact hX19a | exact hX24 | exact hX19b | exact hXd)).mono ?_; clear C25; rintro e v25 ⟨a25, c25, rfl, hS25, hB25⟩; have hX25 : Below w1.heap.size w1 v25 := bthen (by first | exact hX22 | exact hX23 | exact hX19a | exact hX24 | exact hX19b | exact hXd) hB25; have HS25 : Hid (SlV _ v25 _ _) := ⟨hS25⟩; clear hS25)
      | (go_at_call 19; refine (rows_any _ _ _ _ _ _ (by first | exact HS24.out | exact HS24.out.kept hB25) (by first | exact HS25.out | exact HS25.out.kept hB24)).mono ?_; rintro e v19b ⟨rfl, hB19b⟩; have hX19b : Below w1.heap.size w1 v19b := bthen (by first | exact hX22 | exact hX23 | exact hX19a | exact hX24 | exact hX25 | exact hXd) hB19b; clear HS24 HS25))
  all_goals
    go_wp2
    clear x0 x1 x2 x3 x4
    have hYd : Below w1.heap.size w1 v19b.drew := hX19b.drew
    obtain ⟨x0, x1, x2, x3, x4⟩ := KS.out v19b hX19b
    go_region_held3 (fun w' => w'.cell? ⟨w.heap.size, 0, none⟩ = some (.int .i64 n.kind) ∧ w'.cell? ⟨w.heap.size, 1, none⟩ = some (.int .i64 n.fr) ∧ w'.cell? ⟨w.heap.size, 2, none⟩ = some (.int .i64 n.to) ∧ w'.cell? ⟨w.heap.size, 3, none⟩ = some (.string n.text) ∧ w'.cell? ⟨w.heap.size, 4, none⟩ = some (.slice a1 n.kids.length c1))
      (first | go_keep | exact KS.out _ hX26 | exact KS.out _ hX27 | exact KS.out _ hX28 | exact KS.out _ hX29 | exact KS.out _ hX30 | exact KS.out _ hX9)
      (first
        | (go_at_call 26; refine (C26.out _ (by first | exact hX27 | exact hX28 | exact hX29 | exact hX30 | exact hX9 | exact hYd)).mono ?_; rintro e v26 ⟨rfl, hB26⟩; have hX26 : Below w1.heap.size w1 v26 := bthen (by first | exact hX27 | exact hX28 | exact hX29 | exact hX30 | exact hX9 | exact hYd) hB26)
        | (go_at_call 27; refine (expr_any n a1 n.kids.length c1 _).mono ?_; rintro e v27 ⟨rfl, hB27⟩; have hX27 : Below w1.heap.size w1 v27 := bthen (by first | exact hX26 | exact hX28 | exact hX29 | exact hX30 | exact hX9 | exact hYd) hB27)
        | (go_at_call 28; refine (rexpr_any n a1 n.kids.length c1 _).mono ?_; rintro e v28 ⟨rfl, hB28⟩; have hX28 : Below w1.heap.size w1 v28 := bthen (by first | exact hX26 | exact hX27 | exact hX29 | exact hX30 | exact hX9 | exact hYd) hB28)
        | (go_at_call 29; refine (stmt_any n a1 n.kids.length c1 _).mono ?_; rintro e v29 ⟨rfl, hB29⟩; have hX29 : Below w1.heap.size w1 v29 := bthen (by first | exact hX26 | exact hX27 | exact hX28 | exact hX30 | exact hX9 | exact hYd) hB29)
        | (go_at_call 30; refine (rstmt_any n a1 n.kids.length c1 _).mono ?_; rintro e v30 ⟨rfl, hB30⟩; have hX30 : Below w1.heap.size w1 v30 := bthen (by first | exact hX26 | exact hX27 | exact hX28 | exact hX29 | exact hX9 | exact hYd) hB30)
        | (go_at_call 9; refine (awake_any _).mono ?_; rintro e v9 ⟨rfl, hB9⟩; have hX9 : Below w1.heap.size w1 v9 := bthen (by first | exact hX26 | exact hX27 | exact hX28 | exact hX29 | exact hX30 | exact hYd) hB9))
  all_goals
    go_wp2
    go_ret
    exact ⟨rfl, bthen HB0.out (bthen HBv.out hX9)⟩
theorem in_news {W : World} {b o c : Nat} {ks : List Int} (h : InV W (.slice (some ⟨b, o, none⟩) ks.length c) ks) : ∀ j u, (ks.map fun d => Value.int .i64 d)[j]? = some u → W.cell? ((⟨b, o, none⟩ : Addr).add j) = some u := fun j u hu => by
  obtain ⟨a', c', e, hc⟩ := h.open
  simp at e
  obtain ⟨hl, rfl⟩ := List.getElem?_eq_some_iff.1 hu
  rw [List.length_map] at hl
  obtain ⟨b', o', e', hc'⟩ := hc j hl
  obtain ⟨rfl, _⟩ := e
  simp at e'
  obtain ⟨rfl, rfl⟩ := e'
  have e2 : (⟨b, o, none⟩ : Addr).add j = ⟨b, o + j, none⟩ := by unfold Addr.add; split <;> simp_all
  rw [e2, hc']
  simp
set_option maxRecDepth 100000 in
set_option maxHeartbeats 2000000 in
theorem treeKids_some (n : Nd) (ks : List Int) (w : World) (va : Value) (B : BP) (b o ck : Nat) (ha : SlV B w va n.kids) (hv : InV w (.slice (some ⟨b, o, none⟩) ks.length ck) ks) (h1 : n.sz ≤ 300) (h2 : ks.length ≤ 50) :
    Calls Try.prog 6 #[aggN n va, (.slice (some ⟨b, o, none⟩) ks.length ck)] w fun e w' => e = .returned (.bool true) ∧ Below w.heap.size w w' := by
  obtain ⟨a1, c1, rfl, -, -⟩ := ha.open
  obtain ⟨W0, hW0⟩ : ∃ y, w.alloc (.cells #[.int .i64 n.kind, .int .i64 n.fr, .int .i64 n.to, .string n.text, .slice a1 n.kids.length c1] 24) = y := ⟨_, rfl⟩
  have hB0 : Below w.heap.size w W0 := hW0 ▸ below_alloc _ _
  have HA : Hid (SlV B W0 (.slice a1 n.kids.length c1) n.kids) := ⟨ha.kept hB0⟩
  have HV : Hid (InV W0 (.slice (some ⟨b, o, none⟩) ks.length ck) ks) := ⟨hv.kept hB0⟩
  have k1 : W0.heap[w.heap.size]? = some (.cells #[.int .i64 n.kind, .int .i64 n.fr, .int .i64 n.to, .string n.text, .slice a1 n.kids.length c1] 24) := by rw [← hW0]; exact heap_alloc_new _ _
  have KS0 : Hid (∀ w', Below W0.heap.size W0 w' → (w'.cell? ⟨w.heap.size, 0, none⟩ = some (.int .i64 n.kind) ∧ w'.cell? ⟨w.heap.size, 1, none⟩ = some (.int .i64 n.fr) ∧ w'.cell? ⟨w.heap.size, 2, none⟩ = some (.int .i64 n.to) ∧ w'.cell? ⟨w.heap.size, 3, none⟩ = some (.string n.text) ∧ w'.cell? ⟨w.heap.size, 4, none⟩ = some (.slice a1 n.kids.length c1))) := ⟨fun w' h => by
    have j1 := (h.block _ (Array.getElem?_eq_some_iff.1 k1).1).trans k1
    simp [cell_of j1]⟩
  have C8 := in_any n W0 (.slice a1 n.kids.length c1) B HA.out
  have HB0 : Hid (Below w.heap.size w W0) := ⟨hB0⟩
  obtain ⟨x0, x1, x2, x3, x4⟩ := KS0.out W0 (Below.refl _ _)
  clear ha hv k1 hB0
  simp only [aggN, encN] at C8 hW0 ⊢
  rw [decide_eq_true h1] at C8
  have h2' : ¬ 50 < (ks.length : Int) := by omega
  have h2b : decide (50 < (ks.length : Int)) = false := decide_eq_false h2'
  obtain ⟨i3t, j1, j2, j3, j4⟩ := info3_ex
  go_enter Try.func6, Try.ntmps6
  go_wp2_with (first
    | (go_at_call 8; refine C8.mono ?_; clear C8; rintro e v8 ⟨rfl, hB8⟩)
    | (at_builtin; refine wpList_append_own_at _ rfl _ _ _ rfl v8.heap.size 3 i3t _ 1 8 Try.underlying27 j1 j2 j3 j4 rfl (by omega) (.slice none 0 0) 0 [] rfl (World.ownsRow_nil _ _ _ _) ⟨b, o, none⟩ ks.length ck (ks.map fun d => .int .i64 d) rfl (by simp) (in_news (HV.out.kept hB8)) (by simp [Value.oneCell']) (by unfold maxLen; omega) (by omega) (by omega) ?_; intro v9 w1 hown hgrow _ _; have hrow : RowI v8.heap.size w1 v9 ks := (by simpa [RowI] using hown); obtain ⟨ar, cr, rfl⟩ := hrow.slice; have HU : Hid (InV w1 (.slice ar ks.length cr) ks) := ⟨hrow.inv⟩; have HBv : Hid (Below W0.heap.size W0 w1) := ⟨bthen hB8 ((grownBy_kx hgrow).below (Nat.le_refl _) (fun _ _ h => by simp [Value.ownBlock] at h))⟩; clear hrow hown hgrow hB8))
  clear x0 x1 x2 x3 x4 j1 j2 j3 j4
  have KS : Hid (∀ w', Below w1.heap.size w1 w' → (w'.cell? ⟨w.heap.size, 0, none⟩ = some (.int .i64 n.kind) ∧ w'.cell? ⟨w.heap.size, 1, none⟩ = some (.int .i64 n.fr) ∧ w'.cell? ⟨w.heap.size, 2, none⟩ = some (.int .i64 n.to) ∧ w'.cell? ⟨w.heap.size, 3, none⟩ = some (.string n.text) ∧ w'.cell? ⟨w.heap.size, 4, none⟩ = some (.slice a1 n.kids.length c1))) := ⟨fun w' h => KS0.out w' (bthen HBv.out h)⟩
  have HSw : Hid (∀ w', Below w1.heap.size w1 w' → SlV B w' (.slice a1 n.kids.length c1) n.kids) := ⟨fun w' h => HA.out.kept (bthen HBv.out h)⟩
  have HVw : Hid (∀ w', Below w1.heap.size w1 w' → InV w' (.slice (some ⟨b, o, none⟩) ks.length ck) ks) := ⟨fun w' h => HV.out.kept (bthen HBv.out h)⟩
  have HUw : Hid (∀ w', Below w1.heap.size w1 w' → InV w' (.slice ar ks.length cr) ks) := ⟨fun w' h => HU.out.kept h⟩
  have C22 : Hid (∀ w', Below w1.heap.size w1 w' → _) := ⟨fun w' h => kids_any n (by omega) ks (by omega) w' (.slice a1 n.kids.length c1) _ B (HSw.out w' h) (HUw.out w' h)⟩
  have C23 : Hid (∀ w', Below w1.heap.size w1 w' → _) := ⟨fun w' h => rkids_any n (by omega) ks (by omega) w' (.slice a1 n.kids.length c1) _ B (HSw.out w' h) (HVw.out w' h)⟩
  have C24 : Hid (∀ w', Below w1.heap.size w1 w' → _) := ⟨fun w' h => idents_any n (by omega) w' (.slice a1 n.kids.length c1) B (HSw.out w' h)⟩
  have C25 : Hid (∀ w', Below w1.heap.size w1 w' → _) := ⟨fun w' h => ridents_any n (by omega) w' (.slice a1 n.kids.length c1) B (HSw.out w' h)⟩
  have C26 : Hid (∀ w', Below w1.heap.size w1 w' → _) := ⟨fun w' h => ints_any ks (by omega) w' _ _ (HUw.out w' h) (HVw.out w' h)⟩
  simp only [aggN, encN] at C22 C23 C24 C25
  have hX : Below w1.heap.size w1 w1 := Below.refl _ _
  have hXd : Below w1.heap.size w1 w1.drew := hX.drew
  obtain ⟨x0, x1, x2, x3, x4⟩ := KS.out w1 hX
  go_region_held3 (fun w' => w'.cell? ⟨w.heap.size, 0, none⟩ = some (.int .i64 n.kind) ∧ w'.cell? ⟨w.heap.size, 1, none⟩ = some (.int .i64 n.fr) ∧ w'.cell? ⟨w.heap.size, 2, none⟩ = some (.int .i64 n.to) ∧ w'.cell? ⟨w.heap.size, 3, none⟩ = some (.string n.text) ∧ w'.cell? ⟨w.heap.size, 4, none⟩ = some (.slice a1 n.kids.length c1))
    (first | go_keep | exact KS.out _ hX22 | exact KS.out _ hX23 | exact KS.out _ hX19a | exact KS.out _ hX24 | exact KS.out _ hX25 | exact KS.out _ hX19b)
    (first
      | (go_at_call 22; refine (C22.out _ (by first | exact hX23 | exact hX19a | exact hX24 | exact hX25 | exact hX19b | exact hXd)).mono ?_; clear C22; rintro e v22 ⟨a22, c22, rfl, hS22, hB22⟩; have hX22 : Below w1.heap.size w1 v22 := bthen (by first | exact hX23 | exact hX19a | exact hX24 | exact hX25 | exact hX19b | exact hXd) hB22; have HS22 : Hid (SlV _ v22 _ _) := ⟨hS22⟩; clear hS22)
      | (go_at_call 23; refine (C23.out _ (by first | exact hX22 | exact hX19a | exact hX24 | exact hX25 | exact hX19b | exact hXd)).mono ?_; clear C23; rintro e v23 ⟨a23, c23, rfl, hS23, hB23⟩; have hX23 : Below w1.heap.size w1 v23 := bthen (by first | exact hX22 | exact hX19a | exact hX24 | exact hX25 | exact hX19b | exact hXd) hB23; have HS23 : Hid (SlV _ v23 _ _) := ⟨hS23⟩; clear hS23)
      | (go_at_call 19; refine (rows_any _ _ _ _ _ _ (by first | exact HS22.out | exact HS22.out.kept hB23) (by first | exact HS23.out | exact HS23.out.kept hB22)).mono ?_; rintro e v19a ⟨rfl, hB19a⟩; have hX19a : Below w1.heap.size w1 v19a := bthen (by first | exact hX22 | exact hX23 | exact hX24 | exact hX25 | exact hX19b | exact hXd) hB19a; clear HS22 HS23)
      | (go_at_call 24; refine (C24.out _ (by first | exact hX22 | exact hX23 | exact hX19a | exact hX25 | exact hX19b | exact hXd)).mono ?_; clear C24; rintro e v24 ⟨a24, c24, rfl, hS24, hB24⟩; have hX24 : Below w1.heap.size w1 v24 := bthen (by first | exact hX22 | exact hX23 | exact hX19a | exact hX25 | exact hX19b | exact hXd) hB24; have HS24 : Hid (SlV _ v24 _ _) := ⟨hS24⟩; clear hS24)
      | (go_at_call 25; refine (C25.out _ (by first | exact hX22 | exact hX23 | exact hX19a | exact hX24 | exact hX19b | exact hXd)).mono ?_; clear C25; rintro e v25 ⟨a25, c25, rfl, hS25, hB25⟩; have hX25 : Below w1.heap.size w1 v25 := bthen (by first | exact hX22 | exact hX23 | exact hX19a | exact hX24 | exact hX19b | exact hXd) hB25; have HS25 : Hid (SlV _ v25 _ _) := ⟨hS25⟩; clear hS25)
      | (go_at_call 19; refine (rows_any _ _ _ _ _ _ (by first | exact HS24.out | exact HS24.out.kept hB25) (by first | exact HS25.out | exact HS25.out.kept hB24)).mono ?_; rintro e v19b ⟨rfl, hB19b⟩; have hX19b : Below w1.heap.size w1 v19b := bthen (by first | exact hX22 | exact hX23 | exact hX19a | exact hX24 | exact hX25 | exact hXd) hB19b; clear HS24 HS25))
  all_goals
    go_wp2
    clear x0 x1 x2 x3 x4
    have hYd : Below w1.heap.size w1 v19b.drew := hX19b.drew
    obtain ⟨x0, x1, x2, x3, x4⟩ := KS.out v19b hX19b
    go_region_held3 (fun w' => w'.cell? ⟨w.heap.size, 0, none⟩ = some (.int .i64 n.kind) ∧ w'.cell? ⟨w.heap.size, 1, none⟩ = some (.int .i64 n.fr) ∧ w'.cell? ⟨w.heap.size, 2, none⟩ = some (.int .i64 n.to) ∧ w'.cell? ⟨w.heap.size, 3, none⟩ = some (.string n.text) ∧ w'.cell? ⟨w.heap.size, 4, none⟩ = some (.slice a1 n.kids.length c1))
      (first | go_keep | exact KS.out _ hX26 | exact KS.out _ hX27 | exact KS.out _ hX28 | exact KS.out _ hX29 | exact KS.out _ hX30 | exact KS.out _ hX9)
      (first
        | (go_at_call 26; refine (C26.out _ (by first | exact hX27 | exact hX28 | exact hX29 | exact hX30 | exact hX9 | exact hYd)).mono ?_; rintro e v26 ⟨rfl, hB26⟩; have hX26 : Below w1.heap.size w1 v26 := bthen (by first | exact hX27 | exact hX28 | exact hX29 | exact hX30 | exact hX9 | exact hYd) hB26)
        | (go_at_call 27; refine (expr_any n a1 n.kids.length c1 _).mono ?_; rintro e v27 ⟨rfl, hB27⟩; have hX27 : Below w1.heap.size w1 v27 := bthen (by first | exact hX26 | exact hX28 | exact hX29 | exact hX30 | exact hX9 | exact hYd) hB27)
        | (go_at_call 28; refine (rexpr_any n a1 n.kids.length c1 _).mono ?_; rintro e v28 ⟨rfl, hB28⟩; have hX28 : Below w1.heap.size w1 v28 := bthen (by first | exact hX26 | exact hX27 | exact hX29 | exact hX30 | exact hX9 | exact hYd) hB28)
        | (go_at_call 29; refine (stmt_any n a1 n.kids.length c1 _).mono ?_; rintro e v29 ⟨rfl, hB29⟩; have hX29 : Below w1.heap.size w1 v29 := bthen (by first | exact hX26 | exact hX27 | exact hX28 | exact hX30 | exact hX9 | exact hYd) hB29)
        | (go_at_call 30; refine (rstmt_any n a1 n.kids.length c1 _).mono ?_; rintro e v30 ⟨rfl, hB30⟩; have hX30 : Below w1.heap.size w1 v30 := bthen (by first | exact hX26 | exact hX27 | exact hX28 | exact hX29 | exact hX9 | exact hYd) hB30)
        | (go_at_call 9; refine (awake_any _).mono ?_; rintro e v9 ⟨rfl, hB9⟩; have hX9 : Below w1.heap.size w1 v9 := bthen (by first | exact hX26 | exact hX27 | exact hX28 | exact hX29 | exact hX30 | exact hYd) hB9))
  all_goals
    go_wp2
    go_ret
    exact ⟨rfl, bthen HB0.out (bthen HBv.out hX9)⟩
end Go.Proofs.Ytgknigjpdnfkdaa
