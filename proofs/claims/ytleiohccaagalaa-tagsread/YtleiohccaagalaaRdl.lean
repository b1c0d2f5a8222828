/-
  TagsRead, walked.
-/
import Derived.Test.YtleiohccaagalaaLaw
import Derived.Test.YtleiohccaagalaaRul2
import Derived.Test.YtleiohccaagalaaPd
import Derived.Test.YtleiohccaagalaaRfa
import Derived.Test.YtleiohccaagalaaRgf
import Derived.Test.YtleiohccaagalaaRgx
import Derived.Deep.RegionWith
namespace Go.Proofs.Ytleiohccaagalaa
open Go.RowKit Go.Sort
attribute [local go_sem ↓] Go.wp_at_zero Go.wp_at_succ
set_option maxRecDepth 100000 in
set_option maxHeartbeats 4000000 in
theorem readlaw_in (S : ByteArray) (w : World) (hS : S.size ≤ 600) (hM : Mx w) {p : Pt} (hp : readR S.data.toList = some p) : Calls Try.prog 3 #[.string S] w fun e w' => e = .returned (.bool true) ∧ Below w.heap.size w w' := by
  have hrd := rdd_read hp
  rw [bal] at hrd
  have htx := hrd.text_le (by omega)
  have hnm := hrd.names_le
  have h1 := Read_any S w (by omega) hM
  have h2 := fun W => rread_any S W (by omega)
  rw [hp] at h1 h2
  have HA : Hid (∀ W, Below w.heap.size w W → Calls Try.prog 8 #[] W fun e w' => e = .returned (.bool true) ∧ Below W.heap.size W w') := fun W h => awake_any W (hM.below hM.lt h)
  have HX : Hid (∀ W v, RuleV W v p → Calls Try.prog 14 #[v] W fun e w' => e = .returned (.string (bs p.text)) ∧ Below W.heap.size W w') := fun W v hr => Text_any hr (by omega)
  have HG : Hid (∀ W v, RuleV W v p → Calls Try.prog 12 #[v] W (EoQ W (eo p.names))) := fun W v hr => Tags_any hr (by omega)
  have HRX : Hid (∀ (Q : BP) W v, SlV Q W v (nf p).kids → Calls Try.prog 15 #[.agg #[.int .i64 (nf p).kind, .string (bs (nf p).tag), v]] W fun e w' => e = .returned (.string (bs p.text)) ∧ Below W.heap.size W w') := fun Q W v hv => by
    have := rtext_any Q (nf p) (nf_wf p) (by rw [nf_txt]; omega) W v hv
    rwa [nf_txt] at this
  have HRG : Hid (∀ (Q : BP) W v, SlV Q W v (nf p).kids → Calls Try.prog 13 #[.agg #[.int .i64 (nf p).kind, .string (bs (nf p).tag), v]] W (EoQ W (eo p.names))) := fun Q W v hv => by
    have := rtags_any Q (nf p) (by rw [nf_all]; omega) W v hv
    rwa [nf_all] at this
  have HE : Hid ((eo p.names).length ≤ 1000000) := by have := eo_le p.names; show _ ≤ _; omega
  have kS : ¬ (600 : Int) < (S.size : Int) := by omega
  clear hM hp hrd htx hnm hS
  generalize bs p.text = X at *
  generalize eo p.names = L at *
  go_enter Try.func3, Try.ntmps3
  go_wp2_with (first
    | (go_at_call 9; refine h1.mono ?_; intro e w1 hq; obtain ⟨b1, rfl, hbz, hru⟩ := hq.yes _ rfl; have HB1 : Hid (Below w.heap.size w w1) := hq.bl; have HU1 : Hid (RuleV w1 (.pointer (some ⟨b1, 0, none⟩)) p) := .inr ⟨b1, rfl, hru⟩; have hz1 := hq.bl.size; clear hq h1 hru hbz)
    | (go_at_call 10; refine (h2 _).mono ?_; intro e w2 hq; obtain ⟨va, vc, rfl, hv⟩ := hq.yes _ rfl; have HB2 : Hid (Below w.heap.size w w2) := HB1.out.trans (hq.bl.mono hz1); have HU2 : Hid (RuleV w2 (.pointer (some ⟨b1, 0, none⟩)) p) := RuleV.whole HU1.out hq.bl; have HV2 : Hid (SlV (Bf w1.heap.size) w2 (.slice va (nf p).kids.length vc) (nf p).kids) := hv; have hz2 := HB2.out.size; clear hq h2 hv))
  have hb3 := below_alloc w2 (.cells #[.int .i64 (nf p).kind, .string (bs (nf p).tag), .slice va (nf p).kids.length vc] 29)
  have hx3 := heap_new w2 (.cells #[.int .i64 (nf p).kind, .string (bs (nf p).tag), .slice va (nf p).kids.length vc] 29)
  have HB3 : Hid (Below w.heap.size w (w2.alloc (.cells #[.int .i64 (nf p).kind, .string (bs (nf p).tag), .slice va (nf p).kids.length vc] 29))) := HB2.out.trans (hb3.mono hz2)
  have HU3 : Hid (RuleV (w2.alloc (.cells #[.int .i64 (nf p).kind, .string (bs (nf p).tag), .slice va (nf p).kids.length vc] 29)) (.pointer (some ⟨b1, 0, none⟩)) p) := RuleV.whole HU2.out hb3
  have HV3 : Hid (SlV (Bf w1.heap.size) (w2.alloc (.cells #[.int .i64 (nf p).kind, .string (bs (nf p).tag), .slice va (nf p).kids.length vc] 29)) (.slice va (nf p).kids.length vc) (nf p).kids) := HV2.out.kept hb3
  obtain ⟨d0, d1, d2, _, _, _⟩ := bx3 hx3
  clear hx3 hb3 HB2 HU2 HV2
  generalize w2.alloc (.cells #[.int .i64 (nf p).kind, .string (bs (nf p).tag), .slice va (nf p).kids.length vc] 29) = w3 at *
  have HG3 : Hid (∀ W, Below w3.heap.size w3 W → Calls Try.prog 12 #[.pointer (some ⟨b1, 0, none⟩)] W (EoQ W L)) := fun W h => HG.out W _ (RuleV.whole HU3.out h)
  have HX3 : Hid (∀ W, Below w3.heap.size w3 W → Calls Try.prog 14 #[.pointer (some ⟨b1, 0, none⟩)] W fun e w' => e = .returned (.string X) ∧ Below W.heap.size W w') := fun W h => HX.out W _ (RuleV.whole HU3.out h)
  have HRG3 : Hid (∀ W, Below w3.heap.size w3 W → Calls Try.prog 13 #[.agg #[.int .i64 (nf p).kind, .string (bs (nf p).tag), .slice va (nf p).kids.length vc]] W (EoQ W L)) := fun W h => HRG.out _ W _ (HV3.out.kept h)
  have HRX3 : Hid (∀ W, Below w3.heap.size w3 W → Calls Try.prog 15 #[.agg #[.int .i64 (nf p).kind, .string (bs (nf p).tag), .slice va (nf p).kids.length vc]] W fun e w' => e = .returned (.string X) ∧ Below W.heap.size W w') := fun W h => HRX.out _ W _ (HV3.out.kept h)
  have HKP : Hid (∀ W, Below w3.heap.size w3 W → W.cell? ⟨w2.heap.size, 0, none⟩ = some (.int .i64 (nf p).kind) ∧ W.cell? ⟨w2.heap.size, 1, none⟩ = some (.string (bs (nf p).tag)) ∧ W.cell? ⟨w2.heap.size, 2, none⟩ = some (.slice va (nf p).kids.length vc)) := fun W h => ⟨kept_cell h d0, kept_cell h d1, kept_cell h d2⟩
  have HA3 : Hid (∀ W, Below w3.heap.size w3 W → Calls Try.prog 8 #[] W fun e w' => e = .returned (.bool true) ∧ Below W.heap.size W w') := fun W h => HA.out W (HB3.out.trans (h.mono HB3.out.size))
  clear d0 d1 d2 HG HX HRG HRX HA HU3 HV3
  generalize (nf p).kind = K at *
  generalize (nf p).kids.length = N at *
  generalize bs (nf p).tag = T at *
  have kX : (X.toList == X.toList) = true := by simp
  have kS := HKP.out w3 (Below.refl _ _)
  go_region_held3 (fun w' => w'.cell? ⟨w2.heap.size, 0, none⟩ = some (.int .i64 K) ∧ w'.cell? ⟨w2.heap.size, 1, none⟩ = some (.string T) ∧ w'.cell? ⟨w2.heap.size, 2, none⟩ = some (.slice va N vc))
    (first | exact kS | go_keep)
    (first
      | (go_at_call 12; refine (HG3.out _ (below_drew1 _)).mono ?_; intro e w4 hq; obtain ⟨a4, c4, rfl, hr4⟩ := hq.ex; have HB4 : Hid (Below w3.heap.size w3 w4) := (below_drew1 _).trans hq.bl; have HR4 : Hid (TxV w4 a4 L.length c4 L) := hr4.txv; have kS := HKP.out w4 HB4.out; have hz4 := HB4.out.size; clear hq hr4 HG3)
      | (go_at_call 13; refine (HRG3.out _ HB4.out).mono ?_; intro e w5 hq; obtain ⟨a5, c5, rfl, hr5⟩ := hq.ex; have HB5 : Hid (Below w3.heap.size w3 w5) := HB4.out.trans (hq.bl.mono hz4); have kS := HKP.out w5 HB5.out; have hz5 := HB5.out.size; have h6 := texts_any (HR4.out.whole hq.bl) hr5.txv (by have := HE.out; omega); rw [decide_eq_true rfl] at h6; clear hq hr5 HRG3)
      | (go_at_call 11; refine h6.mono ?_; rintro e w6 ⟨rfl, q6, hw6⟩; have HB6 : Hid (Below w3.heap.size w3 w6) := (by show Below _ _ _; rw [hw6]; exact HB5.out.trans (below_draws _ _ _)); have kS := HKP.out w6 HB6.out; have hz6 := HB6.out.size; clear h6 hw6)
      | (go_at_call 14; refine (HX3.out _ HB6.out).mono ?_; rintro e w7 ⟨rfl, hb7⟩; have HB7 : Hid (Below w3.heap.size w3 w7) := HB6.out.trans (hb7.mono hz6); have kS := HKP.out w7 HB7.out; have hz7 := HB7.out.size; clear hb7 HX3)
      | (go_at_call 15; refine (HRX3.out _ HB7.out).mono ?_; rintro e w8 ⟨rfl, hb8⟩; have HB8 : Hid (Below w3.heap.size w3 w8) := HB7.out.trans (hb8.mono hz7); have kS := HKP.out w8 HB8.out; have hz8 := HB8.out.size; clear hb8 HRX3)
      | (go_at_call 8; refine (HA3.out _ HB8.out).mono ?_; rintro e w9 ⟨rfl, hb9⟩; have HB9 : Hid (Below w3.heap.size w3 w9) := HB8.out.trans (hb9.mono hz8); have kS := HKP.out w9 HB9.out; clear hb9 HA3))
  all_goals
    go_wp2_with fail
    go_ret
    exact ⟨rfl, HB3.out.trans (HB9.out.mono HB3.out.size)⟩
set_option maxRecDepth 100000 in
set_option maxHeartbeats 4000000 in
theorem readlaw_any (S : ByteArray) (w : World) (hM : Mx w) : Calls Try.prog 3 #[.string S] w fun e w' => e = .returned (.bool true) ∧ Below w.heap.size w w' := by
  have HA : Hid (∀ W, Below w.heap.size w W → Calls Try.prog 8 #[] W fun e w' => e = .returned (.bool true) ∧ Below W.heap.size W w') := fun W h => awake_any W (hM.below hM.lt h)
  by_cases hS : S.size ≤ 600
  · cases hp : readR S.data.toList with
    | some p => exact readlaw_in S w hS hM hp
    | none =>
      have h1 := Read_any S w (by omega) hM
      have h2 := fun W => rread_any S W (by omega)
      rw [hp] at h1 h2
      have kS : ¬ (600 : Int) < (S.size : Int) := by omega
      clear hM hp hS
      go_enter Try.func3, Try.ntmps3
      go_wp2_with (first
        | (go_at_call 9; refine h1.mono ?_; intro e w1 hq; obtain rfl := hq.no rfl; have HB1 : Hid (Below w.heap.size w w1) := hq.bl; have hz1 := hq.bl.size; clear hq h1)
        | (go_at_call 10; refine (h2 _).mono ?_; intro e w2 hq; obtain rfl := hq.no rfl; have HB2 : Hid (Below w.heap.size w w2) := HB1.out.trans (hq.bl.mono hz1); have hz2 := HB2.out.size; clear hq h2))
      have hb3 := below_alloc w2 (.cells #[.int .i64 0, .string ⟨#[]⟩, .slice none 0 0] 29)
      obtain ⟨d0, d1, d2, _, _, _⟩ := bx3 (heap_new w2 (.cells #[.int .i64 0, .string ⟨#[]⟩, .slice none 0 0] 29))
      have HB3 : Hid (Below w.heap.size w (w2.alloc (.cells #[.int .i64 0, .string ⟨#[]⟩, .slice none 0 0] 29))) := HB2.out.trans (hb3.mono hz2)
      clear hb3 HB2
      generalize w2.alloc (.cells #[.int .i64 0, .string ⟨#[]⟩, .slice none 0 0] 29) = w3 at *
      have HA3 : Hid (∀ W, Below w3.heap.size w3 W → Calls Try.prog 8 #[] W fun e w' => e = .returned (.bool true) ∧ Below W.heap.size W w') := fun W h => HA.out W (HB3.out.trans (h.mono HB3.out.size))
      have kS : w3.cell? ⟨w2.heap.size, 0, none⟩ = some (.int .i64 0) := d0
      refine wp_region_held_drew (S := fun w' => w'.cell? ⟨w2.heap.size, 0, none⟩ = some (.int .i64 0)) (by kernel_rfl) (by exact kS) (fun hHeld => ?_)
      clear hHeld
      refine wpAnyH_take (i := 0) (oi := { dst := some 31, op := Op.move (Operand.tmp 3), type := 23, pos := "law.go:38", after := #[], guard := none }) (v := ?_) rfl (by kernel_rfl) (by kernel_rfl) (by kernel_rfl) (fun _ _ _ h => h) (Or.inl ⟨by rfl, ?_⟩) (by exact kS) ?_
      rotate_left
      · intro w hSw; (try dsimp only at hSw); (go_simp <;> with_reducible rfl)
      try simp only [Act.put, List.setIfInBounds_toArray, List.set_cons_zero, List.set_cons_succ]
      refine wpAnyH_take (i := 1) (oi := { dst := some 32, op := Op.binOp BinOp.eql 23 (Operand.tmp 31) (Operand.const (Value.pointer none)) 23, type := 4, pos := "law.go:38", after := #[{ on := 0, ground := Ground.data }], guard := none }) (v := ?_) rfl (by kernel_rfl) (by kernel_rfl) (by kernel_rfl) (fun _ _ _ h => h) (Or.inl ⟨by rfl, ?_⟩) (by exact kS) ?_
      rotate_left
      · intro w hSw; (try dsimp only at hSw); (go_simp <;> with_reducible rfl)
      try simp only [Act.put, List.setIfInBounds_toArray, List.set_cons_zero, List.set_cons_succ]
      refine wpAnyH_take (i := 2) (oi := { dst := some 33, op := Op.move (Operand.tmp 32), type := 4, pos := "law.go:38", after := #[{ on := 1, ground := Ground.data }], guard := none }) (v := ?_) rfl (by kernel_rfl) (by kernel_rfl) (by kernel_rfl) (fun _ _ _ h => h) (Or.inl ⟨by rfl, ?_⟩) (by exact kS) ?_
      rotate_left
      · intro w hSw; (try dsimp only at hSw); (go_simp <;> with_reducible rfl)
      try simp only [Act.put, List.setIfInBounds_toArray, List.set_cons_zero, List.set_cons_succ]
      refine wpAnyH_take (i := 3) (oi := { dst := some 34, op := Op.move (Operand.tmp 3), type := 23, pos := "law.go:38", after := #[{ on := 2, ground := Ground.guard }], guard := some (2, false) }) (v := undef) rfl (by kernel_rfl) (by kernel_rfl) (by kernel_rfl) (fun _ _ _ h => h) (Or.inr ⟨by rfl, rfl⟩) (by exact kS) ?_
      try simp only [Act.put, List.setIfInBounds_toArray, List.set_cons_zero, List.set_cons_succ]
      refine wpAnyH_take (i := 5) (oi := { dst := some 36, op := Op.load 29 (Operand.tmp 5), type := 29, pos := "law.go:38", after := #[{ on := 2, ground := Ground.guard }], guard := some (2, false) }) (v := undef) rfl (by kernel_rfl) (by kernel_rfl) (by kernel_rfl) (fun _ _ _ h => h) (Or.inr ⟨by rfl, rfl⟩) (by exact kS) ?_
      try simp only [Act.put, List.setIfInBounds_toArray, List.set_cons_zero, List.set_cons_succ]
      refine wpAnyH_ready (rs := [4]) (by kernel_rfl) (by simp) ?_
      refine AllReadyH.cons (o := { dst := some 35, op := Op.call { callee := Callee.value (Operand.func 12), args := #[Operand.tmp 34], argTypes := #[23] }, type := 33, pos := "law.go:38", after := #[{ on := 3, ground := Ground.data }, { on := 2, ground := Ground.chain }, { on := 2, ground := Ground.guard }], guard := some (2, false) }) rfl (fun K hK => ?_) AllReadyH.nil
      go_simp
      refine hK.out _ _ (by exact kS) (fun hHeld => ?_)
      clear hK K hHeld
      try simp only [Act.put, List.setIfInBounds_toArray, List.set_cons_zero, List.set_cons_succ]
      refine wpAnyH_ready (rs := [6]) (by kernel_rfl) (by simp) ?_
      refine AllReadyH.cons (o := { dst := some 37, op := Op.call { callee := Callee.value (Operand.func 13), args := #[Operand.tmp 36], argTypes := #[29] }, type := 33, pos := "law.go:38", after := #[{ on := 5, ground := Ground.data }, { on := 4, ground := Ground.chain }, { on := 2, ground := Ground.guard }], guard := some (2, false) }) rfl (fun K hK => ?_) AllReadyH.nil
      go_simp
      refine hK.out _ _ (by exact kS) (fun hHeld => ?_)
      clear hK K hHeld
      try simp only [Act.put, List.setIfInBounds_toArray, List.set_cons_zero, List.set_cons_succ]
      refine wpAnyH_ready (rs := [7]) (by kernel_rfl) (by simp) ?_
      refine AllReadyH.cons (o := { dst := some 38, op := Op.call { callee := Callee.value (Operand.func 11), args := #[Operand.tmp 35, Operand.tmp 37], argTypes := #[33, 33] }, type := 4, pos := "law.go:38", after := #[{ on := 4, ground := Ground.data }, { on := 6, ground := Ground.data }, { on := 6, ground := Ground.chain }, { on := 2, ground := Ground.guard }], guard := some (2, false) }) rfl (fun K hK => ?_) AllReadyH.nil
      go_simp
      refine hK.out _ _ (by exact kS) (fun hHeld => ?_)
      clear hK K hHeld
      try simp only [Act.put, List.setIfInBounds_toArray, List.set_cons_zero, List.set_cons_succ]
      refine wpAnyH_take (i := 8) (oi := { dst := some 39, op := Op.move (Operand.tmp 38), type := 4, pos := "law.go:38", after := #[{ on := 7, ground := Ground.data }, { on := 7, ground := Ground.chain }, { on := 2, ground := Ground.guard }], guard := some (2, false) }) (v := undef) rfl (by kernel_rfl) (by kernel_rfl) (by kernel_rfl) (fun _ _ _ h => h) (Or.inr ⟨by rfl, rfl⟩) (by exact kS) ?_
      try simp only [Act.put, List.setIfInBounds_toArray, List.set_cons_zero, List.set_cons_succ]
      refine wpAnyH_take (i := 9) (oi := { dst := some 40, op := Op.move (Operand.tmp 3), type := 23, pos := "law.go:38", after := #[{ on := 8, ground := Ground.guard }], guard := some (8, true) }) (v := undef) rfl (by kernel_rfl) (by kernel_rfl) (by kernel_rfl) (fun _ _ _ h => h) (Or.inr ⟨by rfl, rfl⟩) (by exact kS) ?_
      try simp only [Act.put, List.setIfInBounds_toArray, List.set_cons_zero, List.set_cons_succ]
      refine wpAnyH_take (i := 11) (oi := { dst := some 42, op := Op.load 29 (Operand.tmp 5), type := 29, pos := "law.go:38", after := #[{ on := 8, ground := Ground.guard }], guard := some (8, true) }) (v := undef) rfl (by kernel_rfl) (by kernel_rfl) (by kernel_rfl) (fun _ _ _ h => h) (Or.inr ⟨by rfl, rfl⟩) (by exact kS) ?_
      try simp only [Act.put, List.setIfInBounds_toArray, List.set_cons_zero, List.set_cons_succ]
      refine wpAnyH_ready (rs := [10]) (by kernel_rfl) (by simp) ?_
      refine AllReadyH.cons (o := { dst := some 41, op := Op.call { callee := Callee.value (Operand.func 14), args := #[Operand.tmp 40], argTypes := #[23] }, type := 9, pos := "law.go:38", after := #[{ on := 9, ground := Ground.data }, { on := 8, ground := Ground.chain }, { on := 8, ground := Ground.guard }], guard := some (8, true) }) rfl (fun K hK => ?_) AllReadyH.nil
      go_simp
      refine hK.out _ _ (by exact kS) (fun hHeld => ?_)
      clear hK K hHeld
      try simp only [Act.put, List.setIfInBounds_toArray, List.set_cons_zero, List.set_cons_succ]
      refine wpAnyH_ready (rs := [12]) (by kernel_rfl) (by simp) ?_
      refine AllReadyH.cons (o := { dst := some 43, op := Op.call { callee := Callee.value (Operand.func 15), args := #[Operand.tmp 42], argTypes := #[29] }, type := 9, pos := "law.go:38", after := #[{ on := 11, ground := Ground.data }, { on := 10, ground := Ground.chain }, { on := 8, ground := Ground.guard }], guard := some (8, true) }) rfl (fun K hK => ?_) AllReadyH.nil
      go_simp
      refine hK.out _ _ (by exact kS) (fun hHeld => ?_)
      clear hK K hHeld
      try simp only [Act.put, List.setIfInBounds_toArray, List.set_cons_zero, List.set_cons_succ]
      refine wpAnyH_take (i := 13) (oi := { dst := some 44, op := Op.binOp BinOp.eql 9 (Operand.tmp 41) (Operand.tmp 43) 9, type := 4, pos := "law.go:38", after := #[{ on := 10, ground := Ground.data }, { on := 12, ground := Ground.data }, { on := 8, ground := Ground.guard }], guard := some (8, true) }) (v := undef) rfl (by kernel_rfl) (by kernel_rfl) (by kernel_rfl) (fun _ _ _ h => h) (Or.inr ⟨by rfl, rfl⟩) (by exact kS) ?_
      try simp only [Act.put, List.setIfInBounds_toArray, List.set_cons_zero, List.set_cons_succ]
      refine wpAnyH_take (i := 14) (oi := { dst := some 45, op := Op.pick (Operand.tmp 39) (Operand.tmp 44) (Operand.const (Value.bool false)), type := 4, pos := "law.go:38", after := #[{ on := 8, ground := Ground.data }, { on := 13, ground := Ground.data }, { on := 2, ground := Ground.guard }], guard := some (2, false) }) (v := undef) rfl (by kernel_rfl) (by kernel_rfl) (by kernel_rfl) (fun _ _ _ h => h) (Or.inr ⟨by rfl, rfl⟩) (by exact kS) ?_
      try simp only [Act.put, List.setIfInBounds_toArray, List.set_cons_zero, List.set_cons_succ]
      refine wpAnyH_take (i := 15) (oi := { dst := some 46, op := Op.pick (Operand.tmp 33) (Operand.const (Value.bool true)) (Operand.tmp 45), type := 4, pos := "law.go:38", after := #[{ on := 2, ground := Ground.data }, { on := 14, ground := Ground.data }], guard := none }) (v := ?_) rfl (by kernel_rfl) (by kernel_rfl) (by kernel_rfl) (fun _ _ _ h => h) (Or.inl ⟨by rfl, ?_⟩) (by exact kS) ?_
      rotate_left
      · intro w hSw; (try dsimp only at hSw); (go_simp <;> with_reducible rfl)
      try simp only [Act.put, List.setIfInBounds_toArray, List.set_cons_zero, List.set_cons_succ]
      refine wpAnyH_take (i := 16) (oi := { dst := some 47, op := Op.move (Operand.tmp 46), type := 4, pos := "law.go:38", after := #[{ on := 15, ground := Ground.data }, { on := 12, ground := Ground.chain }], guard := none }) (v := ?_) rfl (by kernel_rfl) (by kernel_rfl) (by kernel_rfl) (fun _ _ _ h => h) (Or.inl ⟨by rfl, ?_⟩) (by exact kS) ?_
      rotate_left
      · intro w hSw; (try dsimp only at hSw); (go_simp <;> with_reducible rfl)
      try simp only [Act.put, List.setIfInBounds_toArray, List.set_cons_zero, List.set_cons_succ]
      refine wpAnyH_ready (rs := [17]) (by kernel_rfl) (by simp) ?_
      refine AllReadyH.cons (o := { dst := some 48, op := Op.call { callee := Callee.value (Operand.func 8), args := #[], argTypes := #[] }, type := 4, pos := "law.go:38", after := #[{ on := 16, ground := Ground.chain }, { on := 16, ground := Ground.guard }], guard := some (16, true) }) rfl (fun K hK => ?_) AllReadyH.nil
      go_simp
      (go_at_call 8; refine (HA3.out _ (below_drew1 _)).mono ?_; rintro e w9 ⟨rfl, hb9⟩; have HB9 : Hid (Below w3.heap.size w3 w9) := (below_drew1 _).trans hb9; have kS : w9.cell? ⟨w2.heap.size, 0, none⟩ = some (.int .i64 0) := kept_cell HB9.out d0; clear hb9 HA3)
      go_wp2_with fail
      refine hK.out _ _ (by exact kS) (fun hHeld => ?_)
      clear hK K hHeld
      try simp only [Act.put, List.setIfInBounds_toArray, List.set_cons_zero, List.set_cons_succ]
      refine wpAnyH_take (i := 18) (oi := { dst := some 49, op := Op.pick (Operand.tmp 47) (Operand.tmp 48) (Operand.const (Value.bool false)), type := 4, pos := "law.go:38", after := #[{ on := 16, ground := Ground.data }, { on := 17, ground := Ground.data }], guard := none }) (v := ?_) rfl (by kernel_rfl) (by kernel_rfl) (by kernel_rfl) (fun _ _ _ h => h) (Or.inl ⟨by rfl, ?_⟩) (by exact kS) ?_
      rotate_left
      · intro w hSw; (try dsimp only at hSw); (go_simp <;> with_reducible rfl)
      try simp only [Act.put, List.setIfInBounds_toArray, List.set_cons_zero, List.set_cons_succ]
      refine wpAnyH_take (i := 19) (oi := { dst := some 2, op := Op.assign (Operand.tmp 49), type := 4, pos := "law.go:38", after := #[{ on := 18, ground := Ground.data }, { on := 17, ground := Ground.chain }, { on := 0, ground := Ground.phase }, { on := 1, ground := Ground.phase }, { on := 2, ground := Ground.phase }, { on := 3, ground := Ground.phase }, { on := 4, ground := Ground.phase }, { on := 5, ground := Ground.phase }, { on := 6, ground := Ground.phase }, { on := 7, ground := Ground.phase }, { on := 8, ground := Ground.phase }, { on := 9, ground := Ground.phase }, { on := 10, ground := Ground.phase }, { on := 11, ground := Ground.phase }, { on := 12, ground := Ground.phase }, { on := 13, ground := Ground.phase }, { on := 14, ground := Ground.phase }, { on := 15, ground := Ground.phase }, { on := 16, ground := Ground.phase }, { on := 17, ground := Ground.phase }, { on := 18, ground := Ground.phase }], guard := none }) (v := ?_) rfl (by kernel_rfl) (by kernel_rfl) (by kernel_rfl) (fun _ _ _ h => h) (Or.inl ⟨by rfl, ?_⟩) (by exact kS) ?_
      rotate_left
      · intro w hSw; (try dsimp only at hSw); (go_simp <;> with_reducible rfl)
      try simp only [Act.put, List.setIfInBounds_toArray, List.set_cons_zero, List.set_cons_succ]
      refine wpAnyH_done (by kernel_rfl) ?_ _
      go_wp2_with fail
      go_ret
      exact ⟨rfl, HB3.out.trans (HB9.out.mono HB3.out.size)⟩
  · have kS : (600 : Int) < (S.size : Int) := by omega
    clear hS hM
    go_enter Try.func3, Try.ntmps3
    go_wp2_with (go_at_call 8; refine (HA.out _ (Below.refl _ _)).mono ?_; rintro e w2 ⟨rfl, hb2⟩)
    go_ret
    exact ⟨rfl, hb2⟩
end Go.Proofs.Ytleiohccaagalaa
