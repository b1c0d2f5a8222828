/-
  The law TypesNothing, walked.
-/
import Derived.Test.YtifcikhgbafegaaMkl
import Derived.Test.YtifcikhgbafegaaNnK
import Derived.Test.YtifcikhgbafegaaNnC
import Derived.Test.YtifcikhgbafegaaNnU
import Derived.Deep.RegionHeld3
import Derived.Test.YtifcikhgbafegaaRows
import Derived.Test.YtifcikhgbafegaaOpn
import Derived.WalkKit
import Derived.ProofKit
import Derived.OpenShut
import Derived.ShutString
import Derived.HandedShaped
import Derived.Carry
namespace Go.Proofs.Ytifcikhgbafegaa
open Go.RowKit
attribute [local go_sem ↓] Go.wp_at_zero Go.wp_at_succ
set_option maxRecDepth 100000 in
set_option maxHeartbeats 8000000 in
theorem typesNothing_any {W : World} {t : Ty} {vn vm vk : Value} (name : ByteArray) (hp : Prt (fun b => b < W.heap.size) W t vn vm vk) (hf : Fit t) :
    Calls Try.prog 8 #[agT t vn vm vk, .string name] W fun e w' => e = .returned (.bool true) ∧ Below W.heap.size W w' := by
  obtain ⟨an, cn, am, cm, ak, ck, rfl, rfl, rfl⟩ := hp.form
  obtain ⟨ln, hln⟩ : ∃ l, t.names.length = l := ⟨_, rfl⟩
  obtain ⟨lm, hlm⟩ : ∃ l, t.marks.length = l := ⟨_, rfl⟩
  obtain ⟨lk, hlk⟩ : ∃ l, t.kids.length = l := ⟨_, rfl⟩
  rw [hln, hlm, hlk] at hp ⊢
  obtain ⟨k, nm, n, f, ns, ms, ks⟩ := t
  have HLN : Hid (ns.length = ln ∧ ms.length = lm ∧ ks.length = lk) := ⟨hln, hlm, hlk⟩
  clear hln hlm hlk
  have HF : Hid (Fit (.mk k nm n f ns ms ks)) := hf
  have HP : Hid (Prt (fun b => b < W.heap.size) W (.mk k nm n f ns ms ks) (.slice an ln cn) (.slice am lm cm) (.slice ak lk ck)) := hp
  unfold agT
  simp only [Ty.kind, Ty.name, Ty.n, Ty.flag]
  have hb2 : Below W.heap.size W ((W.alloc (.cells #[.int .i64 k, .string nm, .int .i64 n, .bool f, .slice an ln cn, .slice am lm cm, .slice ak lk ck] 26)).alloc (.cells #[.int .i64 k, .string nm, .int .i64 n, .bool f, .slice an ln cn, .slice am lm cm, .slice ak lk ck] 26)) := bthen (below_alloc _ _) (below_alloc _ _)
  have hi := in_any (B := fun _ => True) (w := ((W.alloc (.cells #[.int .i64 k, .string nm, .int .i64 n, .bool f, .slice an ln cn, .slice am lm cm, .slice ak lk ck] 26)).alloc (.cells #[.int .i64 k, .string nm, .int .i64 n, .bool f, .slice an ln cn, .slice am lm cm, .slice ak lk ck] 26))) (a := some ⟨W.heap.size + 1, 0, none⟩) (lk := 1) (ck := 1) (ks := [(.mk k nm n f ns ms ks)]) (by
    refine .inr ⟨W.heap.size + 1, 0, 1, rfl, by simp, by simp, trivial, liesT_cons.2 ⟨?_, liesT_nil⟩⟩
    have hbk := heap_new (W.alloc (.cells #[.int .i64 k, .string nm, .int .i64 n, .bool f, .slice an ln cn, .slice am lm cm, .slice ak lk ck] 26)) (.cells #[.int .i64 k, .string nm, .int .i64 n, .bool f, .slice an ln cn, .slice am lm cm, .slice ak lk ck] 26)
    rw [World.size_alloc] at hbk
    obtain ⟨c0, c1, c2, c3, c4, c5, c6⟩ := bx7 hbk
    exact lies_iff.2 ⟨c0, c1, c2, c3, _, _, _, c4, c5, c6, (hp.kept hb2).with (fun _ _ _ => trivial)⟩)
  have HT0 : Hid (((W.alloc (.cells #[.int .i64 k, .string nm, .int .i64 n, .bool f, .slice an ln cn, .slice am lm cm, .slice ak lk ck] 26)).alloc (.cells #[.int .i64 k, .string nm, .int .i64 n, .bool f, .slice an ln cn, .slice am lm cm, .slice ak lk ck] 26)).heap[W.heap.size]? = some (.cells #[.int .i64 k, .string nm, .int .i64 n, .bool f, .slice an ln cn, .slice am lm cm, .slice ak lk ck] 26 (0, 0))) := blk_kept (below_alloc _ _) (heap_new W _)
  have HB0 : Hid (Below W.heap.size W ((W.alloc (.cells #[.int .i64 k, .string nm, .int .i64 n, .bool f, .slice an ln cn, .slice am lm cm, .slice ak lk ck] 26)).alloc (.cells #[.int .i64 k, .string nm, .int .i64 n, .bool f, .slice an ln cn, .slice am lm cm, .slice ak lk ck] 26))) := hb2
  clear hp hf hb2
  go_enter Try.func8, Try.ntmps8
  go_wp2_with fail
  refine hi.mono ?_
  rintro e y1 ⟨hbl, b, rfl, hin⟩
  have HB1 : Hid (Below W.heap.size W y1) := bthen HB0.out hbl
  have hT0 : y1.heap[W.heap.size]? = some (.cells #[.int .i64 k, .string nm, .int .i64 n, .bool f, .slice an ln cn, .slice am lm cm, .slice ak lk ck] 26 (0, 0)) := blk_kept hbl HT0.out
  have HT1 : Hid (y1.heap[W.heap.size]? = some (.cells #[.int .i64 k, .string nm, .int .i64 n, .bool f, .slice an ln cn, .slice am lm cm, .slice ak lk ck] 26 (0, 0))) := hT0
  have HIN : Hid (b = true → ∀ x ∈ [(.mk k nm n f ns ms ks)], Lkd x) := hin
  clear hi hbl HT0 HB0 hin hT0
  obtain ⟨T0, hT⟩ : ∃ T0, W.heap.size = T0 := ⟨_, rfl⟩
  rw [hT] at HT1
  cases b with
  | false =>
    go_wp2_with fail
    refine (awake_any y1).mono ?_
    rintro e x2 ⟨rfl, hb⟩
    have HB : Hid _ := hb
    clear hb
    go_wp2_with fail
    go_ret
    exact ⟨rfl, bthen HB1.out HB.out⟩
  | true =>
    have hlk := HIN.out rfl (.mk k nm n f ns ms ks) (by simp)
    have HSH : Hid (Shp (.mk k nm n f ns ms ks)) := hlk.2
    have HCN : Hid (((.mk k nm n f ns ms ks) : Ty).cnt ≤ 1000000) := by have := lkd_cnt hlk; show _ ≤ _; omega
    clear hlk HIN
    go_wp2_with fail
    refine (named_none name y1).mono ?_
    rintro e y2 ⟨⟨bn, en, bm, em, bk, ek, rfl⟩, hb⟩
    have HB2 : Hid (Below y1.heap.size y1 y2) := hb
    clear hb
    go_wp2_with fail
    obtain ⟨V, hV⟩ : ∃ V, y2.heap.size + 1 = V := ⟨_, rfl⟩
    obtain ⟨wr, hw⟩ : ∃ wr, (y2.alloc (.cells #[.string ⟨#[]⟩, .int .i64 0, .string ⟨#[]⟩, .int .i64 0, .bool false, .slice bn 0 en, .slice bm 0 em, .slice bk 0 ek, .slice none 0 0] 48)).alloc (.cells #[.slice none 0 0] 59) = wr := ⟨_, rfl⟩
    have hwz : Wz wr V := by
      have := heap_new (y2.alloc (.cells #[.string ⟨#[]⟩, .int .i64 0, .string ⟨#[]⟩, .int .i64 0, .bool false, .slice bn 0 en, .slice bm 0 em, .slice bk 0 ek, .slice none 0 0] 48)) (.cells #[.slice none 0 0] 59)
      rw [World.size_alloc, hV, hw] at this
      exact this
    have hyr : Below y1.heap.size y1 wr := by rw [← hw]; exact bthen HB2.out (bthen (below_alloc _ _) (below_alloc _ _))
    have HBR : Hid (Below W.heap.size W wr) := bthen HB1.out hyr
    have hTr : wr.heap[T0]? = some (.cells #[.int .i64 k, .string nm, .int .i64 n, .bool f, .slice an ln cn, .slice am lm cm, .slice ak lk ck] 26 (0, 0)) := blk_kept hyr HT1.out
    have hpr : Prt (fun b => b < W.heap.size) wr (.mk k nm n f ns ms ks) (.slice an ln cn) (.slice am lm cm) (.slice ak lk ck) := HP.out.kept HBR.out
    have HKP : Hid (∀ W', Below wr.heap.size wr W' → W'.cell? ⟨T0, 0, none⟩ = some (.int .i64 k) ∧ W'.cell? ⟨T0, 1, none⟩ = some (.string nm) ∧ W'.cell? ⟨T0, 2, none⟩ = some (.int .i64 n) ∧ W'.cell? ⟨T0, 3, none⟩ = some (.bool f) ∧ W'.cell? ⟨T0, 4, none⟩ = some (.slice an ln cn) ∧ W'.cell? ⟨T0, 5, none⟩ = some (.slice am lm cm) ∧ W'.cell? ⟨T0, 6, none⟩ = some (.slice ak lk ck)) := fun W' hb => bx7 (blk_kept hb hTr)
    have kS := HKP.out wr (Below.refl _ _)
    have HUN : Hid (∀ W', Below wr.heap.size wr W' → Calls Try.prog 29 #[.pointer none, .agg #[.int .i64 k, .string nm, .int .i64 n, .bool f, .slice an ln cn, .slice am lm cm, .slice ak lk ck]] W' fun e w' => ∃ bn en bm em bk ek, e = .returned (.agg #[.int .i64 k, .string nm, .int .i64 n, .bool f, .slice bn ln en, .slice bm lm em, .slice bk lk ek]) ∧ Prt (fun _ => True) w' (.mk k nm n f ns ms ks) (.slice bn ln en) (.slice bm lm em) (.slice bk lk ek) ∧ Below wr.heap.size wr w') := fun W' hb => (wunder_none (hpr.kept hb) HF.out HCN.out).mono fun e w' h => by
      obtain ⟨vn, vm, vk, rfl, h2⟩ := h.ex
      obtain ⟨bn, en, bm, em, bk, ek, rfl, rfl, rfl⟩ := h2.form
      simp only [Ty.names, Ty.marks, Ty.kids, HLN.out.1, HLN.out.2.1, HLN.out.2.2] at h2 ⊢
      exact ⟨_, _, _, _, _, _, rfl, h2.with (fun _ _ _ => trivial), bthen hb h.bl⟩
    have HTY : Hid (∀ W' bn en bm em bk ek, Below wr.heap.size wr W' → Prt (fun _ => True) W' (.mk k nm n f ns ms ks) (.slice bn ln en) (.slice bm lm em) (.slice bk lk ek) → Calls Try.prog 15 #[.agg #[.int .i64 k, .string nm, .int .i64 n, .bool f, .slice bn ln en, .slice bm lm em, .slice bk lk ek], .agg #[.int .i64 k, .string nm, .int .i64 n, .bool f, .slice an ln cn, .slice am lm cm, .slice ak lk ck]] W' fun e w' => e = .returned (.bool true) ∧ Below wr.heap.size wr w') := fun W' bn en bm em bk ek hb hq => (types_same (x := (.mk k nm n f ns ms ks)) hq (hpr.kept hb)).mono fun e w' h => ⟨h.1, bthen hb h.2⟩
    obtain ⟨R, hR⟩ : ∃ R, ((.mk k nm n f ns ms ks) : Ty).cmp = R := ⟨_, rfl⟩
    obtain ⟨R2, hR2⟩ : ∃ R2, nilK k = R2 := ⟨_, rfl⟩
    have HCM : Hid (∀ W', Below wr.heap.size wr W' → Calls Try.prog 33 #[.pointer none, .agg #[.int .i64 k, .string nm, .int .i64 n, .bool f, .slice an ln cn, .slice am lm cm, .slice ak lk ck]] W' fun e w' => e = .returned (.bool R) ∧ Below wr.heap.size wr w') := fun W' hb => (comp_none (hpr.kept hb) HSH.out HCN.out).mono fun e w' h => ⟨h.1.trans (by rw [hR]), bthen hb h.2⟩
    have HC0 : Hid (∀ W', Below wr.heap.size wr W' → Calls Try.prog 34 #[.pointer (some ⟨V, 0, none⟩), .agg #[.int .i64 k, .string nm, .int .i64 n, .bool f, .slice an ln cn, .slice am lm cm, .slice ak lk ck]] W' fun e w' => e = .returned (.bool R) ∧ Below wr.heap.size wr w') := fun W' hb => (cmp0_any (.mk k nm n f ns ms ks) _ W' V _ _ _ (blk_kept hb hwz) (hpr.kept hb)).mono fun e w' h => ⟨h.1.trans (by rw [hR]), bthen hb h.2⟩
    have HNL : Hid (∀ W', Below wr.heap.size wr W' → Calls Try.prog 35 #[.pointer none, .agg #[.int .i64 k, .string nm, .int .i64 n, .bool f, .slice an ln cn, .slice am lm cm, .slice ak lk ck]] W' fun e w' => e = .returned (.bool R2) ∧ Below wr.heap.size wr w') := fun W' hb => (nilable_none (.mk k nm n f ns ms ks) an am ak ln cn lm cm lk ck).mono fun e w' h => ⟨h.1.trans (by rw [← hR2]; rfl), bthen hb h.2⟩
    have HN0 : Hid (∀ W', Below wr.heap.size wr W' → Calls Try.prog 36 #[.pointer (some ⟨V, 0, none⟩), .agg #[.int .i64 k, .string nm, .int .i64 n, .bool f, .slice an ln cn, .slice am lm cm, .slice ak lk ck]] W' fun e w' => e = .returned (.bool R2) ∧ Below wr.heap.size wr w') := fun W' hb => (rnil0 (blk_kept hb hwz) (.mk k nm n f ns ms ks) an am ak ln cn lm cm lk ck).mono fun e w' h => ⟨h.1.trans (by rw [← hR2]; rfl), bthen hb h.2⟩
    have HAW : Hid (∀ W', Below wr.heap.size wr W' → Calls Try.prog 10 #[] W' fun e w' => e = .returned (.bool true) ∧ Below wr.heap.size wr w') := fun W' hb => (awake_any W').mono fun e w' h => ⟨h.1, bthen hb h.2⟩
    rw [hV, hw]
    clear hR hR2 hpr hTr hyr hwz hw hV HP HLN HF HSH HCN HB2 HT1 HB1
    refine wp_region_held_drew (S := fun w' => w'.cell? ⟨T0, 0, none⟩ = some (.int .i64 k) ∧ w'.cell? ⟨T0, 1, none⟩ = some (.string nm) ∧ w'.cell? ⟨T0, 2, none⟩ = some (.int .i64 n) ∧ w'.cell? ⟨T0, 3, none⟩ = some (.bool f) ∧ w'.cell? ⟨T0, 4, none⟩ = some (.slice an ln cn) ∧ w'.cell? ⟨T0, 5, none⟩ = some (.slice am lm cm) ∧ w'.cell? ⟨T0, 6, none⟩ = some (.slice ak lk ck)) (by kernel_rfl) (by exact kS) (fun hHeld => ?_)
    clear hHeld
    refine wpAnyH_take (i := 0) (oi := { dst := some 22, op := Op.move (Operand.tmp 7), type := 4, pos := "law.go:173", after := #[], guard := none }) (v := ?_) rfl (by kernel_rfl) (by kernel_rfl) (by kernel_rfl) (fun _ _ _ h => h) (Or.inl ⟨by rfl, ?_⟩) (by exact kS) ?_
    rotate_left
    · intro w hSw; (try dsimp only at hSw); (go_simp <;> with_reducible rfl)
    try simp only [Act.put, List.setIfInBounds_toArray, List.set_cons_zero, List.set_cons_succ]
    refine wpAnyH_take (i := 1) (oi := { dst := some 23, op := Op.unOp UnOp.not 4 (Operand.tmp 22), type := 4, pos := "law.go:173", after := #[{ on := 0, ground := Ground.data }], guard := none }) (v := ?_) rfl (by kernel_rfl) (by kernel_rfl) (by kernel_rfl) (fun _ _ _ h => h) (Or.inl ⟨by rfl, ?_⟩) (by exact kS) ?_
    rotate_left
    · intro w hSw; (try dsimp only at hSw); (go_simp <;> with_reducible rfl)
    try simp only [Act.put, List.setIfInBounds_toArray, List.set_cons_zero, List.set_cons_succ]
    refine wpAnyH_take (i := 2) (oi := { dst := some 24, op := Op.move (Operand.tmp 23), type := 4, pos := "law.go:173", after := #[{ on := 1, ground := Ground.data }], guard := none }) (v := ?_) rfl (by kernel_rfl) (by kernel_rfl) (by kernel_rfl) (fun _ _ _ h => h) (Or.inl ⟨by rfl, ?_⟩) (by exact kS) ?_
    rotate_left
    · intro w hSw; (try dsimp only at hSw); (go_simp <;> with_reducible rfl)
    try simp only [Act.put, List.setIfInBounds_toArray, List.set_cons_zero, List.set_cons_succ]
    refine wpAnyH_take (i := 3) (oi := { dst := some 25, op := Op.move (Operand.tmp 5), type := 39, pos := "law.go:173", after := #[{ on := 2, ground := Ground.guard }], guard := some (2, true) }) (v := ?_) rfl (by kernel_rfl) (by kernel_rfl) (by kernel_rfl) (fun _ _ _ h => h) (Or.inl ⟨by rfl, ?_⟩) (by exact kS) ?_
    rotate_left
    · intro w hSw; (try dsimp only at hSw); (go_simp <;> with_reducible rfl)
    try simp only [Act.put, List.setIfInBounds_toArray, List.set_cons_zero, List.set_cons_succ]
    refine wpAnyH_take (i := 4) (oi := { dst := some 26, op := Op.load 26 (Operand.tmp 2), type := 26, pos := "law.go:173", after := #[{ on := 2, ground := Ground.guard }], guard := some (2, true) }) (v := ?_) rfl (by kernel_rfl) (by kernel_rfl) (by kernel_rfl) (fun _ _ _ h => h) (Or.inl ⟨by rfl, ?_⟩) (by exact kS) ?_
    rotate_left
    · intro w hSw; (try dsimp only at hSw); (go_simp <;> with_reducible rfl)
    try simp only [Act.put, List.setIfInBounds_toArray, List.set_cons_zero, List.set_cons_succ]
    refine wpAnyH_take (i := 6) (oi := { dst := some 28, op := Op.load 26 (Operand.tmp 2), type := 26, pos := "law.go:173", after := #[{ on := 2, ground := Ground.guard }], guard := some (2, true) }) (v := ?_) rfl (by kernel_rfl) (by kernel_rfl) (by kernel_rfl) (fun _ _ _ h => h) (Or.inl ⟨by rfl, ?_⟩) (by exact kS) ?_
    rotate_left
    · intro w hSw; (try dsimp only at hSw); (go_simp <;> with_reducible rfl)
    try simp only [Act.put, List.setIfInBounds_toArray, List.set_cons_zero, List.set_cons_succ]
    refine wpAnyH_ready (rs := [5]) (by kernel_rfl) (by simp) ?_
    refine AllReadyH.cons (o := { dst := some 27, op := Op.call { callee := Callee.value (Operand.func 29), args := #[Operand.tmp 25, Operand.tmp 26], argTypes := #[39, 26] }, type := 26, pos := "law.go:173", after := #[{ on := 3, ground := Ground.data }, { on := 4, ground := Ground.data }, { on := 2, ground := Ground.chain }, { on := 2, ground := Ground.guard }], guard := some (2, true) }) rfl (fun K hK => ?_) AllReadyH.nil
    go_simp
    go_at_call 29; refine (HUN.out _ (below_drew1 _)).mono ?_; rintro e x1 ⟨bn, en, bm, em, bk, ek, rfl, hq, hb⟩; have HB1 : Hid (Below wr.heap.size wr x1) := hb; have HQ1 : Hid (Prt (fun _ => True) x1 (.mk k nm n f ns ms ks) (.slice bn ln en) (.slice bm lm em) (.slice bk lk ek)) := hq; have kS := HKP.out x1 HB1.out; clear hq hb
    go_wp2_with fail
    refine hK.out _ _ (by exact kS) (fun hHeld => ?_)
    clear hK K hHeld
    try simp only [Act.put, List.setIfInBounds_toArray, List.set_cons_zero, List.set_cons_succ]
    refine wpAnyH_ready (rs := [7]) (by kernel_rfl) (by simp) ?_
    refine AllReadyH.cons (o := { dst := some 29, op := Op.call { callee := Callee.value (Operand.func 15), args := #[Operand.tmp 27, Operand.tmp 28], argTypes := #[26, 26] }, type := 4, pos := "law.go:173", after := #[{ on := 5, ground := Ground.data }, { on := 6, ground := Ground.data }, { on := 5, ground := Ground.chain }, { on := 2, ground := Ground.guard }], guard := some (2, true) }) rfl (fun K hK => ?_) AllReadyH.nil
    go_simp
    go_at_call 15; refine (HTY.out _ _ _ _ _ _ _ HB1.out HQ1.out).mono ?_; rintro e x2 ⟨rfl, hb⟩; have HB2 : Hid (Below wr.heap.size wr x2) := hb; have kS := HKP.out x2 HB2.out; clear hb
    go_wp2_with fail
    refine hK.out _ _ (by exact kS) (fun hHeld => ?_)
    clear hK K hHeld
    try simp only [Act.put, List.setIfInBounds_toArray, List.set_cons_zero, List.set_cons_succ]
    refine wpAnyH_take (i := 8) (oi := { dst := some 30, op := Op.pick (Operand.tmp 24) (Operand.tmp 29) (Operand.const (Value.bool false)), type := 4, pos := "law.go:173", after := #[{ on := 2, ground := Ground.data }, { on := 7, ground := Ground.data }], guard := none }) (v := ?_) rfl (by kernel_rfl) (by kernel_rfl) (by kernel_rfl) (fun _ _ _ h => h) (Or.inl ⟨by rfl, ?_⟩) (by exact kS) ?_
    rotate_left
    · intro w hSw; (try dsimp only at hSw); (go_simp <;> with_reducible rfl)
    try simp only [Act.put, List.setIfInBounds_toArray, List.set_cons_zero, List.set_cons_succ]
    refine wpAnyH_take (i := 9) (oi := { dst := some 31, op := Op.move (Operand.tmp 30), type := 4, pos := "law.go:173", after := #[{ on := 8, ground := Ground.data }, { on := 7, ground := Ground.chain }], guard := none }) (v := ?_) rfl (by kernel_rfl) (by kernel_rfl) (by kernel_rfl) (fun _ _ _ h => h) (Or.inl ⟨by rfl, ?_⟩) (by exact kS) ?_
    rotate_left
    · intro w hSw; (try dsimp only at hSw); (go_simp <;> with_reducible rfl)
    try simp only [Act.put, List.setIfInBounds_toArray, List.set_cons_zero, List.set_cons_succ]
    refine wpAnyH_take (i := 10) (oi := { dst := some 32, op := Op.move (Operand.tmp 5), type := 39, pos := "law.go:173", after := #[{ on := 9, ground := Ground.guard }], guard := some (9, true) }) (v := ?_) rfl (by kernel_rfl) (by kernel_rfl) (by kernel_rfl) (fun _ _ _ h => h) (Or.inl ⟨by rfl, ?_⟩) (by exact kS) ?_
    rotate_left
    · intro w hSw; (try dsimp only at hSw); (go_simp <;> with_reducible rfl)
    try simp only [Act.put, List.setIfInBounds_toArray, List.set_cons_zero, List.set_cons_succ]
    refine wpAnyH_take (i := 11) (oi := { dst := some 33, op := Op.load 26 (Operand.tmp 2), type := 26, pos := "law.go:173", after := #[{ on := 9, ground := Ground.guard }], guard := some (9, true) }) (v := ?_) rfl (by kernel_rfl) (by kernel_rfl) (by kernel_rfl) (fun _ _ _ h => h) (Or.inl ⟨by rfl, ?_⟩) (by exact kS) ?_
    rotate_left
    · intro w hSw; (try dsimp only at hSw); (go_simp <;> with_reducible rfl)
    try simp only [Act.put, List.setIfInBounds_toArray, List.set_cons_zero, List.set_cons_succ]
    refine wpAnyH_take (i := 13) (oi := { dst := some 35, op := Op.move (Operand.tmp 8), type := 43, pos := "law.go:173", after := #[{ on := 9, ground := Ground.guard }], guard := some (9, true) }) (v := ?_) rfl (by kernel_rfl) (by kernel_rfl) (by kernel_rfl) (fun _ _ _ h => h) (Or.inl ⟨by rfl, ?_⟩) (by exact kS) ?_
    rotate_left
    · intro w hSw; (try dsimp only at hSw); (go_simp <;> with_reducible rfl)
    try simp only [Act.put, List.setIfInBounds_toArray, List.set_cons_zero, List.set_cons_succ]
    refine wpAnyH_take (i := 14) (oi := { dst := some 36, op := Op.load 26 (Operand.tmp 2), type := 26, pos := "law.go:173", after := #[{ on := 9, ground := Ground.guard }], guard := some (9, true) }) (v := ?_) rfl (by kernel_rfl) (by kernel_rfl) (by kernel_rfl) (fun _ _ _ h => h) (Or.inl ⟨by rfl, ?_⟩) (by exact kS) ?_
    rotate_left
    · intro w hSw; (try dsimp only at hSw); (go_simp <;> with_reducible rfl)
    try simp only [Act.put, List.setIfInBounds_toArray, List.set_cons_zero, List.set_cons_succ]
    refine wpAnyH_ready (rs := [12]) (by kernel_rfl) (by simp) ?_
    refine AllReadyH.cons (o := { dst := some 34, op := Op.call { callee := Callee.value (Operand.func 33), args := #[Operand.tmp 32, Operand.tmp 33], argTypes := #[39, 26] }, type := 4, pos := "law.go:173", after := #[{ on := 10, ground := Ground.data }, { on := 11, ground := Ground.data }, { on := 9, ground := Ground.chain }, { on := 9, ground := Ground.guard }], guard := some (9, true) }) rfl (fun K hK => ?_) AllReadyH.nil
    go_simp
    go_at_call 33; refine (HCM.out _ HB2.out).mono ?_; rintro e x3 ⟨rfl, hb⟩; have HB3 : Hid (Below wr.heap.size wr x3) := hb; have kS := HKP.out x3 HB3.out; clear hb
    go_wp2_with fail
    refine hK.out _ _ (by exact kS) (fun hHeld => ?_)
    clear hK K hHeld
    try simp only [Act.put, List.setIfInBounds_toArray, List.set_cons_zero, List.set_cons_succ]
    refine wpAnyH_ready (rs := [15]) (by kernel_rfl) (by simp) ?_
    refine AllReadyH.cons (o := { dst := some 37, op := Op.call { callee := Callee.value (Operand.func 34), args := #[Operand.tmp 35, Operand.tmp 36], argTypes := #[43, 26] }, type := 4, pos := "law.go:173", after := #[{ on := 13, ground := Ground.data }, { on := 14, ground := Ground.data }, { on := 12, ground := Ground.chain }, { on := 9, ground := Ground.guard }], guard := some (9, true) }) rfl (fun K hK => ?_) AllReadyH.nil
    go_simp
    go_at_call 34; refine (HC0.out _ HB3.out).mono ?_; rintro e x4 ⟨rfl, hb⟩; have HB4 : Hid (Below wr.heap.size wr x4) := hb; have kS := HKP.out x4 HB4.out; clear hb
    go_wp2_with fail
    refine hK.out _ _ (by exact kS) (fun hHeld => ?_)
    clear hK K hHeld
    try simp only [Act.put, List.setIfInBounds_toArray, List.set_cons_zero, List.set_cons_succ]
    refine wpAnyH_take (i := 16) (oi := { dst := some 38, op := Op.binOp BinOp.eql 4 (Operand.tmp 34) (Operand.tmp 37) 4, type := 4, pos := "law.go:173", after := #[{ on := 12, ground := Ground.data }, { on := 15, ground := Ground.data }, { on := 9, ground := Ground.guard }], guard := some (9, true) }) (v := ?_) rfl (by kernel_rfl) (by kernel_rfl) (by kernel_rfl) (fun _ _ _ h => h) (Or.inl ⟨by rfl, ?_⟩) (by exact kS) ?_
    rotate_left
    · intro w hSw; (try dsimp only at hSw); (go_simp <;> with_reducible rfl)
    try simp only [Act.put, List.setIfInBounds_toArray, List.set_cons_zero, List.set_cons_succ]
    refine wpAnyH_take (i := 17) (oi := { dst := some 39, op := Op.pick (Operand.tmp 31) (Operand.tmp 38) (Operand.const (Value.bool false)), type := 4, pos := "law.go:173", after := #[{ on := 9, ground := Ground.data }, { on := 16, ground := Ground.data }], guard := none }) (v := ?_) rfl (by kernel_rfl) (by kernel_rfl) (by kernel_rfl) (fun _ _ _ h => h) (Or.inl ⟨by rfl, ?_⟩) (by exact kS) ?_
    rotate_left
    · intro w hSw; (try dsimp only at hSw); (go_simp <;> with_reducible rfl)
    try simp only [Act.put, List.setIfInBounds_toArray, List.set_cons_zero, List.set_cons_succ]
    refine wpAnyH_take (i := 18) (oi := { dst := some 40, op := Op.move (Operand.tmp 39), type := 4, pos := "law.go:173", after := #[{ on := 17, ground := Ground.data }, { on := 15, ground := Ground.chain }], guard := none }) (v := ?_) rfl (by kernel_rfl) (by kernel_rfl) (by kernel_rfl) (fun _ _ _ h => h) (Or.inl ⟨by rfl, ?_⟩) (by exact kS) ?_
    rotate_left
    · intro w hSw; (try dsimp only at hSw); (go_simp <;> with_reducible rfl)
    try simp only [Act.put, List.setIfInBounds_toArray, List.set_cons_zero, List.set_cons_succ]
    refine wpAnyH_take (i := 19) (oi := { dst := some 41, op := Op.move (Operand.tmp 5), type := 39, pos := "law.go:173", after := #[{ on := 18, ground := Ground.guard }], guard := some (18, true) }) (v := ?_) rfl (by kernel_rfl) (by kernel_rfl) (by kernel_rfl) (fun _ _ _ h => h) (Or.inl ⟨by rfl, ?_⟩) (by exact kS) ?_
    rotate_left
    · intro w hSw; (try dsimp only at hSw); (go_simp <;> with_reducible rfl)
    try simp only [Act.put, List.setIfInBounds_toArray, List.set_cons_zero, List.set_cons_succ]
    refine wpAnyH_take (i := 20) (oi := { dst := some 42, op := Op.load 26 (Operand.tmp 2), type := 26, pos := "law.go:173", after := #[{ on := 18, ground := Ground.guard }], guard := some (18, true) }) (v := ?_) rfl (by kernel_rfl) (by kernel_rfl) (by kernel_rfl) (fun _ _ _ h => h) (Or.inl ⟨by rfl, ?_⟩) (by exact kS) ?_
    rotate_left
    · intro w hSw; (try dsimp only at hSw); (go_simp <;> with_reducible rfl)
    try simp only [Act.put, List.setIfInBounds_toArray, List.set_cons_zero, List.set_cons_succ]
    refine wpAnyH_take (i := 22) (oi := { dst := some 44, op := Op.move (Operand.tmp 8), type := 43, pos := "law.go:173", after := #[{ on := 18, ground := Ground.guard }], guard := some (18, true) }) (v := ?_) rfl (by kernel_rfl) (by kernel_rfl) (by kernel_rfl) (fun _ _ _ h => h) (Or.inl ⟨by rfl, ?_⟩) (by exact kS) ?_
    rotate_left
    · intro w hSw; (try dsimp only at hSw); (go_simp <;> with_reducible rfl)
    try simp only [Act.put, List.setIfInBounds_toArray, List.set_cons_zero, List.set_cons_succ]
    refine wpAnyH_take (i := 23) (oi := { dst := some 45, op := Op.load 26 (Operand.tmp 2), type := 26, pos := "law.go:173", after := #[{ on := 18, ground := Ground.guard }], guard := some (18, true) }) (v := ?_) rfl (by kernel_rfl) (by kernel_rfl) (by kernel_rfl) (fun _ _ _ h => h) (Or.inl ⟨by rfl, ?_⟩) (by exact kS) ?_
    rotate_left
    · intro w hSw; (try dsimp only at hSw); (go_simp <;> with_reducible rfl)
    try simp only [Act.put, List.setIfInBounds_toArray, List.set_cons_zero, List.set_cons_succ]
    refine wpAnyH_ready (rs := [21]) (by kernel_rfl) (by simp) ?_
    refine AllReadyH.cons (o := { dst := some 43, op := Op.call { callee := Callee.value (Operand.func 35), args := #[Operand.tmp 41, Operand.tmp 42], argTypes := #[39, 26] }, type := 4, pos := "law.go:173", after := #[{ on := 19, ground := Ground.data }, { on := 20, ground := Ground.data }, { on := 18, ground := Ground.chain }, { on := 18, ground := Ground.guard }], guard := some (18, true) }) rfl (fun K hK => ?_) AllReadyH.nil
    go_simp
    go_at_call 35; refine (HNL.out _ HB4.out).mono ?_; rintro e x5 ⟨rfl, hb⟩; have HB5 : Hid (Below wr.heap.size wr x5) := hb; have kS := HKP.out x5 HB5.out; clear hb
    go_wp2_with fail
    refine hK.out _ _ (by exact kS) (fun hHeld => ?_)
    clear hK K hHeld
    try simp only [Act.put, List.setIfInBounds_toArray, List.set_cons_zero, List.set_cons_succ]
    refine wpAnyH_ready (rs := [24]) (by kernel_rfl) (by simp) ?_
    refine AllReadyH.cons (o := { dst := some 46, op := Op.call { callee := Callee.value (Operand.func 36), args := #[Operand.tmp 44, Operand.tmp 45], argTypes := #[43, 26] }, type := 4, pos := "law.go:173", after := #[{ on := 22, ground := Ground.data }, { on := 23, ground := Ground.data }, { on := 21, ground := Ground.chain }, { on := 18, ground := Ground.guard }], guard := some (18, true) }) rfl (fun K hK => ?_) AllReadyH.nil
    go_simp
    go_at_call 36; refine (HN0.out _ HB5.out).mono ?_; rintro e x6 ⟨rfl, hb⟩; have HB6 : Hid (Below wr.heap.size wr x6) := hb; have kS := HKP.out x6 HB6.out; clear hb
    go_wp2_with fail
    refine hK.out _ _ (by exact kS) (fun hHeld => ?_)
    clear hK K hHeld
    try simp only [Act.put, List.setIfInBounds_toArray, List.set_cons_zero, List.set_cons_succ]
    refine wpAnyH_take (i := 25) (oi := { dst := some 47, op := Op.binOp BinOp.eql 4 (Operand.tmp 43) (Operand.tmp 46) 4, type := 4, pos := "law.go:173", after := #[{ on := 21, ground := Ground.data }, { on := 24, ground := Ground.data }, { on := 18, ground := Ground.guard }], guard := some (18, true) }) (v := ?_) rfl (by kernel_rfl) (by kernel_rfl) (by kernel_rfl) (fun _ _ _ h => h) (Or.inl ⟨by rfl, ?_⟩) (by exact kS) ?_
    rotate_left
    · intro w hSw; (try dsimp only at hSw); (go_simp <;> with_reducible rfl)
    try simp only [Act.put, List.setIfInBounds_toArray, List.set_cons_zero, List.set_cons_succ]
    refine wpAnyH_take (i := 26) (oi := { dst := some 48, op := Op.pick (Operand.tmp 40) (Operand.tmp 47) (Operand.const (Value.bool false)), type := 4, pos := "law.go:173", after := #[{ on := 18, ground := Ground.data }, { on := 25, ground := Ground.data }], guard := none }) (v := ?_) rfl (by kernel_rfl) (by kernel_rfl) (by kernel_rfl) (fun _ _ _ h => h) (Or.inl ⟨by rfl, ?_⟩) (by exact kS) ?_
    rotate_left
    · intro w hSw; (try dsimp only at hSw); (go_simp <;> with_reducible rfl)
    try simp only [Act.put, List.setIfInBounds_toArray, List.set_cons_zero, List.set_cons_succ]
    refine wpAnyH_take (i := 27) (oi := { dst := some 49, op := Op.move (Operand.tmp 48), type := 4, pos := "law.go:173", after := #[{ on := 26, ground := Ground.data }, { on := 24, ground := Ground.chain }], guard := none }) (v := ?_) rfl (by kernel_rfl) (by kernel_rfl) (by kernel_rfl) (fun _ _ _ h => h) (Or.inl ⟨by rfl, ?_⟩) (by exact kS) ?_
    rotate_left
    · intro w hSw; (try dsimp only at hSw); (go_simp <;> with_reducible rfl)
    try simp only [Act.put, List.setIfInBounds_toArray, List.set_cons_zero, List.set_cons_succ]
    refine wpAnyH_ready (rs := [28]) (by kernel_rfl) (by simp) ?_
    refine AllReadyH.cons (o := { dst := some 50, op := Op.call { callee := Callee.value (Operand.func 10), args := #[], argTypes := #[] }, type := 4, pos := "law.go:173", after := #[{ on := 27, ground := Ground.chain }, { on := 27, ground := Ground.guard }], guard := some (27, true) }) rfl (fun K hK => ?_) AllReadyH.nil
    go_simp
    go_at_call 10; refine (HAW.out _ HB6.out).mono ?_; rintro e x7 ⟨rfl, hb⟩; have HB7 : Hid (Below wr.heap.size wr x7) := hb; have kS := HKP.out x7 HB7.out; clear hb
    go_wp2_with fail
    refine hK.out _ _ (by exact kS) (fun hHeld => ?_)
    clear hK K hHeld
    try simp only [Act.put, List.setIfInBounds_toArray, List.set_cons_zero, List.set_cons_succ]
    refine wpAnyH_take (i := 29) (oi := { dst := some 51, op := Op.pick (Operand.tmp 49) (Operand.tmp 50) (Operand.const (Value.bool false)), type := 4, pos := "law.go:173", after := #[{ on := 27, ground := Ground.data }, { on := 28, ground := Ground.data }], guard := none }) (v := ?_) rfl (by kernel_rfl) (by kernel_rfl) (by kernel_rfl) (fun _ _ _ h => h) (Or.inl ⟨by rfl, ?_⟩) (by exact kS) ?_
    rotate_left
    · intro w hSw; (try dsimp only at hSw); (go_simp <;> with_reducible rfl)
    try simp only [Act.put, List.setIfInBounds_toArray, List.set_cons_zero, List.set_cons_succ]
    refine wpAnyH_take (i := 30) (oi := { dst := some 4, op := Op.assign (Operand.tmp 51), type := 4, pos := "law.go:173", after := #[{ on := 29, ground := Ground.data }, { on := 28, ground := Ground.chain }, { on := 0, ground := Ground.phase }, { on := 1, ground := Ground.phase }, { on := 2, ground := Ground.phase }, { on := 3, ground := Ground.phase }, { on := 4, ground := Ground.phase }, { on := 5, ground := Ground.phase }, { on := 6, ground := Ground.phase }, { on := 7, ground := Ground.phase }, { on := 8, ground := Ground.phase }, { on := 9, ground := Ground.phase }, { on := 10, ground := Ground.phase }, { on := 11, ground := Ground.phase }, { on := 12, ground := Ground.phase }, { on := 13, ground := Ground.phase }, { on := 14, ground := Ground.phase }, { on := 15, ground := Ground.phase }, { on := 16, ground := Ground.phase }, { on := 17, ground := Ground.phase }, { on := 18, ground := Ground.phase }, { on := 19, ground := Ground.phase }, { on := 20, ground := Ground.phase }, { on := 21, ground := Ground.phase }, { on := 22, ground := Ground.phase }, { on := 23, ground := Ground.phase }, { on := 24, ground := Ground.phase }, { on := 25, ground := Ground.phase }, { on := 26, ground := Ground.phase }, { on := 27, ground := Ground.phase }, { on := 28, ground := Ground.phase }, { on := 29, ground := Ground.phase }], guard := none }) (v := ?_) rfl (by kernel_rfl) (by kernel_rfl) (by kernel_rfl) (fun _ _ _ h => h) (Or.inl ⟨by rfl, ?_⟩) (by exact kS) ?_
    rotate_left
    · intro w hSw; (try dsimp only at hSw); (go_simp <;> with_reducible rfl)
    try simp only [Act.put, List.setIfInBounds_toArray, List.set_cons_zero, List.set_cons_succ]
    refine wpAnyH_done (by kernel_rfl) ?_ _
    go_wp2_with fail
    go_ret
    exact ⟨rfl, bthen HBR.out HB7.out⟩
end Go.Proofs.Ytifcikhgbafegaa
/-
  TypesNothing holds: for every type and every name the Go function recastlaw8.TypesNothing of the landed commit returns true, changes nothing that was handed in, and neither panics nor runs on: a World that is none (a nil pointer) has no declared type of any name, each type is itself underneath, and which types may be compared and may be nil is told as the document tells it of a world without declared types.
  Conditions: none but the row's own (each text and each slice takes at most 2^47 - 4096 bytes; the reading of an argument comes to an end).
-/
namespace Go.Proofs.Ytifcikhgbafegaa.typesNothing
open Go.ChangeShapes Go.WideShapes Go.ChangeAt Go.RowKit
open Go.ChangeMaps (open_string shut_string)
theorem own : ownKnob Try.prog.godebug = none := by kernel_rfl
theorem laidOut : laidOutB Try.prog = true := by kernel_rfl
set_option maxRecDepth 100000 in
theorem lifted (os : Os) (started : os.Started) (H : Type) (enc : TypeId × Value → H) :
    ReturnsInHanded {} Try.checked os 8 .any (Rows.typesNothingSpec.pre6 enc Try.prog Try.f8 Rows.typesNothingRow.domain false) (Rows.typesNothingSpec.post enc Try.prog Try.f8 false true false false) := by
  refine returnsInHanded_of_change_shaped (C := Try.checked) own started (by kernel_rfl) Try.func8
    (ChangeSpec.witness6 (enc := enc) (C := Try.checked) false ⟨#[], #[.agg #[.int .i64 0, .string ByteArray.empty, .int .i64 0, .bool false, .slice none 0 0, .slice none 0 0, .slice none 0 0], .string ByteArray.empty], []⟩ 8 (by kernel_rfl) (by kernel_rfl) (by kernel_rfl) (by kernel_rfl)) ?_
  intro W base args ds gs before hval0 hW hcnd hsz _ _
  have hval : ∀ (j : Nat) t v, Try.f8.params[j]? = some t → args[j]? = some v → Value.okWide Try.prog W .any base t v := hval0
  have hW' := hW
  obtain ⟨p, q, hA0, hV, rfl, hfz, hnd⟩ := hW
  have hA : DataW.TrodAll enc Try.prog W 0 (fun _ => true) true Try.f8.params.toList args.toList ds p := hA0
  have hsz1 : (DataW.weightsEach Try.prog (Try.f8.params.toList ++ Rows.typesNothingSpec.plain.varTypes Try.prog) (ds ++ gs)).all (· ≤ reachBytes) = true := hsz
  rw [Try.params8] at hA hval hsz1
  obtain ⟨v0, vs0, d0, ds0, p0, q0, hargs, rfl, rfl, h0, r0⟩ := trodAll_cons hA
  obtain ⟨v1, vs1, d1, ds1, p1, q1, rfl, rfl, rfl, h1, r1⟩ := trodAll_cons r0
  obtain ⟨rfl, rfl, rfl⟩ := trodAll_nil r1
  obtain rfl : args = #[v0, v1] := by cases args; simp_all
  obtain ⟨rfl, rfl⟩ := trodVars_none hV
  obtain ⟨t, vn, vm, vk, rfl, hp, hw⟩ := open_type (hval 0 26 v0 rfl rfl) h0
  obtain ⟨a1, rfl, rfl, rfl, w1⟩ := open_string Try.underlying9 (hval 1 9 v1 rfl rfl) h1
  have hfit : Fit t := hw (by
    rw [List.all_eq_true] at hsz1 ⊢
    intro x hx
    exact hsz1 x (by simp [DataW.weightsEach, hx]))
  clear hA0 hval0 hsz hsz1 hw
  simp only [List.append_nil] at hW'
  have hlt1 : ∀ x ∈ p0, x.block < W.heap.size := fun x hx => hW'.lt x (by simp [hx])
  refine (typesNothing_any a1 hp hfit).mono fun e W' ⟨he, hg⟩ => ?_
  subst he
  exact ⟨_, rfl, _, _, _, [], p0 ++ ([] ++ []), [], hW', trodAll_cons_mk (shut_bool Try.underlying4 _) trodAll_mk0, trodAll_cons_mk (Below.trod laidOut (by kernel_rfl) (of_decide_eq_true (by kernel_rfl)) h0 hg hlt1) (trodAll_cons_mk (shut_string Try.underlying9 w1) trodAll_mk0), rfl, hg.frame _, fun h => by cases h⟩
theorem over : Rows.typesNothingRow.holds Try.pinned (OpenSpec.ofChange Rows.typesNothingSpec) :=
  OpenClaim.holds_of_wide 8 Try.f8 rfl rfl rfl rfl rfl rfl rfl ⟨rfl, rfl, rfl, rfl, rfl⟩ rfl rfl rfl rfl rfl (by kernel_rfl) Try.func8 (by kernel_rfl)
    (of_decide_eq_true (by kernel_rfl)) (by unfold Func.isWrapper; first | (rw [if_pos (by decide +kernel)]; kernel_rfl) | (rw [if_neg (by decide +kernel)]; exact ⟨rfl, rfl⟩))
    (fun os started H enc _ => lifted os started H enc)
end Go.Proofs.Ytifcikhgbafegaa.typesNothing
namespace Go.Proofs.Ytifcikhgbafegaa
theorem typesNothing_holds : Rows.TypesNothingSaid := typesNothing.over
#print axioms typesNothing_holds
end Go.Proofs.Ytifcikhgbafegaa
