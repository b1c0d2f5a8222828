/-
  The law TypesText, walked.
-/
import Derived.Test.YtifcikhgbafegaaMkl
import Derived.Test.YtifcikhgbafegaaLyY
import Derived.Test.YtifcikhgbafegaaTxa
import Derived.Test.YtifcikhgbafegaaIdw
import Derived.Test.YtifcikhgbafegaaRid
import Derived.Deep.RegionHeld3
import Derived.Test.YtifcikhgbafegaaRows
import Derived.Test.YtifcikhgbafegaaOpn
import Derived.Test.YtifcikhgbafegaaTxp
import Derived.WalkKit
import Derived.ProofKit
import Derived.OpenShut
import Derived.HandedShaped
import Derived.Carry
import Derived.JoinedCond
namespace Go.Proofs.Ytifcikhgbafegaa
open Go.RowKit
attribute [local go_sem ↓] Go.wp_at_zero Go.wp_at_succ
theorem idn_refl : ∀ t : Ty, t.idn t = true :=
  Ty.ind fun k nm n f ns ms ks ih => by
    have : idnL ks ks = true := (idnL_iff ks ks).2 ⟨rfl, fun i h _ => ih _ (List.getElem_mem h)⟩
    simp [Ty.idn, this]
theorem lkd_sml {x : Ty} (h : Lkd x) : Sml x := tsz_sml x 120 (by omega) (by omega) h.1
set_option maxRecDepth 100000 in
set_option maxHeartbeats 8000000 in
theorem typesText_any {W : World} {t1 t2 : Ty} {vn1 vm1 vk1 vn2 vm2 vk2 : Value} (hp1 : Prt (fun b => b < W.heap.size) W t1 vn1 vm1 vk1) (hp2 : Prt (fun b => b < W.heap.size) W t2 vn2 vm2 vk2) (hw1 : t1.wt ≤ 50000000) :
    Calls Try.prog 3 #[agT t1 vn1 vm1 vk1, agT t2 vn2 vm2 vk2] W fun e w' => e = .returned (.bool true) ∧ Below W.heap.size W w' := by
  obtain ⟨an1, cn1, am1, cm1, ak1, ck1, rfl, rfl, rfl⟩ := hp1.form
  obtain ⟨ln1, hln1⟩ : ∃ l, t1.names.length = l := ⟨_, rfl⟩
  obtain ⟨lm1, hlm1⟩ : ∃ l, t1.marks.length = l := ⟨_, rfl⟩
  obtain ⟨lk1, hlk1⟩ : ∃ l, t1.kids.length = l := ⟨_, rfl⟩
  rw [hln1, hlm1, hlk1] at hp1 ⊢
  obtain ⟨k1, nm1, n1, f1, ns1, ms1, ks1⟩ := t1
  clear hln1 hlm1 hlk1
  obtain ⟨an2, cn2, am2, cm2, ak2, ck2, rfl, rfl, rfl⟩ := hp2.form
  obtain ⟨ln2, hln2⟩ : ∃ l, t2.names.length = l := ⟨_, rfl⟩
  obtain ⟨lm2, hlm2⟩ : ∃ l, t2.marks.length = l := ⟨_, rfl⟩
  obtain ⟨lk2, hlk2⟩ : ∃ l, t2.kids.length = l := ⟨_, rfl⟩
  rw [hln2, hlm2, hlk2] at hp2 ⊢
  obtain ⟨k2, nm2, n2, f2, ns2, ms2, ks2⟩ := t2
  clear hln2 hlm2 hlk2
  have HP1 : Hid (Prt (fun b => b < W.heap.size) W (.mk k1 nm1 n1 f1 ns1 ms1 ks1) (.slice an1 ln1 cn1) (.slice am1 lm1 cm1) (.slice ak1 lk1 ck1)) := hp1
  have HP2 : Hid (Prt (fun b => b < W.heap.size) W (.mk k2 nm2 n2 f2 ns2 ms2 ks2) (.slice an2 ln2 cn2) (.slice am2 lm2 cm2) (.slice ak2 lk2 ck2)) := hp2
  have HW1 : Hid (((.mk k1 nm1 n1 f1 ns1 ms1 ks1) : Ty).wt ≤ 50000000) := hw1
  unfold agT
  simp only [Ty.kind, Ty.name, Ty.n, Ty.flag]
  have hb3 : Below W.heap.size W (((W.alloc (.cells #[.int .i64 k1, .string nm1, .int .i64 n1, .bool f1, .slice an1 ln1 cn1, .slice am1 lm1 cm1, .slice ak1 lk1 ck1] 26)).alloc (.cells #[.int .i64 k2, .string nm2, .int .i64 n2, .bool f2, .slice an2 ln2 cn2, .slice am2 lm2 cm2, .slice ak2 lk2 ck2] 26)).alloc (.cells #[.int .i64 k1, .string nm1, .int .i64 n1, .bool f1, .slice an1 ln1 cn1, .slice am1 lm1 cm1, .slice ak1 lk1 ck1, .int .i64 k2, .string nm2, .int .i64 n2, .bool f2, .slice an2 ln2 cn2, .slice am2 lm2 cm2, .slice ak2 lk2 ck2] 26)) := bthen (bthen (below_alloc _ _) (below_alloc _ _)) (below_alloc _ _)
  have hi := in_any (B := fun _ => True) (w := (((W.alloc (.cells #[.int .i64 k1, .string nm1, .int .i64 n1, .bool f1, .slice an1 ln1 cn1, .slice am1 lm1 cm1, .slice ak1 lk1 ck1] 26)).alloc (.cells #[.int .i64 k2, .string nm2, .int .i64 n2, .bool f2, .slice an2 ln2 cn2, .slice am2 lm2 cm2, .slice ak2 lk2 ck2] 26)).alloc (.cells #[.int .i64 k1, .string nm1, .int .i64 n1, .bool f1, .slice an1 ln1 cn1, .slice am1 lm1 cm1, .slice ak1 lk1 ck1, .int .i64 k2, .string nm2, .int .i64 n2, .bool f2, .slice an2 ln2 cn2, .slice am2 lm2 cm2, .slice ak2 lk2 ck2] 26))) (a := some ⟨W.heap.size + 1 + 1, 0, none⟩) (lk := 2) (ck := 2) (ks := [(.mk k1 nm1 n1 f1 ns1 ms1 ks1), (.mk k2 nm2 n2 f2 ns2 ms2 ks2)]) (by
    refine .inr ⟨W.heap.size + 1 + 1, 0, 2, rfl, by simp, by simp, trivial, liesT_cons.2 ⟨?_, liesT_cons.2 ⟨?_, liesT_nil⟩⟩⟩
    · have hbk := heap_new ((W.alloc (.cells #[.int .i64 k1, .string nm1, .int .i64 n1, .bool f1, .slice an1 ln1 cn1, .slice am1 lm1 cm1, .slice ak1 lk1 ck1] 26)).alloc (.cells #[.int .i64 k2, .string nm2, .int .i64 n2, .bool f2, .slice an2 ln2 cn2, .slice am2 lm2 cm2, .slice ak2 lk2 ck2] 26)) (.cells #[.int .i64 k1, .string nm1, .int .i64 n1, .bool f1, .slice an1 ln1 cn1, .slice am1 lm1 cm1, .slice ak1 lk1 ck1, .int .i64 k2, .string nm2, .int .i64 n2, .bool f2, .slice an2 ln2 cn2, .slice am2 lm2 cm2, .slice ak2 lk2 ck2] 26)
      rw [World.size_alloc, World.size_alloc] at hbk
      exact lies_iff.2 ⟨cell_of hbk 0, cell_of hbk 1, cell_of hbk 2, cell_of hbk 3, _, _, _, cell_of hbk 4, cell_of hbk 5, cell_of hbk 6, (hp1.kept hb3).with (fun _ _ _ => trivial)⟩
    · have hbk := heap_new ((W.alloc (.cells #[.int .i64 k1, .string nm1, .int .i64 n1, .bool f1, .slice an1 ln1 cn1, .slice am1 lm1 cm1, .slice ak1 lk1 ck1] 26)).alloc (.cells #[.int .i64 k2, .string nm2, .int .i64 n2, .bool f2, .slice an2 ln2 cn2, .slice am2 lm2 cm2, .slice ak2 lk2 ck2] 26)) (.cells #[.int .i64 k1, .string nm1, .int .i64 n1, .bool f1, .slice an1 ln1 cn1, .slice am1 lm1 cm1, .slice ak1 lk1 ck1, .int .i64 k2, .string nm2, .int .i64 n2, .bool f2, .slice an2 ln2 cn2, .slice am2 lm2 cm2, .slice ak2 lk2 ck2] 26)
      rw [World.size_alloc, World.size_alloc] at hbk
      exact lies_iff.2 ⟨cell_of hbk 7, cell_of hbk 8, cell_of hbk 9, cell_of hbk 10, _, _, _, cell_of hbk 11, cell_of hbk 12, cell_of hbk 13, (hp2.kept hb3).with (fun _ _ _ => trivial)⟩)
  have HT1 : Hid ((((W.alloc (.cells #[.int .i64 k1, .string nm1, .int .i64 n1, .bool f1, .slice an1 ln1 cn1, .slice am1 lm1 cm1, .slice ak1 lk1 ck1] 26)).alloc (.cells #[.int .i64 k2, .string nm2, .int .i64 n2, .bool f2, .slice an2 ln2 cn2, .slice am2 lm2 cm2, .slice ak2 lk2 ck2] 26)).alloc (.cells #[.int .i64 k1, .string nm1, .int .i64 n1, .bool f1, .slice an1 ln1 cn1, .slice am1 lm1 cm1, .slice ak1 lk1 ck1, .int .i64 k2, .string nm2, .int .i64 n2, .bool f2, .slice an2 ln2 cn2, .slice am2 lm2 cm2, .slice ak2 lk2 ck2] 26)).heap[W.heap.size]? = some (.cells #[.int .i64 k1, .string nm1, .int .i64 n1, .bool f1, .slice an1 ln1 cn1, .slice am1 lm1 cm1, .slice ak1 lk1 ck1] 26 (0, 0))) := blk_kept (bthen (below_alloc _ _) (below_alloc _ _)) (heap_new W _)
  have HT2 : Hid ((((W.alloc (.cells #[.int .i64 k1, .string nm1, .int .i64 n1, .bool f1, .slice an1 ln1 cn1, .slice am1 lm1 cm1, .slice ak1 lk1 ck1] 26)).alloc (.cells #[.int .i64 k2, .string nm2, .int .i64 n2, .bool f2, .slice an2 ln2 cn2, .slice am2 lm2 cm2, .slice ak2 lk2 ck2] 26)).alloc (.cells #[.int .i64 k1, .string nm1, .int .i64 n1, .bool f1, .slice an1 ln1 cn1, .slice am1 lm1 cm1, .slice ak1 lk1 ck1, .int .i64 k2, .string nm2, .int .i64 n2, .bool f2, .slice an2 ln2 cn2, .slice am2 lm2 cm2, .slice ak2 lk2 ck2] 26)).heap[W.heap.size + 1]? = some (.cells #[.int .i64 k2, .string nm2, .int .i64 n2, .bool f2, .slice an2 ln2 cn2, .slice am2 lm2 cm2, .slice ak2 lk2 ck2] 26 (0, 0))) := by
    have := blk_kept (below_alloc _ (.cells #[.int .i64 k1, .string nm1, .int .i64 n1, .bool f1, .slice an1 ln1 cn1, .slice am1 lm1 cm1, .slice ak1 lk1 ck1, .int .i64 k2, .string nm2, .int .i64 n2, .bool f2, .slice an2 ln2 cn2, .slice am2 lm2 cm2, .slice ak2 lk2 ck2] 26)) (heap_new (W.alloc (.cells #[.int .i64 k1, .string nm1, .int .i64 n1, .bool f1, .slice an1 ln1 cn1, .slice am1 lm1 cm1, .slice ak1 lk1 ck1] 26)) (.cells #[.int .i64 k2, .string nm2, .int .i64 n2, .bool f2, .slice an2 ln2 cn2, .slice am2 lm2 cm2, .slice ak2 lk2 ck2] 26))
    rw [World.size_alloc] at this
    exact this
  have HB0 : Hid (Below W.heap.size W (((W.alloc (.cells #[.int .i64 k1, .string nm1, .int .i64 n1, .bool f1, .slice an1 ln1 cn1, .slice am1 lm1 cm1, .slice ak1 lk1 ck1] 26)).alloc (.cells #[.int .i64 k2, .string nm2, .int .i64 n2, .bool f2, .slice an2 ln2 cn2, .slice am2 lm2 cm2, .slice ak2 lk2 ck2] 26)).alloc (.cells #[.int .i64 k1, .string nm1, .int .i64 n1, .bool f1, .slice an1 ln1 cn1, .slice am1 lm1 cm1, .slice ak1 lk1 ck1, .int .i64 k2, .string nm2, .int .i64 n2, .bool f2, .slice an2 ln2 cn2, .slice am2 lm2 cm2, .slice ak2 lk2 ck2] 26))) := hb3
  clear hp1 hp2 hb3 hw1
  go_enter Try.func3, Try.ntmps3
  go_wp2_with fail
  refine hi.mono ?_
  rintro e wr ⟨hbl, b, rfl, hin⟩
  have HB9 : Hid (Below W.heap.size W wr) := bthen HB0.out hbl
  have HTA : Hid (wr.heap[W.heap.size]? = some (.cells #[.int .i64 k1, .string nm1, .int .i64 n1, .bool f1, .slice an1 ln1 cn1, .slice am1 lm1 cm1, .slice ak1 lk1 ck1] 26 (0, 0))) := blk_kept hbl HT1.out
  have HTB : Hid (wr.heap[W.heap.size + 1]? = some (.cells #[.int .i64 k2, .string nm2, .int .i64 n2, .bool f2, .slice an2 ln2 cn2, .slice am2 lm2 cm2, .slice ak2 lk2 ck2] 26 (0, 0))) := blk_kept hbl HT2.out
  have HIN : Hid (b = true → ∀ x ∈ [(.mk k1 nm1 n1 f1 ns1 ms1 ks1), (.mk k2 nm2 n2 f2 ns2 ms2 ks2)], Lkd x) := hin
  clear hi hbl HT1 HT2 HB0 hin
  obtain ⟨T1, hT1⟩ : ∃ T1, W.heap.size = T1 := ⟨_, rfl⟩
  obtain ⟨T2, hT2⟩ : ∃ T2, T1 + 1 = T2 := ⟨_, rfl⟩
  rw [hT1, hT2] at HTB
  rw [hT1] at HTA
  cases b with
  | false =>
    go_wp2_with fail
    refine (awake_any wr).mono ?_
    rintro e x2 ⟨rfl, hb⟩
    have HB : Hid _ := hb
    clear hb
    go_wp2_with fail
    go_ret
    exact ⟨rfl, bthen HB9.out HB.out⟩
  | true =>
    have hlk1 := HIN.out rfl (.mk k1 nm1 n1 f1 ns1 ms1 ks1) (by simp)
    have hlk2 := HIN.out rfl (.mk k2 nm2 n2 f2 ns2 ms2 ks2) (by simp)
    have hsh := hlk1.2
    have hsm := lkd_sml hlk1
    have hcn := lkd_cnt hlk1
    have hlen := (txt_len (.mk k1 nm1 n1 f1 ns1 ms1 ks1)).1
    have hw5 := HW1.out
    have hpr1 : Prt (fun b => b < W.heap.size) wr (.mk k1 nm1 n1 f1 ns1 ms1 ks1) (.slice an1 ln1 cn1) (.slice am1 lm1 cm1) (.slice ak1 lk1 ck1) := HP1.out.kept HB9.out
    have hpr2 : Prt (fun b => b < W.heap.size) wr (.mk k2 nm2 n2 f2 ns2 ms2 ks2) (.slice an2 ln2 cn2) (.slice am2 lm2 cm2) (.slice ak2 lk2 ck2) := HP2.out.kept HB9.out
    obtain ⟨X, hX⟩ : ∃ X, bs ((.mk k1 nm1 n1 f1 ns1 ms1 ks1) : Ty).txt = X := ⟨_, rfl⟩
    obtain ⟨R, hR⟩ : ∃ R, ((.mk k1 nm1 n1 f1 ns1 ms1 ks1) : Ty).idn (.mk k2 nm2 n2 f2 ns2 ms2 ks2) = R := ⟨_, rfl⟩
    have HKP : Hid (∀ W', Below wr.heap.size wr W' → W'.cell? ⟨T1, 0, none⟩ = some (.int .i64 k1) ∧ W'.cell? ⟨T1, 1, none⟩ = some (.string nm1) ∧ W'.cell? ⟨T1, 2, none⟩ = some (.int .i64 n1) ∧ W'.cell? ⟨T1, 3, none⟩ = some (.bool f1) ∧ W'.cell? ⟨T1, 4, none⟩ = some (.slice an1 ln1 cn1) ∧ W'.cell? ⟨T1, 5, none⟩ = some (.slice am1 lm1 cm1) ∧ W'.cell? ⟨T1, 6, none⟩ = some (.slice ak1 lk1 ck1) ∧ W'.cell? ⟨T2, 0, none⟩ = some (.int .i64 k2) ∧ W'.cell? ⟨T2, 1, none⟩ = some (.string nm2) ∧ W'.cell? ⟨T2, 2, none⟩ = some (.int .i64 n2) ∧ W'.cell? ⟨T2, 3, none⟩ = some (.bool f2) ∧ W'.cell? ⟨T2, 4, none⟩ = some (.slice an2 ln2 cn2) ∧ W'.cell? ⟨T2, 5, none⟩ = some (.slice am2 lm2 cm2) ∧ W'.cell? ⟨T2, 6, none⟩ = some (.slice ak2 lk2 ck2)) := fun W' hb => by
      obtain ⟨a0, a1, a2, a3, a4, a5, a6⟩ := bx7 (blk_kept hb HTA.out)
      exact ⟨a0, a1, a2, a3, a4, a5, a6, bx7 (blk_kept hb HTB.out)⟩
    have kS := HKP.out wr (Below.refl _ _)
    have HT1 : Hid (∀ W', Below wr.heap.size wr W' → Calls Try.prog 11 #[.agg #[.int .i64 k1, .string nm1, .int .i64 n1, .bool f1, .slice an1 ln1 cn1, .slice am1 lm1 cm1, .slice ak1 lk1 ck1]] W' fun e w' => e = .returned (.string X) ∧ Below wr.heap.size wr w') := fun W' hb => (text_any lays2 (hpr1.kept hb) hsh (by have := wg2_eq (.mk k1 nm1 n1 f1 ns1 ms1 ks1); omega) (by omega)).mono fun e w' h => ⟨h.1.trans (by rw [hX]), bthen hb h.2⟩
    have HT2 : Hid (∀ W', Below wr.heap.size wr W' → Calls Try.prog 12 #[.agg #[.int .i64 k1, .string nm1, .int .i64 n1, .bool f1, .slice an1 ln1 cn1, .slice am1 lm1 cm1, .slice ak1 lk1 ck1]] W' fun e w' => e = .returned (.string X) ∧ Below wr.heap.size wr w') := fun W' hb => ((rtext_all (.mk k1 nm1 n1 f1 ns1 ms1 ks1) hsh hsm hw5).1 _ W' _ _ _ (hpr1.kept hb)).mono fun e w' h => ⟨h.1.trans (by rw [hX]), bthen hb h.2⟩
    have HI1 : Hid (∀ W', Below wr.heap.size wr W' → Calls Try.prog 13 #[.agg #[.int .i64 k1, .string nm1, .int .i64 n1, .bool f1, .slice an1 ln1 cn1, .slice am1 lm1 cm1, .slice ak1 lk1 ck1], .agg #[.int .i64 k2, .string nm2, .int .i64 n2, .bool f2, .slice an2 ln2 cn2, .slice am2 lm2 cm2, .slice ak2 lk2 ck2]] W' fun e w' => e = .returned (.bool R) ∧ Below wr.heap.size wr w') := fun W' hb => (idn_any (hpr1.kept hb) (hpr2.kept hb) (by omega)).mono fun e w' h => ⟨h.1.trans (by rw [hR]), bthen hb h.2⟩
    have HI2 : Hid (∀ W', Below wr.heap.size wr W' → Calls Try.prog 14 #[.agg #[.int .i64 k1, .string nm1, .int .i64 n1, .bool f1, .slice an1 ln1 cn1, .slice am1 lm1 cm1, .slice ak1 lk1 ck1], .agg #[.int .i64 k2, .string nm2, .int .i64 n2, .bool f2, .slice an2 ln2 cn2, .slice am2 lm2 cm2, .slice ak2 lk2 ck2]] W' fun e w' => e = .returned (.bool R) ∧ Below wr.heap.size wr w') := fun W' hb => (ridn_any _ _ (.mk k1 nm1 n1 f1 ns1 ms1 ks1) (.mk k2 nm2 n2 f2 ns2 ms2 ks2) W' _ _ _ _ _ _ (hpr1.kept hb) (hpr2.kept hb)).mono fun e w' h => ⟨h.1.trans (by rw [hR]), bthen hb h.2⟩
    have HI3 : Hid (∀ W', Below wr.heap.size wr W' → Calls Try.prog 13 #[.agg #[.int .i64 k1, .string nm1, .int .i64 n1, .bool f1, .slice an1 ln1 cn1, .slice am1 lm1 cm1, .slice ak1 lk1 ck1], .agg #[.int .i64 k1, .string nm1, .int .i64 n1, .bool f1, .slice an1 ln1 cn1, .slice am1 lm1 cm1, .slice ak1 lk1 ck1]] W' fun e w' => e = .returned (.bool true) ∧ Below wr.heap.size wr w') := fun W' hb => (idn_any (hpr1.kept hb) (hpr1.kept hb) (by omega)).mono fun e w' h => ⟨h.1.trans (by rw [idn_refl]), bthen hb h.2⟩
    have HAW : Hid (∀ W', Below wr.heap.size wr W' → Calls Try.prog 10 #[] W' fun e w' => e = .returned (.bool true) ∧ Below wr.heap.size wr w') := fun W' hb => (awake_any W').mono fun e w' h => ⟨h.1, bthen hb h.2⟩
    clear hX hR hpr1 hpr2 hw5 hlen hcn hsm hsh hlk1 hlk2 HIN HP1 HP2 HW1 HTA HTB
    go_wp2_with fail
    refine wp_region_held_drew (S := fun w' => w'.cell? ⟨T1, 0, none⟩ = some (.int .i64 k1) ∧ w'.cell? ⟨T1, 1, none⟩ = some (.string nm1) ∧ w'.cell? ⟨T1, 2, none⟩ = some (.int .i64 n1) ∧ w'.cell? ⟨T1, 3, none⟩ = some (.bool f1) ∧ w'.cell? ⟨T1, 4, none⟩ = some (.slice an1 ln1 cn1) ∧ w'.cell? ⟨T1, 5, none⟩ = some (.slice am1 lm1 cm1) ∧ w'.cell? ⟨T1, 6, none⟩ = some (.slice ak1 lk1 ck1) ∧ w'.cell? ⟨T2, 0, none⟩ = some (.int .i64 k2) ∧ w'.cell? ⟨T2, 1, none⟩ = some (.string nm2) ∧ w'.cell? ⟨T2, 2, none⟩ = some (.int .i64 n2) ∧ w'.cell? ⟨T2, 3, none⟩ = some (.bool f2) ∧ w'.cell? ⟨T2, 4, none⟩ = some (.slice an2 ln2 cn2) ∧ w'.cell? ⟨T2, 5, none⟩ = some (.slice am2 lm2 cm2) ∧ w'.cell? ⟨T2, 6, none⟩ = some (.slice ak2 lk2 ck2)) (by kernel_rfl) (by exact kS) (fun hHeld => ?_)
    clear hHeld
    refine wpAnyH_take (i := 0) (oi := { dst := some 11, op := Op.load 26 (Operand.tmp 2), type := 26, pos := "law.go:97", after := #[], guard := none }) (v := ?_) rfl (by kernel_rfl) (by kernel_rfl) (by kernel_rfl) (fun _ _ _ h => h) (Or.inl ⟨by rfl, ?_⟩) (by exact kS) ?_
    rotate_left
    · intro w hSw; (try dsimp only at hSw); (go_simp <;> with_reducible rfl)
    try simp only [Act.put, List.setIfInBounds_toArray, List.set_cons_zero, List.set_cons_succ]
    refine wpAnyH_take (i := 2) (oi := { dst := some 13, op := Op.load 26 (Operand.tmp 2), type := 26, pos := "law.go:97", after := #[], guard := none }) (v := ?_) rfl (by kernel_rfl) (by kernel_rfl) (by kernel_rfl) (fun _ _ _ h => h) (Or.inl ⟨by rfl, ?_⟩) (by exact kS) ?_
    rotate_left
    · intro w hSw; (try dsimp only at hSw); (go_simp <;> with_reducible rfl)
    try simp only [Act.put, List.setIfInBounds_toArray, List.set_cons_zero, List.set_cons_succ]
    refine wpAnyH_ready (rs := [1]) (by kernel_rfl) (by simp) ?_
    refine AllReadyH.cons (o := { dst := some 12, op := Op.call { callee := Callee.value (Operand.func 11), args := #[Operand.tmp 11], argTypes := #[26] }, type := 9, pos := "law.go:97", after := #[{ on := 0, ground := Ground.data }], guard := none }) rfl (fun K hK => ?_) AllReadyH.nil
    go_simp
    go_at_call 11; refine (HT1.out _ (below_drew1 _)).mono ?_; rintro e x1 ⟨rfl, hb⟩; have HB1 : Hid (Below wr.heap.size wr x1) := hb; have kS := HKP.out x1 HB1.out; clear hb
    go_wp2_with fail
    refine hK.out _ _ (by exact kS) (fun hHeld => ?_)
    clear hK K hHeld
    try simp only [Act.put, List.setIfInBounds_toArray, List.set_cons_zero, List.set_cons_succ]
    refine wpAnyH_ready (rs := [3]) (by kernel_rfl) (by simp) ?_
    refine AllReadyH.cons (o := { dst := some 14, op := Op.call { callee := Callee.value (Operand.func 12), args := #[Operand.tmp 13], argTypes := #[26] }, type := 9, pos := "law.go:97", after := #[{ on := 2, ground := Ground.data }, { on := 1, ground := Ground.chain }], guard := none }) rfl (fun K hK => ?_) AllReadyH.nil
    go_simp
    go_at_call 12; refine (HT2.out _ HB1.out).mono ?_; rintro e x2 ⟨rfl, hb⟩; have HB2 : Hid (Below wr.heap.size wr x2) := hb; have kS := HKP.out x2 HB2.out; clear hb
    go_wp2_with fail
    refine hK.out _ _ (by exact kS) (fun hHeld => ?_)
    clear hK K hHeld
    try simp only [Act.put, List.setIfInBounds_toArray, List.set_cons_zero, List.set_cons_succ]
    refine wpAnyH_take (i := 4) (oi := { dst := some 15, op := Op.binOp BinOp.eql 9 (Operand.tmp 12) (Operand.tmp 14) 9, type := 4, pos := "law.go:97", after := #[{ on := 1, ground := Ground.data }, { on := 3, ground := Ground.data }], guard := none }) (v := ?_) rfl (by kernel_rfl) (by kernel_rfl) (by kernel_rfl) (fun _ _ _ h => h) (Or.inl ⟨by rfl, ?_⟩) (by exact kS) ?_
    rotate_left
    · intro w hSw; (try dsimp only at hSw); (go_simp <;> with_reducible rfl)
    try simp only [Act.put, List.setIfInBounds_toArray, List.set_cons_zero, List.set_cons_succ]
    refine wpAnyH_take (i := 5) (oi := { dst := some 16, op := Op.move (Operand.tmp 15), type := 4, pos := "law.go:97", after := #[{ on := 4, ground := Ground.data }, { on := 3, ground := Ground.chain }], guard := none }) (v := ?_) rfl (by kernel_rfl) (by kernel_rfl) (by kernel_rfl) (fun _ _ _ h => h) (Or.inl ⟨by rfl, ?_⟩) (by exact kS) ?_
    rotate_left
    · intro w hSw; (try dsimp only at hSw); (go_simp <;> with_reducible rfl)
    try simp only [Act.put, List.setIfInBounds_toArray, List.set_cons_zero, List.set_cons_succ]
    refine wpAnyH_take (i := 6) (oi := { dst := some 17, op := Op.load 26 (Operand.tmp 2), type := 26, pos := "law.go:97", after := #[{ on := 5, ground := Ground.guard }], guard := some (5, true) }) (v := ?_) rfl (by kernel_rfl) (by kernel_rfl) (by kernel_rfl) (fun _ _ _ h => h) (Or.inl ⟨by rfl, ?_⟩) (by exact kS) ?_
    rotate_left
    · intro w hSw; (try dsimp only at hSw); (go_simp <;> with_reducible rfl)
    try simp only [Act.put, List.setIfInBounds_toArray, List.set_cons_zero, List.set_cons_succ]
    refine wpAnyH_take (i := 7) (oi := { dst := some 18, op := Op.load 26 (Operand.tmp 3), type := 26, pos := "law.go:97", after := #[{ on := 5, ground := Ground.guard }], guard := some (5, true) }) (v := ?_) rfl (by kernel_rfl) (by kernel_rfl) (by kernel_rfl) (fun _ _ _ h => h) (Or.inl ⟨by rfl, ?_⟩) (by exact kS) ?_
    rotate_left
    · intro w hSw; (try dsimp only at hSw); (go_simp <;> with_reducible rfl)
    try simp only [Act.put, List.setIfInBounds_toArray, List.set_cons_zero, List.set_cons_succ]
    refine wpAnyH_take (i := 9) (oi := { dst := some 20, op := Op.load 26 (Operand.tmp 2), type := 26, pos := "law.go:97", after := #[{ on := 5, ground := Ground.guard }], guard := some (5, true) }) (v := ?_) rfl (by kernel_rfl) (by kernel_rfl) (by kernel_rfl) (fun _ _ _ h => h) (Or.inl ⟨by rfl, ?_⟩) (by exact kS) ?_
    rotate_left
    · intro w hSw; (try dsimp only at hSw); (go_simp <;> with_reducible rfl)
    try simp only [Act.put, List.setIfInBounds_toArray, List.set_cons_zero, List.set_cons_succ]
    refine wpAnyH_take (i := 10) (oi := { dst := some 21, op := Op.load 26 (Operand.tmp 3), type := 26, pos := "law.go:97", after := #[{ on := 5, ground := Ground.guard }], guard := some (5, true) }) (v := ?_) rfl (by kernel_rfl) (by kernel_rfl) (by kernel_rfl) (fun _ _ _ h => h) (Or.inl ⟨by rfl, ?_⟩) (by exact kS) ?_
    rotate_left
    · intro w hSw; (try dsimp only at hSw); (go_simp <;> with_reducible rfl)
    try simp only [Act.put, List.setIfInBounds_toArray, List.set_cons_zero, List.set_cons_succ]
    refine wpAnyH_ready (rs := [8]) (by kernel_rfl) (by simp) ?_
    refine AllReadyH.cons (o := { dst := some 19, op := Op.call { callee := Callee.value (Operand.func 13), args := #[Operand.tmp 17, Operand.tmp 18], argTypes := #[26, 26] }, type := 4, pos := "law.go:97", after := #[{ on := 6, ground := Ground.data }, { on := 7, ground := Ground.data }, { on := 5, ground := Ground.chain }, { on := 5, ground := Ground.guard }], guard := some (5, true) }) rfl (fun K hK => ?_) AllReadyH.nil
    go_simp
    go_at_call 13; refine (HI1.out _ HB2.out).mono ?_; rintro e x3 ⟨rfl, hb⟩; have HB3 : Hid (Below wr.heap.size wr x3) := hb; have kS := HKP.out x3 HB3.out; clear hb
    go_wp2_with fail
    refine hK.out _ _ (by exact kS) (fun hHeld => ?_)
    clear hK K hHeld
    try simp only [Act.put, List.setIfInBounds_toArray, List.set_cons_zero, List.set_cons_succ]
    refine wpAnyH_ready (rs := [11]) (by kernel_rfl) (by simp) ?_
    refine AllReadyH.cons (o := { dst := some 22, op := Op.call { callee := Callee.value (Operand.func 14), args := #[Operand.tmp 20, Operand.tmp 21], argTypes := #[26, 26] }, type := 4, pos := "law.go:97", after := #[{ on := 9, ground := Ground.data }, { on := 10, ground := Ground.data }, { on := 8, ground := Ground.chain }, { on := 5, ground := Ground.guard }], guard := some (5, true) }) rfl (fun K hK => ?_) AllReadyH.nil
    go_simp
    go_at_call 14; refine (HI2.out _ HB3.out).mono ?_; rintro e x4 ⟨rfl, hb⟩; have HB4 : Hid (Below wr.heap.size wr x4) := hb; have kS := HKP.out x4 HB4.out; clear hb
    go_wp2_with fail
    refine hK.out _ _ (by exact kS) (fun hHeld => ?_)
    clear hK K hHeld
    try simp only [Act.put, List.setIfInBounds_toArray, List.set_cons_zero, List.set_cons_succ]
    refine wpAnyH_take (i := 12) (oi := { dst := some 23, op := Op.binOp BinOp.eql 4 (Operand.tmp 19) (Operand.tmp 22) 4, type := 4, pos := "law.go:97", after := #[{ on := 8, ground := Ground.data }, { on := 11, ground := Ground.data }, { on := 5, ground := Ground.guard }], guard := some (5, true) }) (v := ?_) rfl (by kernel_rfl) (by kernel_rfl) (by kernel_rfl) (fun _ _ _ h => h) (Or.inl ⟨by rfl, ?_⟩) (by exact kS) ?_
    rotate_left
    · intro w hSw; (try dsimp only at hSw); (go_simp <;> with_reducible rfl)
    try simp only [Act.put, List.setIfInBounds_toArray, List.set_cons_zero, List.set_cons_succ]
    refine wpAnyH_take (i := 13) (oi := { dst := some 24, op := Op.pick (Operand.tmp 16) (Operand.tmp 23) (Operand.const (Value.bool false)), type := 4, pos := "law.go:97", after := #[{ on := 5, ground := Ground.data }, { on := 12, ground := Ground.data }], guard := none }) (v := ?_) rfl (by kernel_rfl) (by kernel_rfl) (by kernel_rfl) (fun _ _ _ h => h) (Or.inl ⟨by rfl, ?_⟩) (by exact kS) ?_
    rotate_left
    · intro w hSw; (try dsimp only at hSw); (go_simp <;> with_reducible rfl)
    try simp only [Act.put, List.setIfInBounds_toArray, List.set_cons_zero, List.set_cons_succ]
    refine wpAnyH_take (i := 14) (oi := { dst := some 25, op := Op.move (Operand.tmp 24), type := 4, pos := "law.go:97", after := #[{ on := 13, ground := Ground.data }, { on := 11, ground := Ground.chain }], guard := none }) (v := ?_) rfl (by kernel_rfl) (by kernel_rfl) (by kernel_rfl) (fun _ _ _ h => h) (Or.inl ⟨by rfl, ?_⟩) (by exact kS) ?_
    rotate_left
    · intro w hSw; (try dsimp only at hSw); (go_simp <;> with_reducible rfl)
    try simp only [Act.put, List.setIfInBounds_toArray, List.set_cons_zero, List.set_cons_succ]
    refine wpAnyH_take (i := 15) (oi := { dst := some 26, op := Op.load 26 (Operand.tmp 2), type := 26, pos := "law.go:97", after := #[{ on := 14, ground := Ground.guard }], guard := some (14, true) }) (v := ?_) rfl (by kernel_rfl) (by kernel_rfl) (by kernel_rfl) (fun _ _ _ h => h) (Or.inl ⟨by rfl, ?_⟩) (by exact kS) ?_
    rotate_left
    · intro w hSw; (try dsimp only at hSw); (go_simp <;> with_reducible rfl)
    try simp only [Act.put, List.setIfInBounds_toArray, List.set_cons_zero, List.set_cons_succ]
    refine wpAnyH_take (i := 16) (oi := { dst := some 27, op := Op.load 26 (Operand.tmp 2), type := 26, pos := "law.go:97", after := #[{ on := 14, ground := Ground.guard }], guard := some (14, true) }) (v := ?_) rfl (by kernel_rfl) (by kernel_rfl) (by kernel_rfl) (fun _ _ _ h => h) (Or.inl ⟨by rfl, ?_⟩) (by exact kS) ?_
    rotate_left
    · intro w hSw; (try dsimp only at hSw); (go_simp <;> with_reducible rfl)
    try simp only [Act.put, List.setIfInBounds_toArray, List.set_cons_zero, List.set_cons_succ]
    refine wpAnyH_ready (rs := [17]) (by kernel_rfl) (by simp) ?_
    refine AllReadyH.cons (o := { dst := some 28, op := Op.call { callee := Callee.value (Operand.func 13), args := #[Operand.tmp 26, Operand.tmp 27], argTypes := #[26, 26] }, type := 4, pos := "law.go:97", after := #[{ on := 15, ground := Ground.data }, { on := 16, ground := Ground.data }, { on := 14, ground := Ground.chain }, { on := 14, ground := Ground.guard }], guard := some (14, true) }) rfl (fun K hK => ?_) AllReadyH.nil
    go_simp
    go_at_call 13; refine (HI3.out _ HB4.out).mono ?_; rintro e x5 ⟨rfl, hb⟩; have HB5 : Hid (Below wr.heap.size wr x5) := hb; have kS := HKP.out x5 HB5.out; clear hb
    go_wp2_with fail
    refine hK.out _ _ (by exact kS) (fun hHeld => ?_)
    clear hK K hHeld
    try simp only [Act.put, List.setIfInBounds_toArray, List.set_cons_zero, List.set_cons_succ]
    refine wpAnyH_take (i := 18) (oi := { dst := some 29, op := Op.pick (Operand.tmp 25) (Operand.tmp 28) (Operand.const (Value.bool false)), type := 4, pos := "law.go:97", after := #[{ on := 14, ground := Ground.data }, { on := 17, ground := Ground.data }], guard := none }) (v := ?_) rfl (by kernel_rfl) (by kernel_rfl) (by kernel_rfl) (fun _ _ _ h => h) (Or.inl ⟨by rfl, ?_⟩) (by exact kS) ?_
    rotate_left
    · intro w hSw; (try dsimp only at hSw); (go_simp <;> with_reducible rfl)
    try simp only [Act.put, List.setIfInBounds_toArray, List.set_cons_zero, List.set_cons_succ]
    refine wpAnyH_take (i := 19) (oi := { dst := some 30, op := Op.move (Operand.tmp 29), type := 4, pos := "law.go:97", after := #[{ on := 18, ground := Ground.data }, { on := 17, ground := Ground.chain }], guard := none }) (v := ?_) rfl (by kernel_rfl) (by kernel_rfl) (by kernel_rfl) (fun _ _ _ h => h) (Or.inl ⟨by rfl, ?_⟩) (by exact kS) ?_
    rotate_left
    · intro w hSw; (try dsimp only at hSw); (go_simp <;> with_reducible rfl)
    try simp only [Act.put, List.setIfInBounds_toArray, List.set_cons_zero, List.set_cons_succ]
    refine wpAnyH_ready (rs := [20]) (by kernel_rfl) (by simp) ?_
    refine AllReadyH.cons (o := { dst := some 31, op := Op.call { callee := Callee.value (Operand.func 10), args := #[], argTypes := #[] }, type := 4, pos := "law.go:97", after := #[{ on := 19, ground := Ground.chain }, { on := 19, ground := Ground.guard }], guard := some (19, true) }) rfl (fun K hK => ?_) AllReadyH.nil
    go_simp
    go_at_call 10; refine (HAW.out _ HB5.out).mono ?_; rintro e x6 ⟨rfl, hb⟩; have HB6 : Hid (Below wr.heap.size wr x6) := hb; have kS := HKP.out x6 HB6.out; clear hb
    go_wp2_with fail
    refine hK.out _ _ (by exact kS) (fun hHeld => ?_)
    clear hK K hHeld
    try simp only [Act.put, List.setIfInBounds_toArray, List.set_cons_zero, List.set_cons_succ]
    refine wpAnyH_take (i := 21) (oi := { dst := some 32, op := Op.pick (Operand.tmp 30) (Operand.tmp 31) (Operand.const (Value.bool false)), type := 4, pos := "law.go:97", after := #[{ on := 19, ground := Ground.data }, { on := 20, ground := Ground.data }], guard := none }) (v := ?_) rfl (by kernel_rfl) (by kernel_rfl) (by kernel_rfl) (fun _ _ _ h => h) (Or.inl ⟨by rfl, ?_⟩) (by exact kS) ?_
    rotate_left
    · intro w hSw; (try dsimp only at hSw); (go_simp <;> with_reducible rfl)
    try simp only [Act.put, List.setIfInBounds_toArray, List.set_cons_zero, List.set_cons_succ]
    refine wpAnyH_take (i := 22) (oi := { dst := some 4, op := Op.assign (Operand.tmp 32), type := 4, pos := "law.go:97", after := #[{ on := 21, ground := Ground.data }, { on := 20, ground := Ground.chain }, { on := 0, ground := Ground.phase }, { on := 1, ground := Ground.phase }, { on := 2, ground := Ground.phase }, { on := 3, ground := Ground.phase }, { on := 4, ground := Ground.phase }, { on := 5, ground := Ground.phase }, { on := 6, ground := Ground.phase }, { on := 7, ground := Ground.phase }, { on := 8, ground := Ground.phase }, { on := 9, ground := Ground.phase }, { on := 10, ground := Ground.phase }, { on := 11, ground := Ground.phase }, { on := 12, ground := Ground.phase }, { on := 13, ground := Ground.phase }, { on := 14, ground := Ground.phase }, { on := 15, ground := Ground.phase }, { on := 16, ground := Ground.phase }, { on := 17, ground := Ground.phase }, { on := 18, ground := Ground.phase }, { on := 19, ground := Ground.phase }, { on := 20, ground := Ground.phase }, { on := 21, ground := Ground.phase }], guard := none }) (v := ?_) rfl (by kernel_rfl) (by kernel_rfl) (by kernel_rfl) (fun _ _ _ h => h) (Or.inl ⟨by rfl, ?_⟩) (by exact kS) ?_
    rotate_left
    · intro w hSw; (try dsimp only at hSw); (go_simp <;> with_reducible rfl)
    try simp only [Act.put, List.setIfInBounds_toArray, List.set_cons_zero, List.set_cons_succ]
    refine wpAnyH_done (by kernel_rfl) ?_ _
    go_wp2_with fail
    go_ret
    exact ⟨rfl, bthen HB9.out HB6.out⟩
end Go.Proofs.Ytifcikhgbafegaa
/-
  Types that came in as arguments of a small bulk, opened.
-/
namespace Go.Proofs.Ytifcikhgbafegaa
open Go.ChangeShapes Go.WideShapes Go.ChangeAt Go.RowKit
def szs {α : Type} (sz : α → Nat) : List α → Nat
  | [] => 0
  | x :: r => sz x + szs sz r
theorem bulk_pos {H : Type} (d : DataW H) : 1 ≤ Rows.uptoBulk d := by
  cases d with
  | lit l => cases l <;> simp [Rows.uptoBulk]
  | _ => simp [Rows.uptoBulk]
theorem szs_bulk {α H : Type} {P : Type} {sz : α → Nat} : ∀ (es : List (DataW H × P)) (g : Nat → α), (∀ i (h : i < es.length), sz (g i) ≤ Rows.uptoBulk (es[i]).1) → szs sz ((List.range es.length).map g) ≤ Rows.uptoBulkAll (es.map Prod.fst)
  | [], _, _ => by simp [szs]
  | e :: r, g, h => by
    have h0 := h 0 (by simp)
    have h1 := szs_bulk r (fun i => g (i + 1)) (fun i hi => by have := h (i + 1) (by simpa using hi); simpa using this)
    rw [List.length_cons, List.range_succ_eq_map, List.map_cons, List.map_map, List.map_cons, szs, Rows.uptoBulkAll]
    simp only [List.getElem_cons_zero] at h0
    exact Nat.add_le_add h0 h1
theorem wtL_bulk {H : Type} {P : Type} : ∀ (es : List (DataW H × P)) (g : Nat → Ty), (∀ i (h : i < es.length), (g i).wt + 10 ≤ 10 * Rows.uptoBulk (es[i]).1) → wtL ((List.range es.length).map g) ≤ 10 * Rows.uptoBulkAll (es.map Prod.fst)
  | [], _, _ => by simp [wtL]
  | e :: r, g, h => by
    have h0 := h 0 (by simp)
    have h1 := wtL_bulk r (fun i => g (i + 1)) (fun i hi => by have := h (i + 1) (by simpa using hi); simpa using this)
    rw [List.length_cons, List.range_succ_eq_map, List.map_cons, List.map_map, List.map_cons, wtL, Rows.uptoBulkAll]
    simp only [List.getElem_cons_zero] at h0
    have h1 : wtL (List.map (g ∘ Nat.succ) (List.range r.length)) ≤ 10 * Rows.uptoBulkAll (r.map Prod.fst) := h1
    omega
theorem szs_sumB (ns : List ByteArray) : sumB (ns.map LB) = szs ByteArray.size ns := by
  induction ns with
  | nil => rfl
  | cons x r ih => simp only [List.map_cons, sumB, szs, ih, LB_len]
/-- a slice of things of one cell each -/
theorem openU_one {α : Type} [Inhabited α] {sz : α → Nat} {f : α → Value} {H : Type} {enc : TypeId × Value → H} {W : World} {spare : Nat → Bool} {held : Bool} {T E : TypeId} (hT : Try.prog.underlying T = some (.slice E)) (hE : Try.prog.cellsOf E = 1)
    (hel : ∀ (n : Nat) (c : Value) (x : DataW H × List MemPlace), DataW.trod enc Try.prog W 0 spare held n E [c] = some x → ∃ y, c = f y ∧ sz y ≤ Rows.uptoBulk x.1) {fuel : Nat} {c : Value} {x : DataW H × List MemPlace} (h : DataW.trod enc Try.prog W 0 spare held fuel T [c] = some x) :
    ∃ l : List α, RowV f (fun b => b < W.heap.size) W c l ∧ szs sz l + 1 ≤ Rows.uptoBulk x.1 := by
  rcases DataW.trod_slice hT h with ⟨hcs, _⟩ | ⟨a', len, cap, elems, rest, n', hfu, hcs, hx, _, hlc, hcm, hlen, hele, _, _⟩
  · simp at hcs
    subst hcs
    exact ⟨[], .inl ⟨_, _, rfl, rfl⟩, by have := bulk_pos x.1; simp only [szs]; omega⟩
  · simp at hcs
    subst hcs
    have hbk : Rows.uptoBulkAll (elems.map Prod.fst) + 1 ≤ Rows.uptoBulk x.1 := by
      rw [hx]
      have e9 : elems.map Prod.fst = elems.map (fun x => x.1) := rfl
      simp only [Rows.uptoBulk, e9]
      omega
    by_cases h0 : len = 0
    · subst h0
      exact ⟨[], .inl ⟨_, _, rfl, rfl⟩, by have := bulk_pos x.1; simp only [szs]; omega⟩
    have each : ∀ i, i < len → ∃ y : α, W.cell? (a'.add i) = some (f y) ∧ ∀ (h : i < elems.length), sz y ≤ Rows.uptoBulk (elems[i]).1 := fun i hi => by
      have key := hele i hi
      rw [hE, List.getElem?_eq_getElem (by omega)] at key
      obtain ⟨cs', h1, h2⟩ := Option.bind_eq_some_iff.1 key
      obtain ⟨hl1, _, h3⟩ := World.cells?_some h1
      have h4 := h3 0 (by omega)
      match cs', hl1 with
      | [c1], _ =>
        obtain ⟨y, rfl, hy⟩ := hel _ _ _ h2
        refine ⟨y, ?_, fun _ => hy⟩
        rw [Go.Deep.add_add, show i * 1 + 0 = i by omega] at h4
        rw [h4]; rfl
    obtain ⟨g, hg⟩ := Go.Deep.choose_lt each
    obtain ⟨B, o, sp⟩ := a'
    have hsp : sp = none := by
      have := (hg 0 (by omega)).1
      rw [show (⟨B, o, sp⟩ : Addr).add 0 = ⟨B, o, sp⟩ by simp [Addr.add]] at this
      exact spot_none this
    subst hsp
    have hcell : ∀ i, i < len → W.cell? ⟨B, o + i, none⟩ = some (f (g i)) := fun i hi => by
      have := (hg i hi).1
      rwa [add_plain] at this
    have hkl : ((List.range len).map g).length = len := by simp
    refine ⟨(List.range len).map g, .inr ⟨B, o, cap, by rw [hkl], by rw [hkl]; unfold maxLen at hcm; omega, ?_, ?_, fun i x hx => ?_⟩, ?_⟩
    · have := World.block_lt_of_cell? _ _ (hcell 0 (by omega)); exact this
    · have := World.block_lt_of_cell? _ _ (hcell 0 (by omega)); exact this
    · have hi : i < len := by have := (List.getElem?_eq_some_iff.1 hx).1; simpa using this
      obtain rfl : g i = x := by simpa [hi] using hx
      exact hcell i hi
    · have := szs_bulk elems g (fun i h => (hg i (by omega)).2 h)
      rw [hlen] at this
      omega
/-- a slice of types, from how one is opened -/
theorem openU_many {H : Type} {enc : TypeId × Value → H} {W : World} {spare : Nat → Bool} {held : Bool} {fuel : Nat}
    (ih : ∀ n, n < fuel → ∀ {cs : List Value} {x : DataW H × List MemPlace}, DataW.trod enc Try.prog W 0 spare held n 26 cs = some x → ∃ (t : Ty) (v : V3), cs = cel t v ∧ Prt (fun b => b < W.heap.size) W t v.n v.m v.k ∧ t.wt + 10 ≤ 10 * Rows.uptoBulk x.1)
    {c : Value} {x : DataW H × List MemPlace} (h : DataW.trod enc Try.prog W 0 spare held fuel 24 [c] = some x) :
    ∃ ks : List Ty, SlT (fun b => b < W.heap.size) W c ks ∧ wtL ks + 10 ≤ 10 * Rows.uptoBulk x.1 := by
  rcases DataW.trod_slice Try.underlying24 h with ⟨hcs, _⟩ | ⟨a', len, cap, elems, rest, n', hfu, hcs, hx, _, hlc, hcm, hlen, hel, _, _⟩
  · simp at hcs
    subst hcs
    exact ⟨[], .inl ⟨_, _, rfl, rfl⟩, by have := bulk_pos x.1; simp only [wtL]; omega⟩
  · simp at hcs
    subst hcs
    by_cases h0 : len = 0
    · subst h0
      exact ⟨[], .inl ⟨_, _, rfl, rfl⟩, by have := bulk_pos x.1; simp only [wtL]; omega⟩
    have each : ∀ i, i < len → ∃ p : Ty × V3, (∀ j, j < 7 → W.cell? ((a'.add (i * 7)).add j) = (cel p.1 p.2)[j]?) ∧ Prt (fun b => b < W.heap.size) W p.1 p.2.n p.2.m p.2.k ∧ ∀ (h : i < elems.length), p.1.wt + 10 ≤ 10 * Rows.uptoBulk (elems[i]).1 := fun i hi => by
      have key := hel i hi
      rw [cellsT, List.getElem?_eq_getElem (by omega)] at key
      obtain ⟨cs', h1, h2⟩ := Option.bind_eq_some_iff.1 key
      obtain ⟨t, v, rfl, hv, hf⟩ := ih n' (by omega) h2
      obtain ⟨_, _, h3⟩ := World.cells?_some h1
      exact ⟨(t, v), fun j hj => h3 j hj, hv, fun _ => hf⟩
    obtain ⟨f, hf'⟩ := Go.Deep.choose_lt each
    obtain ⟨B, o, sp⟩ := a'
    have hsp : sp = none := by
      have h1 : W.cell? ⟨B, o, sp⟩ = some (.int .i64 (f 0).1.kind) := by
        have := (hf' 0 (by omega)).1 0 (by omega)
        simpa [Addr.add, cel] using this
      exact spot_none h1
    subst hsp
    have hcell : ∀ i, i < len → ∀ j, j < 7 → W.cell? ⟨B, o + i * 7 + j, none⟩ = (cel (f i).1 (f i).2)[j]? := fun i hi j hj => by
      have := (hf' i hi).1 j hj
      rw [Go.Deep.add_add, add_plain] at this
      rw [Nat.add_assoc]
      exact this
    have hBw : B < W.heap.size := by
      have h2 : W.cell? ⟨B, o, none⟩ = some (.int .i64 (f 0).1.kind) := by
        have := hcell 0 (by omega) 0 (by omega)
        simpa [cel] using this
      exact World.block_lt_of_cell? W ⟨B, o, none⟩ h2
    have hkl : ((List.range len).map fun i => (f i).1).length = len := by simp
    refine ⟨(List.range len).map fun i => (f i).1, .inr ⟨B, o, cap, by rw [hkl], by rw [hkl]; unfold maxLen at hcm; omega, hBw, hBw, liesT_of fun i hi => ?_⟩, ?_⟩
    · have hi' : i < len := by omega
      have hg : ((List.range len).map fun i => (f i).1)[i] = (f i).1 := by simp
      rw [hg]
      have k := hcell i hi'
      exact lies_iff.2 ⟨by simpa [cel] using k 0 (by omega), by simpa [cel] using k 1 (by omega), by simpa [cel] using k 2 (by omega), by simpa [cel] using k 3 (by omega), _, _, _, by simpa [cel] using k 4 (by omega), by simpa [cel] using k 5 (by omega), by simpa [cel] using k 6 (by omega), (hf' i hi').2.1⟩
    · have hbk : Rows.uptoBulkAll (elems.map Prod.fst) + 1 ≤ Rows.uptoBulk x.1 := by
        rw [hx]
        have e9 : elems.map Prod.fst = elems.map (fun x => x.1) := rfl
        simp only [Rows.uptoBulk, e9]
        omega
      have := wtL_bulk elems (fun i => (f i).1) (fun i h => (hf' i (by omega)).2.2 h)
      rw [hlen] at this
      omega
set_option maxRecDepth 100000 in
/-- what a type's cells read as -/
theorem openU_node {H : Type} {enc : TypeId × Value → H} {W : World} {spare : Nat → Bool} {held : Bool} : ∀ (fuel : Nat) {cs : List Value} {x : DataW H × List MemPlace}, DataW.trod enc Try.prog W 0 spare held fuel 26 cs = some x →
    ∃ (t : Ty) (v : V3), cs = cel t v ∧ Prt (fun b => b < W.heap.size) W t v.n v.m v.k ∧ t.wt + 10 ≤ 10 * Rows.uptoBulk x.1 := by
  intro fuel
  induction fuel using Nat.strongRecOn with
  | ind fuel ih =>
    intro cs x h
    obtain ⟨xs, k, hk, rfl, hl, hxl, hf⟩ := DataW.trod_struct Try.underlying26 h
    rw [cellsT] at hl
    match cs, hl with
    | [c0, c1, c2, c3, c4, c5, c6], _ =>
      have g0 : DataW.trod enc Try.prog W 0 spare held k 3 [c0] = xs[0]? := by have h := hf 0 _ rfl; simpa [cellsI] using h
      have g1 : DataW.trod enc Try.prog W 0 spare held k 9 [c1] = xs[1]? := by have h := hf 1 _ rfl; simpa [cellsI, cellsS] using h
      have g2 : DataW.trod enc Try.prog W 0 spare held k 3 [c2] = xs[2]? := by have h := hf 2 _ rfl; simpa [cellsI, cellsS] using h
      have g3 : DataW.trod enc Try.prog W 0 spare held k 4 [c3] = xs[3]? := by have h := hf 3 _ rfl; simpa [cellsI, cellsS, cellsB] using h
      have g4 : DataW.trod enc Try.prog W 0 spare held k 22 [c4] = xs[4]? := by have h := hf 4 _ rfl; simpa [cellsI, cellsS, cellsB, cellsSS] using h
      have g5 : DataW.trod enc Try.prog W 0 spare held k 23 [c5] = xs[5]? := by have h := hf 5 _ rfl; simpa [cellsI, cellsS, cellsB, cellsSS, cellsSB] using h
      have g6 : DataW.trod enc Try.prog W 0 spare held k 24 [c6] = xs[6]? := by have h := hf 6 _ rfl; simpa [cellsI, cellsS, cellsB, cellsSS, cellsSB, cellsST] using h
      match xs, hxl with
      | [y0, y1, y2, y3, y4, y5, y6], _ =>
        simp only [List.getElem?_cons_zero, List.getElem?_cons_succ] at g0 g1 g2 g3 g4 g5 g6
        obtain ⟨s0, e0, r0, _⟩ := DataW.trod_int Try.underlying3 g0
        obtain ⟨s1, e1, r1, _⟩ := DataW.trod_string Try.underlying9 g1
        obtain ⟨s2, e2, r2, _⟩ := DataW.trod_int Try.underlying3 g2
        obtain ⟨s3, e3, r3⟩ := DataW.trod_bool Try.underlying4 g3
        simp at e0 e1 e2 e3
        subst e0 e1 e2 e3
        obtain ⟨ns, hns, wns⟩ := openU_one (f := Value.string) (sz := ByteArray.size) Try.underlying22 cellsS (fun n c x h => by obtain ⟨s, e, r, _⟩ := DataW.trod_string Try.underlying9 h; exact ⟨s, by simpa using e, by rw [r]; simp [Rows.uptoBulk]⟩) g4
        obtain ⟨ms, hms, wms⟩ := openU_one (f := Value.bool) (sz := fun _ => 0) Try.underlying23 cellsB (fun n c x h => by obtain ⟨s, e, _⟩ := DataW.trod_bool Try.underlying4 h; exact ⟨s, by simpa using e, Nat.zero_le _⟩) g5
        obtain ⟨ks, hks, wks⟩ := openU_many (fuel := k) (fun n hn => ih n (by omega)) g6
        refine ⟨.mk s0 s1 s2 s3 ns ms ks, ⟨c4, c5, c6⟩, rfl, ⟨hns, hms, hks⟩, ?_⟩
        rw [Ty.wt, szs_sumB]
        simp only [List.map_cons, List.map_nil, Rows.uptoBulk, Rows.uptoBulkAll]
        have hb1 : s1.size + 1 = Rows.uptoBulk y1.1 := by rw [r1]; simp [Rows.uptoBulk]
        have p0 := bulk_pos y0.1
        have p2 := bulk_pos y2.1
        have p3 := bulk_pos y3.1
        have p5 := bulk_pos y5.1
        omega
set_option maxRecDepth 100000 in
/-- an argument that is a type -/
theorem openU_type {H : Type} {enc : TypeId × Value → H} {W : World} {base : Nat} {v : Value} {d : DataW H} {ps : List MemPlace} (hv : Value.okWide Try.prog W .any base 26 v) (h : DataW.Trod enc Try.prog W 0 (fun _ => true) true 26 v d ps) :
    ∃ (t : Ty) (vn vm vk : Value), v = agT t vn vm vk ∧ Prt (fun b => b < W.heap.size) W t vn vm vk ∧ t.wt + 10 ≤ 10 * Rows.uptoBulk d := by
  obtain ⟨cs, rfl, _⟩ := okWide_struct Try.underlying26 hv
  obtain ⟨fuel, hf⟩ := h
  obtain ⟨t, u, hc, hs, hw⟩ := openU_node fuel hf
  refine ⟨t, u.n, u.m, u.k, ?_, hs, hw⟩
  simp only [Value.cells] at hc
  unfold agT
  congr 1
  exact Array.toList_inj.1 hc
end Go.Proofs.Ytifcikhgbafegaa
/-
  TypesText holds up to the given bulk: for every two types that hold together at most 1,048,576 values and letters, the Go function recastlaw8.TypesText of the landed commit returns true, changes nothing that was handed in, and neither panics nor runs on: types.Text writes each type as the document writes it, types.Identical tells of any two what the document tells, and each type is identical to itself.
  Conditions: what comes in is of bulk at most 1,048,576.
-/
namespace Go.Proofs.Ytifcikhgbafegaa.typesText
open Go.ChangeShapes Go.WideShapes Go.ChangeAt Go.RowKit

theorem own : ownKnob Try.prog.godebug = none := by kernel_rfl
theorem laidOut : laidOutB Try.prog = true := by kernel_rfl

set_option maxRecDepth 100000 in
theorem contract (H : Type) (enc : TypeId × Value → H) (W : World) (base : Nat) (args : Array Value) (ds gs : List (DataW H)) (before : List MemPlace)
    (hval : ∀ (j : Nat) t v, Try.f3.params[j]? = some t → args[j]? = some v → Value.okWide Try.prog W .any base t v)
    (hW : DataW.Whole enc Try.prog Try.f3.params.toList Rows.typesTextSpec.vars false W args.toList ds gs before) (hk : Rows.uptoSmall H (ds ++ gs) = true) :
    Calls Try.prog 3 args W fun e W' => ∃ v, e = .returned v ∧ Rows.typesTextSpec.post enc Try.prog Try.f3 false true false false W args v W' := by
  have hW' := hW
  obtain ⟨p, q, hA0, hV, rfl, hfz, hnd⟩ := hW
  have hA : DataW.TrodAll enc Try.prog W 0 (fun _ => true) true Try.f3.params.toList args.toList ds p := hA0
  rw [Try.params3] at hA hval
  obtain ⟨v0, vs0, d0, ds0, p0, q0, hargs, rfl, rfl, h0, r0⟩ := trodAll_cons hA
  obtain ⟨v1, vs1, d1, ds1, p1, q1, rfl, rfl, rfl, h1, r1⟩ := trodAll_cons r0
  obtain ⟨rfl, rfl, rfl⟩ := trodAll_nil r1
  obtain rfl : args = #[v0, v1] := by cases args; simp_all
  obtain ⟨rfl, rfl⟩ := trodVars_none hV
  obtain ⟨t1, vn1, vm1, vk1, rfl, hp1, hw1⟩ := openU_type (hval 0 26 v0 rfl rfl) h0
  obtain ⟨t2, vn2, vm2, vk2, rfl, hp2, -⟩ := openU_type (hval 1 26 v1 rfl rfl) h1
  clear hA0
  simp only [List.append_nil] at hW' hk
  have hb : Rows.uptoBulkAll [d0, d1] ≤ 1048576 := of_decide_eq_true hk
  simp only [Rows.uptoBulkAll] at hb
  have hlt0 : ∀ x ∈ p0, x.block < W.heap.size := fun x hx => hW'.lt x (by simp [hx])
  have hlt1 : ∀ x ∈ p1, x.block < W.heap.size := fun x hx => hW'.lt x (by simp [hx])
  refine (typesText_any hp1 hp2 (by omega)).mono fun e W' ⟨he, hg⟩ => ?_
  subst he
  exact ⟨_, rfl, _, _, _, [], p0 ++ (p1 ++ []), [], hW', trodAll_cons_mk (shut_bool Try.underlying4 _) trodAll_mk0, trodAll_cons_mk (Below.trod laidOut (by kernel_rfl) (of_decide_eq_true (by kernel_rfl)) h0 hg hlt0) (trodAll_cons_mk (Below.trod laidOut (by kernel_rfl) (of_decide_eq_true (by kernel_rfl)) h1 hg hlt1) trodAll_mk0), rfl, hg.frame _, fun h => by cases h⟩

set_option maxRecDepth 100000 in
theorem lifted (os : Os) (started : os.Started) (H : Type) (enc : TypeId × Value → H) (F : Stop.Interp) :
    ReturnsInHanded {} Try.checked os 3 .any ((Rows.OpenSpec.upto Rows.typesTextSpec).pre6 enc Try.prog Try.f3 Rows.typesTextUptoRow.domain false) (((Rows.OpenSpec.upto Rows.typesTextSpec).at F).post enc Try.prog Try.f3 false true false false) := by
  refine returnsInHanded_of_cond (C := Try.checked) (s := Rows.OpenSpec.upto Rows.typesTextSpec) (k := Rows.uptoSmall) rfl own started (by kernel_rfl) Try.func3
    (OpenSpec.witness (enc := enc) (C := Try.checked) (s := Rows.OpenSpec.upto Rows.typesTextSpec) (k := Rows.uptoSmall) rfl false ⟨#[], #[.agg #[.int .i64 0, .string ByteArray.empty, .int .i64 0, .bool false, .slice none 0 0, .slice none 0 0, .slice none 0 0], .agg #[.int .i64 0, .string ByteArray.empty, .int .i64 0, .bool false, .slice none 0 0, .slice none 0 0, .slice none 0 0]], []⟩ 8 (by kernel_rfl) (by kernel_rfl) (by kernel_rfl)
      (x := ([.agg [.lit (.int .i64 0), .lit (.string []), .lit (.int .i64 0), .lit (.bool false), .nil, .nil, .nil], .agg [.lit (.int .i64 0), .lit (.string []), .lit (.int .i64 0), .lit (.bool false), .nil, .nil, .nil]], [], [])) (by kernel_rfl) rfl (by kernel_rfl)) ?_
  intro W base args ds gs before hval hW _ hk _
  exact contract H enc W base args ds gs before hval hW hk

theorem proved : Rows.TypesTextUptoSaid :=
  OpenClaim.holds_of_cond 3 Try.f3 rfl rfl rfl rfl rfl rfl rfl ⟨rfl, rfl, rfl, rfl, rfl⟩ rfl rfl rfl rfl rfl (by kernel_rfl) Try.func3 (by kernel_rfl)
    (of_decide_eq_true (by kernel_rfl)) (by unfold Func.isWrapper; first | (rw [if_pos (by decide +kernel)]; kernel_rfl) | (rw [if_neg (by decide +kernel)]; exact ⟨rfl, rfl⟩))
    (fun os started H enc _ F => lifted os started H enc F)
end Go.Proofs.Ytifcikhgbafegaa.typesText
namespace Go.Proofs.Ytifcikhgbafegaa
theorem typesText_holds : Rows.TypesTextUptoSaid := typesText.proved
#print axioms typesText_holds
end Go.Proofs.Ytifcikhgbafegaa
