/-
  The law TypesLaws, walked.
-/
import Derived.Test.YtifcikhgbafegabMkl
import Derived.Test.YtifcikhgbafegabLyY
import Derived.Test.YtifcikhgbafegabIdq
import Derived.Test.YtifcikhgbafegabIdw
import Derived.Test.YtifcikhgbafegabSbX
import Derived.Deep.RegionHeld3
import Derived.Test.YtifcikhgbafegabRows
import Derived.Test.YtifcikhgbafegabOpX
import Derived.WalkKit
import Derived.ProofKit
import Derived.OpenShut
import Derived.HandedShaped
import Derived.Carry
import Derived.JoinedCond
namespace Go.Proofs.Ytifcikhgbafegab
open Go.RowKit
attribute [local go_sem ↓] Go.wp_at_zero Go.wp_at_succ
set_option maxRecDepth 100000 in
set_option maxHeartbeats 16000000 in
theorem typesLaws_any {W : World} {t1 t2 t3 : Ty} {vn1 vm1 vk1 vn2 vm2 vk2 vn3 vm3 vk3 : Value} (hp1 : Prt (fun b => b < W.heap.size) W t1 vn1 vm1 vk1) (hp2 : Prt (fun b => b < W.heap.size) W t2 vn2 vm2 vk2) (hp3 : Prt (fun b => b < W.heap.size) W t3 vn3 vm3 vk3) (hw1 : t1.wt ≤ 50000000) (hw2 : t2.wt ≤ 50000000) (hf1 : Fit t1) :
    Calls Try.prog 3 #[agT t1 vn1 vm1 vk1, agT t2 vn2 vm2 vk2, agT t3 vn3 vm3 vk3] W fun e w' => e = .returned (.bool true) ∧ Below W.heap.size W w' := by
  obtain ⟨an1, cn1, am1, cm1, ak1, ck1, rfl, rfl, rfl⟩ := hp1.form
  obtain ⟨ln1, hln1⟩ : ∃ l, t1.names.length = l := ⟨_, rfl⟩
  obtain ⟨lm1, hlm1⟩ : ∃ l, t1.marks.length = l := ⟨_, rfl⟩
  obtain ⟨lk1, hlk1⟩ : ∃ l, t1.kids.length = l := ⟨_, rfl⟩
  rw [hln1, hlm1, hlk1] at hp1 ⊢
  obtain ⟨k1, nm1, n1, f1, ns1, ms1, ks1⟩ := t1
  have HLN : Hid (ns1.length = ln1 ∧ ms1.length = lm1 ∧ ks1.length = lk1) := ⟨hln1, hlm1, hlk1⟩
  clear hln1 hlm1 hlk1
  obtain ⟨an2, cn2, am2, cm2, ak2, ck2, rfl, rfl, rfl⟩ := hp2.form
  obtain ⟨ln2, hln2⟩ : ∃ l, t2.names.length = l := ⟨_, rfl⟩
  obtain ⟨lm2, hlm2⟩ : ∃ l, t2.marks.length = l := ⟨_, rfl⟩
  obtain ⟨lk2, hlk2⟩ : ∃ l, t2.kids.length = l := ⟨_, rfl⟩
  rw [hln2, hlm2, hlk2] at hp2 ⊢
  obtain ⟨k2, nm2, n2, f2, ns2, ms2, ks2⟩ := t2
  clear hln2 hlm2 hlk2
  obtain ⟨an3, cn3, am3, cm3, ak3, ck3, rfl, rfl, rfl⟩ := hp3.form
  obtain ⟨ln3, hln3⟩ : ∃ l, t3.names.length = l := ⟨_, rfl⟩
  obtain ⟨lm3, hlm3⟩ : ∃ l, t3.marks.length = l := ⟨_, rfl⟩
  obtain ⟨lk3, hlk3⟩ : ∃ l, t3.kids.length = l := ⟨_, rfl⟩
  rw [hln3, hlm3, hlk3] at hp3 ⊢
  obtain ⟨k3, nm3, n3, f3, ns3, ms3, ks3⟩ := t3
  clear hln3 hlm3 hlk3
  have HP1 : Hid (Prt (fun b => b < W.heap.size) W (.mk k1 nm1 n1 f1 ns1 ms1 ks1) (.slice an1 ln1 cn1) (.slice am1 lm1 cm1) (.slice ak1 lk1 ck1)) := hp1
  have HP2 : Hid (Prt (fun b => b < W.heap.size) W (.mk k2 nm2 n2 f2 ns2 ms2 ks2) (.slice an2 ln2 cn2) (.slice am2 lm2 cm2) (.slice ak2 lk2 ck2)) := hp2
  have HP3 : Hid (Prt (fun b => b < W.heap.size) W (.mk k3 nm3 n3 f3 ns3 ms3 ks3) (.slice an3 ln3 cn3) (.slice am3 lm3 cm3) (.slice ak3 lk3 ck3)) := hp3
  have HW1 : Hid (((.mk k1 nm1 n1 f1 ns1 ms1 ks1) : Ty).wt ≤ 50000000) := hw1
  have HW2 : Hid (((.mk k2 nm2 n2 f2 ns2 ms2 ks2) : Ty).wt ≤ 50000000) := hw2
  have HF1 : Hid (Fit (.mk k1 nm1 n1 f1 ns1 ms1 ks1)) := hf1
  unfold agT
  simp only [Ty.kind, Ty.name, Ty.n, Ty.flag]
  have hb3 : Below W.heap.size W ((((W.alloc (.cells #[.int .i64 k1, .string nm1, .int .i64 n1, .bool f1, .slice an1 ln1 cn1, .slice am1 lm1 cm1, .slice ak1 lk1 ck1] 26)).alloc (.cells #[.int .i64 k2, .string nm2, .int .i64 n2, .bool f2, .slice an2 ln2 cn2, .slice am2 lm2 cm2, .slice ak2 lk2 ck2] 26)).alloc (.cells #[.int .i64 k3, .string nm3, .int .i64 n3, .bool f3, .slice an3 ln3 cn3, .slice am3 lm3 cm3, .slice ak3 lk3 ck3] 26)).alloc (.cells #[.int .i64 k1, .string nm1, .int .i64 n1, .bool f1, .slice an1 ln1 cn1, .slice am1 lm1 cm1, .slice ak1 lk1 ck1, .int .i64 k2, .string nm2, .int .i64 n2, .bool f2, .slice an2 ln2 cn2, .slice am2 lm2 cm2, .slice ak2 lk2 ck2, .int .i64 k3, .string nm3, .int .i64 n3, .bool f3, .slice an3 ln3 cn3, .slice am3 lm3 cm3, .slice ak3 lk3 ck3] 26)) := bthen (bthen (bthen (below_alloc _ _) (below_alloc _ _)) (below_alloc _ _)) (below_alloc _ _)
  have hi := in_any (B := fun _ => True) (w := ((((W.alloc (.cells #[.int .i64 k1, .string nm1, .int .i64 n1, .bool f1, .slice an1 ln1 cn1, .slice am1 lm1 cm1, .slice ak1 lk1 ck1] 26)).alloc (.cells #[.int .i64 k2, .string nm2, .int .i64 n2, .bool f2, .slice an2 ln2 cn2, .slice am2 lm2 cm2, .slice ak2 lk2 ck2] 26)).alloc (.cells #[.int .i64 k3, .string nm3, .int .i64 n3, .bool f3, .slice an3 ln3 cn3, .slice am3 lm3 cm3, .slice ak3 lk3 ck3] 26)).alloc (.cells #[.int .i64 k1, .string nm1, .int .i64 n1, .bool f1, .slice an1 ln1 cn1, .slice am1 lm1 cm1, .slice ak1 lk1 ck1, .int .i64 k2, .string nm2, .int .i64 n2, .bool f2, .slice an2 ln2 cn2, .slice am2 lm2 cm2, .slice ak2 lk2 ck2, .int .i64 k3, .string nm3, .int .i64 n3, .bool f3, .slice an3 ln3 cn3, .slice am3 lm3 cm3, .slice ak3 lk3 ck3] 26))) (a := some ⟨W.heap.size + 1 + 1 + 1, 0, none⟩) (lk := 3) (ck := 3) (ks := [(.mk k1 nm1 n1 f1 ns1 ms1 ks1), (.mk k2 nm2 n2 f2 ns2 ms2 ks2), (.mk k3 nm3 n3 f3 ns3 ms3 ks3)]) (by
    refine .inr ⟨W.heap.size + 1 + 1 + 1, 0, 3, rfl, by simp, by simp, trivial, liesT_cons.2 ⟨?_, liesT_cons.2 ⟨?_, liesT_cons.2 ⟨?_, liesT_nil⟩⟩⟩⟩
    · have hbk := heap_new (((W.alloc (.cells #[.int .i64 k1, .string nm1, .int .i64 n1, .bool f1, .slice an1 ln1 cn1, .slice am1 lm1 cm1, .slice ak1 lk1 ck1] 26)).alloc (.cells #[.int .i64 k2, .string nm2, .int .i64 n2, .bool f2, .slice an2 ln2 cn2, .slice am2 lm2 cm2, .slice ak2 lk2 ck2] 26)).alloc (.cells #[.int .i64 k3, .string nm3, .int .i64 n3, .bool f3, .slice an3 ln3 cn3, .slice am3 lm3 cm3, .slice ak3 lk3 ck3] 26)) (.cells #[.int .i64 k1, .string nm1, .int .i64 n1, .bool f1, .slice an1 ln1 cn1, .slice am1 lm1 cm1, .slice ak1 lk1 ck1, .int .i64 k2, .string nm2, .int .i64 n2, .bool f2, .slice an2 ln2 cn2, .slice am2 lm2 cm2, .slice ak2 lk2 ck2, .int .i64 k3, .string nm3, .int .i64 n3, .bool f3, .slice an3 ln3 cn3, .slice am3 lm3 cm3, .slice ak3 lk3 ck3] 26)
      rw [World.size_alloc, World.size_alloc, World.size_alloc] at hbk
      exact lies_iff.2 ⟨cell_of hbk 0, cell_of hbk 1, cell_of hbk 2, cell_of hbk 3, _, _, _, cell_of hbk 4, cell_of hbk 5, cell_of hbk 6, (hp1.kept hb3).with (fun _ _ _ => trivial)⟩
    · have hbk := heap_new (((W.alloc (.cells #[.int .i64 k1, .string nm1, .int .i64 n1, .bool f1, .slice an1 ln1 cn1, .slice am1 lm1 cm1, .slice ak1 lk1 ck1] 26)).alloc (.cells #[.int .i64 k2, .string nm2, .int .i64 n2, .bool f2, .slice an2 ln2 cn2, .slice am2 lm2 cm2, .slice ak2 lk2 ck2] 26)).alloc (.cells #[.int .i64 k3, .string nm3, .int .i64 n3, .bool f3, .slice an3 ln3 cn3, .slice am3 lm3 cm3, .slice ak3 lk3 ck3] 26)) (.cells #[.int .i64 k1, .string nm1, .int .i64 n1, .bool f1, .slice an1 ln1 cn1, .slice am1 lm1 cm1, .slice ak1 lk1 ck1, .int .i64 k2, .string nm2, .int .i64 n2, .bool f2, .slice an2 ln2 cn2, .slice am2 lm2 cm2, .slice ak2 lk2 ck2, .int .i64 k3, .string nm3, .int .i64 n3, .bool f3, .slice an3 ln3 cn3, .slice am3 lm3 cm3, .slice ak3 lk3 ck3] 26)
      rw [World.size_alloc, World.size_alloc, World.size_alloc] at hbk
      exact lies_iff.2 ⟨cell_of hbk 7, cell_of hbk 8, cell_of hbk 9, cell_of hbk 10, _, _, _, cell_of hbk 11, cell_of hbk 12, cell_of hbk 13, (hp2.kept hb3).with (fun _ _ _ => trivial)⟩
    · have hbk := heap_new (((W.alloc (.cells #[.int .i64 k1, .string nm1, .int .i64 n1, .bool f1, .slice an1 ln1 cn1, .slice am1 lm1 cm1, .slice ak1 lk1 ck1] 26)).alloc (.cells #[.int .i64 k2, .string nm2, .int .i64 n2, .bool f2, .slice an2 ln2 cn2, .slice am2 lm2 cm2, .slice ak2 lk2 ck2] 26)).alloc (.cells #[.int .i64 k3, .string nm3, .int .i64 n3, .bool f3, .slice an3 ln3 cn3, .slice am3 lm3 cm3, .slice ak3 lk3 ck3] 26)) (.cells #[.int .i64 k1, .string nm1, .int .i64 n1, .bool f1, .slice an1 ln1 cn1, .slice am1 lm1 cm1, .slice ak1 lk1 ck1, .int .i64 k2, .string nm2, .int .i64 n2, .bool f2, .slice an2 ln2 cn2, .slice am2 lm2 cm2, .slice ak2 lk2 ck2, .int .i64 k3, .string nm3, .int .i64 n3, .bool f3, .slice an3 ln3 cn3, .slice am3 lm3 cm3, .slice ak3 lk3 ck3] 26)
      rw [World.size_alloc, World.size_alloc, World.size_alloc] at hbk
      exact lies_iff.2 ⟨cell_of hbk 14, cell_of hbk 15, cell_of hbk 16, cell_of hbk 17, _, _, _, cell_of hbk 18, cell_of hbk 19, cell_of hbk 20, (hp3.kept hb3).with (fun _ _ _ => trivial)⟩)
  have HT1 : Hid (((((W.alloc (.cells #[.int .i64 k1, .string nm1, .int .i64 n1, .bool f1, .slice an1 ln1 cn1, .slice am1 lm1 cm1, .slice ak1 lk1 ck1] 26)).alloc (.cells #[.int .i64 k2, .string nm2, .int .i64 n2, .bool f2, .slice an2 ln2 cn2, .slice am2 lm2 cm2, .slice ak2 lk2 ck2] 26)).alloc (.cells #[.int .i64 k3, .string nm3, .int .i64 n3, .bool f3, .slice an3 ln3 cn3, .slice am3 lm3 cm3, .slice ak3 lk3 ck3] 26)).alloc (.cells #[.int .i64 k1, .string nm1, .int .i64 n1, .bool f1, .slice an1 ln1 cn1, .slice am1 lm1 cm1, .slice ak1 lk1 ck1, .int .i64 k2, .string nm2, .int .i64 n2, .bool f2, .slice an2 ln2 cn2, .slice am2 lm2 cm2, .slice ak2 lk2 ck2, .int .i64 k3, .string nm3, .int .i64 n3, .bool f3, .slice an3 ln3 cn3, .slice am3 lm3 cm3, .slice ak3 lk3 ck3] 26)).heap[W.heap.size]? = some (.cells #[.int .i64 k1, .string nm1, .int .i64 n1, .bool f1, .slice an1 ln1 cn1, .slice am1 lm1 cm1, .slice ak1 lk1 ck1] 26 (0, 0))) := blk_kept (bthen (bthen (below_alloc _ _) (below_alloc _ _)) (below_alloc _ _)) (heap_new W _)
  have HT2 : Hid (((((W.alloc (.cells #[.int .i64 k1, .string nm1, .int .i64 n1, .bool f1, .slice an1 ln1 cn1, .slice am1 lm1 cm1, .slice ak1 lk1 ck1] 26)).alloc (.cells #[.int .i64 k2, .string nm2, .int .i64 n2, .bool f2, .slice an2 ln2 cn2, .slice am2 lm2 cm2, .slice ak2 lk2 ck2] 26)).alloc (.cells #[.int .i64 k3, .string nm3, .int .i64 n3, .bool f3, .slice an3 ln3 cn3, .slice am3 lm3 cm3, .slice ak3 lk3 ck3] 26)).alloc (.cells #[.int .i64 k1, .string nm1, .int .i64 n1, .bool f1, .slice an1 ln1 cn1, .slice am1 lm1 cm1, .slice ak1 lk1 ck1, .int .i64 k2, .string nm2, .int .i64 n2, .bool f2, .slice an2 ln2 cn2, .slice am2 lm2 cm2, .slice ak2 lk2 ck2, .int .i64 k3, .string nm3, .int .i64 n3, .bool f3, .slice an3 ln3 cn3, .slice am3 lm3 cm3, .slice ak3 lk3 ck3] 26)).heap[W.heap.size + 1]? = some (.cells #[.int .i64 k2, .string nm2, .int .i64 n2, .bool f2, .slice an2 ln2 cn2, .slice am2 lm2 cm2, .slice ak2 lk2 ck2] 26 (0, 0))) := by
    have := blk_kept (bthen (below_alloc _ (.cells #[.int .i64 k3, .string nm3, .int .i64 n3, .bool f3, .slice an3 ln3 cn3, .slice am3 lm3 cm3, .slice ak3 lk3 ck3] 26)) (below_alloc _ (.cells #[.int .i64 k1, .string nm1, .int .i64 n1, .bool f1, .slice an1 ln1 cn1, .slice am1 lm1 cm1, .slice ak1 lk1 ck1, .int .i64 k2, .string nm2, .int .i64 n2, .bool f2, .slice an2 ln2 cn2, .slice am2 lm2 cm2, .slice ak2 lk2 ck2, .int .i64 k3, .string nm3, .int .i64 n3, .bool f3, .slice an3 ln3 cn3, .slice am3 lm3 cm3, .slice ak3 lk3 ck3] 26))) (heap_new (W.alloc (.cells #[.int .i64 k1, .string nm1, .int .i64 n1, .bool f1, .slice an1 ln1 cn1, .slice am1 lm1 cm1, .slice ak1 lk1 ck1] 26)) (.cells #[.int .i64 k2, .string nm2, .int .i64 n2, .bool f2, .slice an2 ln2 cn2, .slice am2 lm2 cm2, .slice ak2 lk2 ck2] 26))
    rw [World.size_alloc] at this
    exact this
  have HT3 : Hid (((((W.alloc (.cells #[.int .i64 k1, .string nm1, .int .i64 n1, .bool f1, .slice an1 ln1 cn1, .slice am1 lm1 cm1, .slice ak1 lk1 ck1] 26)).alloc (.cells #[.int .i64 k2, .string nm2, .int .i64 n2, .bool f2, .slice an2 ln2 cn2, .slice am2 lm2 cm2, .slice ak2 lk2 ck2] 26)).alloc (.cells #[.int .i64 k3, .string nm3, .int .i64 n3, .bool f3, .slice an3 ln3 cn3, .slice am3 lm3 cm3, .slice ak3 lk3 ck3] 26)).alloc (.cells #[.int .i64 k1, .string nm1, .int .i64 n1, .bool f1, .slice an1 ln1 cn1, .slice am1 lm1 cm1, .slice ak1 lk1 ck1, .int .i64 k2, .string nm2, .int .i64 n2, .bool f2, .slice an2 ln2 cn2, .slice am2 lm2 cm2, .slice ak2 lk2 ck2, .int .i64 k3, .string nm3, .int .i64 n3, .bool f3, .slice an3 ln3 cn3, .slice am3 lm3 cm3, .slice ak3 lk3 ck3] 26)).heap[W.heap.size + 1 + 1]? = some (.cells #[.int .i64 k3, .string nm3, .int .i64 n3, .bool f3, .slice an3 ln3 cn3, .slice am3 lm3 cm3, .slice ak3 lk3 ck3] 26 (0, 0))) := by
    have := blk_kept (below_alloc _ (.cells #[.int .i64 k1, .string nm1, .int .i64 n1, .bool f1, .slice an1 ln1 cn1, .slice am1 lm1 cm1, .slice ak1 lk1 ck1, .int .i64 k2, .string nm2, .int .i64 n2, .bool f2, .slice an2 ln2 cn2, .slice am2 lm2 cm2, .slice ak2 lk2 ck2, .int .i64 k3, .string nm3, .int .i64 n3, .bool f3, .slice an3 ln3 cn3, .slice am3 lm3 cm3, .slice ak3 lk3 ck3] 26)) (heap_new ((W.alloc (.cells #[.int .i64 k1, .string nm1, .int .i64 n1, .bool f1, .slice an1 ln1 cn1, .slice am1 lm1 cm1, .slice ak1 lk1 ck1] 26)).alloc (.cells #[.int .i64 k2, .string nm2, .int .i64 n2, .bool f2, .slice an2 ln2 cn2, .slice am2 lm2 cm2, .slice ak2 lk2 ck2] 26)) (.cells #[.int .i64 k3, .string nm3, .int .i64 n3, .bool f3, .slice an3 ln3 cn3, .slice am3 lm3 cm3, .slice ak3 lk3 ck3] 26))
    rw [World.size_alloc, World.size_alloc] at this
    exact this
  have HB0 : Hid (Below W.heap.size W ((((W.alloc (.cells #[.int .i64 k1, .string nm1, .int .i64 n1, .bool f1, .slice an1 ln1 cn1, .slice am1 lm1 cm1, .slice ak1 lk1 ck1] 26)).alloc (.cells #[.int .i64 k2, .string nm2, .int .i64 n2, .bool f2, .slice an2 ln2 cn2, .slice am2 lm2 cm2, .slice ak2 lk2 ck2] 26)).alloc (.cells #[.int .i64 k3, .string nm3, .int .i64 n3, .bool f3, .slice an3 ln3 cn3, .slice am3 lm3 cm3, .slice ak3 lk3 ck3] 26)).alloc (.cells #[.int .i64 k1, .string nm1, .int .i64 n1, .bool f1, .slice an1 ln1 cn1, .slice am1 lm1 cm1, .slice ak1 lk1 ck1, .int .i64 k2, .string nm2, .int .i64 n2, .bool f2, .slice an2 ln2 cn2, .slice am2 lm2 cm2, .slice ak2 lk2 ck2, .int .i64 k3, .string nm3, .int .i64 n3, .bool f3, .slice an3 ln3 cn3, .slice am3 lm3 cm3, .slice ak3 lk3 ck3] 26))) := hb3
  clear hp1 hp2 hp3 hb3 hw1 hw2 hf1
  go_enter Try.func3, Try.ntmps3
  go_wp2_with fail
  refine hi.mono ?_
  rintro e wr ⟨hbl, b, rfl, hin⟩
  have HB9 : Hid (Below W.heap.size W wr) := bthen HB0.out hbl
  have HTA : Hid (wr.heap[W.heap.size]? = some (.cells #[.int .i64 k1, .string nm1, .int .i64 n1, .bool f1, .slice an1 ln1 cn1, .slice am1 lm1 cm1, .slice ak1 lk1 ck1] 26 (0, 0))) := blk_kept hbl HT1.out
  have HTB : Hid (wr.heap[W.heap.size + 1]? = some (.cells #[.int .i64 k2, .string nm2, .int .i64 n2, .bool f2, .slice an2 ln2 cn2, .slice am2 lm2 cm2, .slice ak2 lk2 ck2] 26 (0, 0))) := blk_kept hbl HT2.out
  have HTC : Hid (wr.heap[W.heap.size + 1 + 1]? = some (.cells #[.int .i64 k3, .string nm3, .int .i64 n3, .bool f3, .slice an3 ln3 cn3, .slice am3 lm3 cm3, .slice ak3 lk3 ck3] 26 (0, 0))) := blk_kept hbl HT3.out
  have HIN : Hid (b = true → ∀ x ∈ [(.mk k1 nm1 n1 f1 ns1 ms1 ks1), (.mk k2 nm2 n2 f2 ns2 ms2 ks2), (.mk k3 nm3 n3 f3 ns3 ms3 ks3)], Lkd x) := hin
  clear hi hbl HT1 HT2 HT3 HB0 hin
  obtain ⟨T1, hT1⟩ : ∃ T1, W.heap.size = T1 := ⟨_, rfl⟩
  obtain ⟨T2, hT2⟩ : ∃ T2, T1 + 1 = T2 := ⟨_, rfl⟩
  obtain ⟨T3, hT3⟩ : ∃ T3, T2 + 1 = T3 := ⟨_, rfl⟩
  rw [hT1, hT2, hT3] at HTC
  rw [hT1, hT2] at HTB
  rw [hT1] at HTA
  cases b with
  | false =>
    go_wp2_with fail
    refine (awake_any wr).mono ?_
    rintro e x2 ⟨rfl, hb⟩
    have HB : Hid _ := hb
    clear hb
    go_wp2_with fail
    go_ret
    exact ⟨rfl, bthen HB9.out HB.out⟩
  | true =>
    have hlk1 := HIN.out rfl (.mk k1 nm1 n1 f1 ns1 ms1 ks1) (by simp)
    have hlk2 := HIN.out rfl (.mk k2 nm2 n2 f2 ns2 ms2 ks2) (by simp)
    have hsh1 := hlk1.2
    have hsh2 := hlk2.2
    have hcn1 := lkd_cnt hlk1
    have hcn2 := lkd_cnt hlk2
    have hlen1 := (txt_len (.mk k1 nm1 n1 f1 ns1 ms1 ks1)).1
    have hlen2 := (txt_len (.mk k2 nm2 n2 f2 ns2 ms2 ks2)).1
    have hw5 := HW1.out
    have hw6 := HW2.out
    have hfit := HF1.out
    have hpr1 : Prt (fun b => b < W.heap.size) wr (.mk k1 nm1 n1 f1 ns1 ms1 ks1) (.slice an1 ln1 cn1) (.slice am1 lm1 cm1) (.slice ak1 lk1 ck1) := HP1.out.kept HB9.out
    have hpr2 : Prt (fun b => b < W.heap.size) wr (.mk k2 nm2 n2 f2 ns2 ms2 ks2) (.slice an2 ln2 cn2) (.slice am2 lm2 cm2) (.slice ak2 lk2 ck2) := HP2.out.kept HB9.out
    have hpr3 : Prt (fun b => b < W.heap.size) wr (.mk k3 nm3 n3 f3 ns3 ms3 ks3) (.slice an3 ln3 cn3) (.slice am3 lm3 cm3) (.slice ak3 lk3 ck3) := HP3.out.kept HB9.out
    obtain ⟨X, hX⟩ : ∃ X, bs ((.mk k1 nm1 n1 f1 ns1 ms1 ks1) : Ty).txt = X := ⟨_, rfl⟩
    obtain ⟨Y, hY⟩ : ∃ Y, bs ((.mk k2 nm2 n2 f2 ns2 ms2 ks2) : Ty).txt = Y := ⟨_, rfl⟩
    obtain ⟨R, hR⟩ : ∃ R, ((.mk k1 nm1 n1 f1 ns1 ms1 ks1) : Ty).idn (.mk k2 nm2 n2 f2 ns2 ms2 ks2) = R := ⟨_, rfl⟩
    obtain ⟨R2, hR2⟩ : ∃ R2, ((.mk k2 nm2 n2 f2 ns2 ms2 ks2) : Ty).idn (.mk k3 nm3 n3 f3 ns3 ms3 ks3) = R2 := ⟨_, rfl⟩
    obtain ⟨R3, hR3⟩ : ∃ R3, ((.mk k1 nm1 n1 f1 ns1 ms1 ks1) : Ty).idn (.mk k3 nm3 n3 f3 ns3 ms3 ks3) = R3 := ⟨_, rfl⟩
    have hR4 : ((.mk k2 nm2 n2 f2 ns2 ms2 ks2) : Ty).idn (.mk k1 nm1 n1 f1 ns1 ms1 ks1) = R := by rw [idn_comm]; exact hR
    have HXY : Hid (R = true → X = Y) := fun h => by rw [← hX, ← hY, (idn_txt (.mk k1 nm1 n1 f1 ns1 ms1 ks1) (.mk k2 nm2 n2 f2 ns2 ms2 ks2) hsh1 hsh2 (by rw [hR]; exact h)).1]
    have HR3 : Hid (R = true → R2 = true → R3 = true) := fun h h2 => by rw [← hR3]; exact idn_then (.mk k1 nm1 n1 f1 ns1 ms1 ks1) (.mk k2 nm2 n2 f2 ns2 ms2 ks2) (.mk k3 nm3 n3 f3 ns3 ms3 ks3) (by rw [hR]; exact h) (by rw [hR2]; exact h2)
    have HKP : Hid (∀ W', Below wr.heap.size wr W' → W'.cell? ⟨T1, 0, none⟩ = some (.int .i64 k1) ∧ W'.cell? ⟨T1, 1, none⟩ = some (.string nm1) ∧ W'.cell? ⟨T1, 2, none⟩ = some (.int .i64 n1) ∧ W'.cell? ⟨T1, 3, none⟩ = some (.bool f1) ∧ W'.cell? ⟨T1, 4, none⟩ = some (.slice an1 ln1 cn1) ∧ W'.cell? ⟨T1, 5, none⟩ = some (.slice am1 lm1 cm1) ∧ W'.cell? ⟨T1, 6, none⟩ = some (.slice ak1 lk1 ck1) ∧ W'.cell? ⟨T2, 0, none⟩ = some (.int .i64 k2) ∧ W'.cell? ⟨T2, 1, none⟩ = some (.string nm2) ∧ W'.cell? ⟨T2, 2, none⟩ = some (.int .i64 n2) ∧ W'.cell? ⟨T2, 3, none⟩ = some (.bool f2) ∧ W'.cell? ⟨T2, 4, none⟩ = some (.slice an2 ln2 cn2) ∧ W'.cell? ⟨T2, 5, none⟩ = some (.slice am2 lm2 cm2) ∧ W'.cell? ⟨T2, 6, none⟩ = some (.slice ak2 lk2 ck2) ∧ W'.cell? ⟨T3, 0, none⟩ = some (.int .i64 k3) ∧ W'.cell? ⟨T3, 1, none⟩ = some (.string nm3) ∧ W'.cell? ⟨T3, 2, none⟩ = some (.int .i64 n3) ∧ W'.cell? ⟨T3, 3, none⟩ = some (.bool f3) ∧ W'.cell? ⟨T3, 4, none⟩ = some (.slice an3 ln3 cn3) ∧ W'.cell? ⟨T3, 5, none⟩ = some (.slice am3 lm3 cm3) ∧ W'.cell? ⟨T3, 6, none⟩ = some (.slice ak3 lk3 ck3)) := fun W' hb => by
      obtain ⟨a0, a1, a2, a3, a4, a5, a6⟩ := bx7 (blk_kept hb HTA.out)
      obtain ⟨b0, b1, b2, b3, b4, b5, b6⟩ := bx7 (blk_kept hb HTB.out)
      exact ⟨a0, a1, a2, a3, a4, a5, a6, b0, b1, b2, b3, b4, b5, b6, bx7 (blk_kept hb HTC.out)⟩
    have kS0 := HKP.out wr (Below.refl _ _)
    have HAB : Hid (∀ W', Below wr.heap.size wr W' → Calls Try.prog 6 #[.agg #[.int .i64 k1, .string nm1, .int .i64 n1, .bool f1, .slice an1 ln1 cn1, .slice am1 lm1 cm1, .slice ak1 lk1 ck1], .agg #[.int .i64 k2, .string nm2, .int .i64 n2, .bool f2, .slice an2 ln2 cn2, .slice am2 lm2 cm2, .slice ak2 lk2 ck2]] W' fun e w' => e = .returned (.bool R) ∧ Below wr.heap.size wr w') := fun W' hb => (idn_any (hpr1.kept hb) (hpr2.kept hb) (by omega)).mono fun e w' h => ⟨h.1.trans (by rw [hR]), bthen hb h.2⟩
    have HBA : Hid (∀ W', Below wr.heap.size wr W' → Calls Try.prog 6 #[.agg #[.int .i64 k2, .string nm2, .int .i64 n2, .bool f2, .slice an2 ln2 cn2, .slice am2 lm2 cm2, .slice ak2 lk2 ck2], .agg #[.int .i64 k1, .string nm1, .int .i64 n1, .bool f1, .slice an1 ln1 cn1, .slice am1 lm1 cm1, .slice ak1 lk1 ck1]] W' fun e w' => e = .returned (.bool R) ∧ Below wr.heap.size wr w') := fun W' hb => (idn_any (hpr2.kept hb) (hpr1.kept hb) (by omega)).mono fun e w' h => ⟨h.1.trans (by rw [hR4]), bthen hb h.2⟩
    have HBC : Hid (∀ W', Below wr.heap.size wr W' → Calls Try.prog 6 #[.agg #[.int .i64 k2, .string nm2, .int .i64 n2, .bool f2, .slice an2 ln2 cn2, .slice am2 lm2 cm2, .slice ak2 lk2 ck2], .agg #[.int .i64 k3, .string nm3, .int .i64 n3, .bool f3, .slice an3 ln3 cn3, .slice am3 lm3 cm3, .slice ak3 lk3 ck3]] W' fun e w' => e = .returned (.bool R2) ∧ Below wr.heap.size wr w') := fun W' hb => (idn_any (hpr2.kept hb) (hpr3.kept hb) (by omega)).mono fun e w' h => ⟨h.1.trans (by rw [hR2]), bthen hb h.2⟩
    have HAC : Hid (∀ W', Below wr.heap.size wr W' → Calls Try.prog 6 #[.agg #[.int .i64 k1, .string nm1, .int .i64 n1, .bool f1, .slice an1 ln1 cn1, .slice am1 lm1 cm1, .slice ak1 lk1 ck1], .agg #[.int .i64 k3, .string nm3, .int .i64 n3, .bool f3, .slice an3 ln3 cn3, .slice am3 lm3 cm3, .slice ak3 lk3 ck3]] W' fun e w' => e = .returned (.bool R3) ∧ Below wr.heap.size wr w') := fun W' hb => (idn_any (hpr1.kept hb) (hpr3.kept hb) (by omega)).mono fun e w' h => ⟨h.1.trans (by rw [hR3]), bthen hb h.2⟩
    have HT1 : Hid (∀ W', Below wr.heap.size wr W' → Calls Try.prog 7 #[.agg #[.int .i64 k1, .string nm1, .int .i64 n1, .bool f1, .slice an1 ln1 cn1, .slice am1 lm1 cm1, .slice ak1 lk1 ck1]] W' fun e w' => e = .returned (.string X) ∧ Below wr.heap.size wr w') := fun W' hb => (text_any lays2 (hpr1.kept hb) hsh1 (by have := wg2_eq (.mk k1 nm1 n1 f1 ns1 ms1 ks1); omega) (by omega)).mono fun e w' h => ⟨h.1.trans (by rw [hX]), bthen hb h.2⟩
    have HT2 : Hid (∀ W', Below wr.heap.size wr W' → Calls Try.prog 7 #[.agg #[.int .i64 k2, .string nm2, .int .i64 n2, .bool f2, .slice an2 ln2 cn2, .slice am2 lm2 cm2, .slice ak2 lk2 ck2]] W' fun e w' => e = .returned (.string Y) ∧ Below wr.heap.size wr w') := fun W' hb => (text_any lays2 (hpr2.kept hb) hsh2 (by have := wg2_eq (.mk k2 nm2 n2 f2 ns2 ms2 ks2); omega) (by omega)).mono fun e w' h => ⟨h.1.trans (by rw [hY]), bthen hb h.2⟩
    have HSB : Hid (∀ W', Below wr.heap.size wr W' → Calls Try.prog 9 #[.agg #[.int .i64 k1, .string nm1, .int .i64 n1, .bool f1, .slice an1 ln1 cn1, .slice am1 lm1 cm1, .slice ak1 lk1 ck1], .slice none 0 0] W' fun e w' => ∃ bn en bm em bk ek, e = .returned (.agg #[.int .i64 k1, .string nm1, .int .i64 n1, .bool f1, .slice bn ln1 en, .slice bm lm1 em, .slice bk lk1 ek]) ∧ Prt (fun _ => True) w' (.mk k1 nm1 n1 f1 ns1 ms1 ks1) (.slice bn ln1 en) (.slice bm lm1 em) (.slice bk lk1 ek) ∧ Below wr.heap.size wr w') := fun W' hb => (subst_nil (hpr1.kept hb) hfit (by omega)).mono fun e w' h => by
      obtain ⟨vn, vm, vk, rfl, h2⟩ := h.ex
      obtain ⟨bn, en, bm, em, bk, ek, rfl, rfl, rfl⟩ := h2.form
      simp only [Ty.names, Ty.marks, Ty.kids, HLN.out.1, HLN.out.2.1, HLN.out.2.2] at h2 ⊢
      exact ⟨_, _, _, _, _, _, rfl, h2.with (fun _ _ _ => trivial), bthen hb h.bl⟩
    have HTY : Hid (∀ W' bn en bm em bk ek, Below wr.heap.size wr W' → Prt (fun _ => True) W' (.mk k1 nm1 n1 f1 ns1 ms1 ks1) (.slice bn ln1 en) (.slice bm lm1 em) (.slice bk lk1 ek) → Calls Try.prog 8 #[.agg #[.int .i64 k1, .string nm1, .int .i64 n1, .bool f1, .slice bn ln1 en, .slice bm lm1 em, .slice bk lk1 ek], .agg #[.int .i64 k1, .string nm1, .int .i64 n1, .bool f1, .slice an1 ln1 cn1, .slice am1 lm1 cm1, .slice ak1 lk1 ck1]] W' fun e w' => e = .returned (.bool true) ∧ Below wr.heap.size wr w') := fun W' bn en bm em bk ek hb hq => (types_same (x := (.mk k1 nm1 n1 f1 ns1 ms1 ks1)) hq (hpr1.kept hb)).mono fun e w' h => ⟨h.1, bthen hb h.2⟩
    have HAW : Hid (∀ W', Below wr.heap.size wr W' → Calls Try.prog 5 #[] W' fun e w' => e = .returned (.bool true) ∧ Below wr.heap.size wr w') := fun W' hb => (awake_any W').mono fun e w' h => ⟨h.1, bthen hb h.2⟩
    clear hX hY hR hR2 hR3 hR4 hpr1 hpr2 hpr3 hw5 hw6 hlen1 hlen2 hcn1 hcn2 hsh1 hsh2 hlk1 hlk2 HIN HP1 HP2 HP3 HW1 HW2 HTA HTB HTC hfit HF1 HLN
    go_wp2_with fail
    refine (HAB.out _ (Below.refl _ _)).mono ?_
    rintro e x0 ⟨rfl, hb⟩
    have HB0 : Hid (Below wr.heap.size wr x0) := hb
    have kS := HKP.out x0 hb
    clear hb kS0 HAB
    cases R with
    | false =>
      clear HBC HAC HT1 HT2 HXY HR3
      go_wp2_with fail
      refine wp_region_held_drew (S := fun w' => w'.cell? ⟨T1, 0, none⟩ = some (.int .i64 k1) ∧ w'.cell? ⟨T1, 1, none⟩ = some (.string nm1) ∧ w'.cell? ⟨T1, 2, none⟩ = some (.int .i64 n1) ∧ w'.cell? ⟨T1, 3, none⟩ = some (.bool f1) ∧ w'.cell? ⟨T1, 4, none⟩ = some (.slice an1 ln1 cn1) ∧ w'.cell? ⟨T1, 5, none⟩ = some (.slice am1 lm1 cm1) ∧ w'.cell? ⟨T1, 6, none⟩ = some (.slice ak1 lk1 ck1) ∧ w'.cell? ⟨T2, 0, none⟩ = some (.int .i64 k2) ∧ w'.cell? ⟨T2, 1, none⟩ = some (.string nm2) ∧ w'.cell? ⟨T2, 2, none⟩ = some (.int .i64 n2) ∧ w'.cell? ⟨T2, 3, none⟩ = some (.bool f2) ∧ w'.cell? ⟨T2, 4, none⟩ = some (.slice an2 ln2 cn2) ∧ w'.cell? ⟨T2, 5, none⟩ = some (.slice am2 lm2 cm2) ∧ w'.cell? ⟨T2, 6, none⟩ = some (.slice ak2 lk2 ck2) ∧ w'.cell? ⟨T3, 0, none⟩ = some (.int .i64 k3) ∧ w'.cell? ⟨T3, 1, none⟩ = some (.string nm3) ∧ w'.cell? ⟨T3, 2, none⟩ = some (.int .i64 n3) ∧ w'.cell? ⟨T3, 3, none⟩ = some (.bool f3) ∧ w'.cell? ⟨T3, 4, none⟩ = some (.slice an3 ln3 cn3) ∧ w'.cell? ⟨T3, 5, none⟩ = some (.slice am3 lm3 cm3) ∧ w'.cell? ⟨T3, 6, none⟩ = some (.slice ak3 lk3 ck3)) (by kernel_rfl) (by exact kS) (fun hHeld => ?_)
      clear hHeld
      refine wpAnyH_take (i := 0) (oi := { dst := some 18, op := Op.move (Operand.tmp 7), type := 4, pos := "law.go:182", after := #[], guard := none }) (v := ?_) rfl (by kernel_rfl) (by kernel_rfl) (by kernel_rfl) (fun _ _ _ h => h) (Or.inl ⟨by rfl, ?_⟩) (by exact kS) ?_
      rotate_left
      · intro w hSw; (try dsimp only at hSw); (go_simp <;> with_reducible rfl)
      try simp only [Act.put, List.setIfInBounds_toArray, List.set_cons_zero, List.set_cons_succ]
      refine wpAnyH_take (i := 1) (oi := { dst := some 19, op := Op.load 26 (Operand.tmp 4), type := 26, pos := "law.go:182", after := #[], guard := none }) (v := ?_) rfl (by kernel_rfl) (by kernel_rfl) (by kernel_rfl) (fun _ _ _ h => h) (Or.inl ⟨by rfl, ?_⟩) (by exact kS) ?_
      rotate_left
      · intro w hSw; (try dsimp only at hSw); (go_simp <;> with_reducible rfl)
      try simp only [Act.put, List.setIfInBounds_toArray, List.set_cons_zero, List.set_cons_succ]
      refine wpAnyH_take (i := 2) (oi := { dst := some 20, op := Op.load 26 (Operand.tmp 3), type := 26, pos := "law.go:182", after := #[], guard := none }) (v := ?_) rfl (by kernel_rfl) (by kernel_rfl) (by kernel_rfl) (fun _ _ _ h => h) (Or.inl ⟨by rfl, ?_⟩) (by exact kS) ?_
      rotate_left
      · intro w hSw; (try dsimp only at hSw); (go_simp <;> with_reducible rfl)
      try simp only [Act.put, List.setIfInBounds_toArray, List.set_cons_zero, List.set_cons_succ]
      refine wpAnyH_ready (rs := [3]) (by kernel_rfl) (by simp) ?_
      refine AllReadyH.cons (o := { dst := some 21, op := Op.call { callee := Callee.value (Operand.func 6), args := #[Operand.tmp 19, Operand.tmp 20], argTypes := #[26, 26] }, type := 4, pos := "law.go:182", after := #[{ on := 1, ground := Ground.data }, { on := 2, ground := Ground.data }], guard := none }) rfl (fun K hK => ?_) AllReadyH.nil
      go_simp
      go_at_call 6; refine (HBA.out _ (bthen HB0.out (below_drew1 _))).mono ?_; rintro e x1 ⟨rfl, hb⟩; have HB1 : Hid (Below wr.heap.size wr x1) := hb; have kS := HKP.out x1 HB1.out; clear hb
      go_wp2_with fail
      refine hK.out _ _ (by exact kS) (fun hHeld => ?_)
      clear hK K hHeld
      try simp only [Act.put, List.setIfInBounds_toArray, List.set_cons_zero, List.set_cons_succ]
      refine wpAnyH_take (i := 4) (oi := { dst := some 22, op := Op.binOp BinOp.eql 4 (Operand.tmp 18) (Operand.tmp 21) 4, type := 4, pos := "law.go:182", after := #[{ on := 0, ground := Ground.data }, { on := 3, ground := Ground.data }], guard := none }) (v := ?_) rfl (by kernel_rfl) (by kernel_rfl) (by kernel_rfl) (fun _ _ _ h => h) (Or.inl ⟨by rfl, ?_⟩) (by exact kS) ?_
      rotate_left
      · intro w hSw; (try dsimp only at hSw); (go_simp <;> with_reducible rfl)
      try simp only [Act.put, List.setIfInBounds_toArray, List.set_cons_zero, List.set_cons_succ]
      refine wpAnyH_take (i := 5) (oi := { dst := some 23, op := Op.move (Operand.tmp 22), type := 4, pos := "law.go:182", after := #[{ on := 4, ground := Ground.data }, { on := 3, ground := Ground.chain }], guard := none }) (v := ?_) rfl (by kernel_rfl) (by kernel_rfl) (by kernel_rfl) (fun _ _ _ h => h) (Or.inl ⟨by rfl, ?_⟩) (by exact kS) ?_
      rotate_left
      · intro w hSw; (try dsimp only at hSw); (go_simp <;> with_reducible rfl)
      try simp only [Act.put, List.setIfInBounds_toArray, List.set_cons_zero, List.set_cons_succ]
      refine wpAnyH_take (i := 6) (oi := { dst := some 24, op := Op.move (Operand.tmp 7), type := 4, pos := "law.go:182", after := #[{ on := 5, ground := Ground.guard }], guard := some (5, true) }) (v := ?_) rfl (by kernel_rfl) (by kernel_rfl) (by kernel_rfl) (fun _ _ _ h => h) (Or.inl ⟨by rfl, ?_⟩) (by exact kS) ?_
      rotate_left
      · intro w hSw; (try dsimp only at hSw); (go_simp <;> with_reducible rfl)
      try simp only [Act.put, List.setIfInBounds_toArray, List.set_cons_zero, List.set_cons_succ]
      refine wpAnyH_take (i := 7) (oi := { dst := some 25, op := Op.move (Operand.tmp 24), type := 4, pos := "law.go:182", after := #[{ on := 6, ground := Ground.data }, { on := 5, ground := Ground.chain }, { on := 5, ground := Ground.guard }], guard := some (5, true) }) (v := ?_) rfl (by kernel_rfl) (by kernel_rfl) (by kernel_rfl) (fun _ _ _ h => h) (Or.inl ⟨by rfl, ?_⟩) (by exact kS) ?_
      rotate_left
      · intro w hSw; (try dsimp only at hSw); (go_simp <;> with_reducible rfl)
      try simp only [Act.put, List.setIfInBounds_toArray, List.set_cons_zero, List.set_cons_succ]
      refine wpAnyH_take (i := 8) (oi := { dst := some 26, op := Op.load 26 (Operand.tmp 4), type := 26, pos := "law.go:182", after := #[{ on := 7, ground := Ground.guard }], guard := some (7, true) }) (v := undef) rfl (by kernel_rfl) (by kernel_rfl) (by kernel_rfl) (fun _ _ _ h => h) (Or.inr ⟨by rfl, rfl⟩) (by exact kS) ?_
      try simp only [Act.put, List.setIfInBounds_toArray, List.set_cons_zero, List.set_cons_succ]
      refine wpAnyH_take (i := 9) (oi := { dst := some 27, op := Op.load 26 (Operand.tmp 5), type := 26, pos := "law.go:182", after := #[{ on := 7, ground := Ground.guard }], guard := some (7, true) }) (v := undef) rfl (by kernel_rfl) (by kernel_rfl) (by kernel_rfl) (fun _ _ _ h => h) (Or.inr ⟨by rfl, rfl⟩) (by exact kS) ?_
      try simp only [Act.put, List.setIfInBounds_toArray, List.set_cons_zero, List.set_cons_succ]
      refine wpAnyH_ready (rs := [10]) (by kernel_rfl) (by simp) ?_
      refine AllReadyH.cons (o := { dst := some 28, op := Op.call { callee := Callee.value (Operand.func 6), args := #[Operand.tmp 26, Operand.tmp 27], argTypes := #[26, 26] }, type := 4, pos := "law.go:182", after := #[{ on := 8, ground := Ground.data }, { on := 9, ground := Ground.data }, { on := 7, ground := Ground.chain }, { on := 7, ground := Ground.guard }], guard := some (7, true) }) rfl (fun K hK => ?_) AllReadyH.nil
      go_simp
      refine hK.out _ _ (by exact kS) (fun hHeld => ?_)
      clear hK K hHeld
      try simp only [Act.put, List.setIfInBounds_toArray, List.set_cons_zero, List.set_cons_succ]
      refine wpAnyH_take (i := 11) (oi := { dst := some 29, op := Op.pick (Operand.tmp 25) (Operand.tmp 28) (Operand.const (Value.bool false)), type := 4, pos := "law.go:182", after := #[{ on := 7, ground := Ground.data }, { on := 10, ground := Ground.data }, { on := 5, ground := Ground.guard }], guard := some (5, true) }) (v := ?_) rfl (by kernel_rfl) (by kernel_rfl) (by kernel_rfl) (fun _ _ _ h => h) (Or.inl ⟨by rfl, ?_⟩) (by exact kS) ?_
      rotate_left
      · intro w hSw; (try dsimp only at hSw); (go_simp <;> with_reducible rfl)
      try simp only [Act.put, List.setIfInBounds_toArray, List.set_cons_zero, List.set_cons_succ]
      refine wpAnyH_take (i := 12) (oi := { dst := some 30, op := Op.move (Operand.tmp 29), type := 4, pos := "law.go:182", after := #[{ on := 11, ground := Ground.data }, { on := 10, ground := Ground.chain }, { on := 5, ground := Ground.guard }], guard := some (5, true) }) (v := ?_) rfl (by kernel_rfl) (by kernel_rfl) (by kernel_rfl) (fun _ _ _ h => h) (Or.inl ⟨by rfl, ?_⟩) (by exact kS) ?_
      rotate_left
      · intro w hSw; (try dsimp only at hSw); (go_simp <;> with_reducible rfl)
      try simp only [Act.put, List.setIfInBounds_toArray, List.set_cons_zero, List.set_cons_succ]
      refine wpAnyH_take (i := 13) (oi := { dst := some 31, op := Op.load 26 (Operand.tmp 3), type := 26, pos := "law.go:182", after := #[{ on := 12, ground := Ground.guard }], guard := some (12, true) }) (v := undef) rfl (by kernel_rfl) (by kernel_rfl) (by kernel_rfl) (fun _ _ _ h => h) (Or.inr ⟨by rfl, rfl⟩) (by exact kS) ?_
      try simp only [Act.put, List.setIfInBounds_toArray, List.set_cons_zero, List.set_cons_succ]
      refine wpAnyH_take (i := 14) (oi := { dst := some 32, op := Op.load 26 (Operand.tmp 5), type := 26, pos := "law.go:182", after := #[{ on := 12, ground := Ground.guard }], guard := some (12, true) }) (v := undef) rfl (by kernel_rfl) (by kernel_rfl) (by kernel_rfl) (fun _ _ _ h => h) (Or.inr ⟨by rfl, rfl⟩) (by exact kS) ?_
      try simp only [Act.put, List.setIfInBounds_toArray, List.set_cons_zero, List.set_cons_succ]
      refine wpAnyH_ready (rs := [15]) (by kernel_rfl) (by simp) ?_
      refine AllReadyH.cons (o := { dst := some 33, op := Op.call { callee := Callee.value (Operand.func 6), args := #[Operand.tmp 31, Operand.tmp 32], argTypes := #[26, 26] }, type := 4, pos := "law.go:182", after := #[{ on := 13, ground := Ground.data }, { on := 14, ground := Ground.data }, { on := 12, ground := Ground.chain }, { on := 12, ground := Ground.guard }], guard := some (12, true) }) rfl (fun K hK => ?_) AllReadyH.nil
      go_simp
      refine hK.out _ _ (by exact kS) (fun hHeld => ?_)
      clear hK K hHeld
      try simp only [Act.put, List.setIfInBounds_toArray, List.set_cons_zero, List.set_cons_succ]
      refine wpAnyH_take (i := 16) (oi := { dst := some 34, op := Op.unOp UnOp.not 4 (Operand.tmp 33), type := 4, pos := "law.go:182", after := #[{ on := 15, ground := Ground.data }, { on := 12, ground := Ground.guard }], guard := some (12, true) }) (v := undef) rfl (by kernel_rfl) (by kernel_rfl) (by kernel_rfl) (fun _ _ _ h => h) (Or.inr ⟨by rfl, rfl⟩) (by exact kS) ?_
      try simp only [Act.put, List.setIfInBounds_toArray, List.set_cons_zero, List.set_cons_succ]
      refine wpAnyH_take (i := 17) (oi := { dst := some 35, op := Op.pick (Operand.tmp 30) (Operand.tmp 34) (Operand.const (Value.bool false)), type := 4, pos := "law.go:182", after := #[{ on := 12, ground := Ground.data }, { on := 16, ground := Ground.data }, { on := 5, ground := Ground.guard }], guard := some (5, true) }) (v := ?_) rfl (by kernel_rfl) (by kernel_rfl) (by kernel_rfl) (fun _ _ _ h => h) (Or.inl ⟨by rfl, ?_⟩) (by exact kS) ?_
      rotate_left
      · intro w hSw; (try dsimp only at hSw); (go_simp <;> with_reducible rfl)
      try simp only [Act.put, List.setIfInBounds_toArray, List.set_cons_zero, List.set_cons_succ]
      refine wpAnyH_take (i := 18) (oi := { dst := some 36, op := Op.unOp UnOp.not 4 (Operand.tmp 35), type := 4, pos := "law.go:182", after := #[{ on := 17, ground := Ground.data }, { on := 5, ground := Ground.guard }], guard := some (5, true) }) (v := ?_) rfl (by kernel_rfl) (by kernel_rfl) (by kernel_rfl) (fun _ _ _ h => h) (Or.inl ⟨by rfl, ?_⟩) (by exact kS) ?_
      rotate_left
      · intro w hSw; (try dsimp only at hSw); (go_simp <;> with_reducible rfl)
      try simp only [Act.put, List.setIfInBounds_toArray, List.set_cons_zero, List.set_cons_succ]
      refine wpAnyH_take (i := 19) (oi := { dst := some 37, op := Op.pick (Operand.tmp 23) (Operand.tmp 36) (Operand.const (Value.bool false)), type := 4, pos := "law.go:182", after := #[{ on := 5, ground := Ground.data }, { on := 18, ground := Ground.data }], guard := none }) (v := ?_) rfl (by kernel_rfl) (by kernel_rfl) (by kernel_rfl) (fun _ _ _ h => h) (Or.inl ⟨by rfl, ?_⟩) (by exact kS) ?_
      rotate_left
      · intro w hSw; (try dsimp only at hSw); (go_simp <;> with_reducible rfl)
      try simp only [Act.put, List.setIfInBounds_toArray, List.set_cons_zero, List.set_cons_succ]
      refine wpAnyH_take (i := 20) (oi := { dst := some 38, op := Op.move (Operand.tmp 37), type := 4, pos := "law.go:182", after := #[{ on := 19, ground := Ground.data }, { on := 15, ground := Ground.chain }], guard := none }) (v := ?_) rfl (by kernel_rfl) (by kernel_rfl) (by kernel_rfl) (fun _ _ _ h => h) (Or.inl ⟨by rfl, ?_⟩) (by exact kS) ?_
      rotate_left
      · intro w hSw; (try dsimp only at hSw); (go_simp <;> with_reducible rfl)
      try simp only [Act.put, List.setIfInBounds_toArray, List.set_cons_zero, List.set_cons_succ]
      refine wpAnyH_take (i := 21) (oi := { dst := some 39, op := Op.move (Operand.tmp 7), type := 4, pos := "law.go:182", after := #[{ on := 20, ground := Ground.guard }], guard := some (20, true) }) (v := ?_) rfl (by kernel_rfl) (by kernel_rfl) (by kernel_rfl) (fun _ _ _ h => h) (Or.inl ⟨by rfl, ?_⟩) (by exact kS) ?_
      rotate_left
      · intro w hSw; (try dsimp only at hSw); (go_simp <;> with_reducible rfl)
      try simp only [Act.put, List.setIfInBounds_toArray, List.set_cons_zero, List.set_cons_succ]
      refine wpAnyH_take (i := 22) (oi := { dst := some 40, op := Op.unOp UnOp.not 4 (Operand.tmp 39), type := 4, pos := "law.go:182", after := #[{ on := 21, ground := Ground.data }, { on := 20, ground := Ground.guard }], guard := some (20, true) }) (v := ?_) rfl (by kernel_rfl) (by kernel_rfl) (by kernel_rfl) (fun _ _ _ h => h) (Or.inl ⟨by rfl, ?_⟩) (by exact kS) ?_
      rotate_left
      · intro w hSw; (try dsimp only at hSw); (go_simp <;> with_reducible rfl)
      try simp only [Act.put, List.setIfInBounds_toArray, List.set_cons_zero, List.set_cons_succ]
      refine wpAnyH_take (i := 23) (oi := { dst := some 41, op := Op.move (Operand.tmp 40), type := 4, pos := "law.go:182", after := #[{ on := 22, ground := Ground.data }, { on := 20, ground := Ground.chain }, { on := 20, ground := Ground.guard }], guard := some (20, true) }) (v := ?_) rfl (by kernel_rfl) (by kernel_rfl) (by kernel_rfl) (fun _ _ _ h => h) (Or.inl ⟨by rfl, ?_⟩) (by exact kS) ?_
      rotate_left
      · intro w hSw; (try dsimp only at hSw); (go_simp <;> with_reducible rfl)
      try simp only [Act.put, List.setIfInBounds_toArray, List.set_cons_zero, List.set_cons_succ]
      refine wpAnyH_take (i := 24) (oi := { dst := some 42, op := Op.load 26 (Operand.tmp 3), type := 26, pos := "law.go:182", after := #[{ on := 23, ground := Ground.guard }], guard := some (23, false) }) (v := undef) rfl (by kernel_rfl) (by kernel_rfl) (by kernel_rfl) (fun _ _ _ h => h) (Or.inr ⟨by rfl, rfl⟩) (by exact kS) ?_
      try simp only [Act.put, List.setIfInBounds_toArray, List.set_cons_zero, List.set_cons_succ]
      refine wpAnyH_take (i := 26) (oi := { dst := some 44, op := Op.load 26 (Operand.tmp 4), type := 26, pos := "law.go:182", after := #[{ on := 23, ground := Ground.guard }], guard := some (23, false) }) (v := undef) rfl (by kernel_rfl) (by kernel_rfl) (by kernel_rfl) (fun _ _ _ h => h) (Or.inr ⟨by rfl, rfl⟩) (by exact kS) ?_
      try simp only [Act.put, List.setIfInBounds_toArray, List.set_cons_zero, List.set_cons_succ]
      refine wpAnyH_ready (rs := [25]) (by kernel_rfl) (by simp) ?_
      refine AllReadyH.cons (o := { dst := some 43, op := Op.call { callee := Callee.value (Operand.func 7), args := #[Operand.tmp 42], argTypes := #[26] }, type := 9, pos := "law.go:182", after := #[{ on := 24, ground := Ground.data }, { on := 23, ground := Ground.chain }, { on := 23, ground := Ground.guard }], guard := some (23, false) }) rfl (fun K hK => ?_) AllReadyH.nil
      go_simp
      refine hK.out _ _ (by exact kS) (fun hHeld => ?_)
      clear hK K hHeld
      try simp only [Act.put, List.setIfInBounds_toArray, List.set_cons_zero, List.set_cons_succ]
      refine wpAnyH_ready (rs := [27]) (by kernel_rfl) (by simp) ?_
      refine AllReadyH.cons (o := { dst := some 45, op := Op.call { callee := Callee.value (Operand.func 7), args := #[Operand.tmp 44], argTypes := #[26] }, type := 9, pos := "law.go:182", after := #[{ on := 26, ground := Ground.data }, { on := 25, ground := Ground.chain }, { on := 23, ground := Ground.guard }], guard := some (23, false) }) rfl (fun K hK => ?_) AllReadyH.nil
      go_simp
      refine hK.out _ _ (by exact kS) (fun hHeld => ?_)
      clear hK K hHeld
      try simp only [Act.put, List.setIfInBounds_toArray, List.set_cons_zero, List.set_cons_succ]
      refine wpAnyH_take (i := 28) (oi := { dst := some 46, op := Op.binOp BinOp.eql 9 (Operand.tmp 43) (Operand.tmp 45) 9, type := 4, pos := "law.go:182", after := #[{ on := 25, ground := Ground.data }, { on := 27, ground := Ground.data }, { on := 23, ground := Ground.guard }], guard := some (23, false) }) (v := undef) rfl (by kernel_rfl) (by kernel_rfl) (by kernel_rfl) (fun _ _ _ h => h) (Or.inr ⟨by rfl, rfl⟩) (by exact kS) ?_
      try simp only [Act.put, List.setIfInBounds_toArray, List.set_cons_zero, List.set_cons_succ]
      refine wpAnyH_take (i := 29) (oi := { dst := some 47, op := Op.pick (Operand.tmp 41) (Operand.const (Value.bool true)) (Operand.tmp 46), type := 4, pos := "law.go:182", after := #[{ on := 23, ground := Ground.data }, { on := 28, ground := Ground.data }, { on := 20, ground := Ground.guard }], guard := some (20, true) }) (v := ?_) rfl (by kernel_rfl) (by kernel_rfl) (by kernel_rfl) (fun _ _ _ h => h) (Or.inl ⟨by rfl, ?_⟩) (by exact kS) ?_
      rotate_left
      · intro w hSw; (try dsimp only at hSw); (go_simp <;> with_reducible rfl)
      try simp only [Act.put, List.setIfInBounds_toArray, List.set_cons_zero, List.set_cons_succ]
      refine wpAnyH_take (i := 30) (oi := { dst := some 48, op := Op.pick (Operand.tmp 38) (Operand.tmp 47) (Operand.const (Value.bool false)), type := 4, pos := "law.go:182", after := #[{ on := 20, ground := Ground.data }, { on := 29, ground := Ground.data }], guard := none }) (v := ?_) rfl (by kernel_rfl) (by kernel_rfl) (by kernel_rfl) (fun _ _ _ h => h) (Or.inl ⟨by rfl, ?_⟩) (by exact kS) ?_
      rotate_left
      · intro w hSw; (try dsimp only at hSw); (go_simp <;> with_reducible rfl)
      try simp only [Act.put, List.setIfInBounds_toArray, List.set_cons_zero, List.set_cons_succ]
      refine wpAnyH_take (i := 31) (oi := { dst := some 49, op := Op.move (Operand.tmp 48), type := 4, pos := "law.go:182", after := #[{ on := 30, ground := Ground.data }, { on := 27, ground := Ground.chain }], guard := none }) (v := ?_) rfl (by kernel_rfl) (by kernel_rfl) (by kernel_rfl) (fun _ _ _ h => h) (Or.inl ⟨by rfl, ?_⟩) (by exact kS) ?_
      rotate_left
      · intro w hSw; (try dsimp only at hSw); (go_simp <;> with_reducible rfl)
      try simp only [Act.put, List.setIfInBounds_toArray, List.set_cons_zero, List.set_cons_succ]
      refine wpAnyH_take (i := 32) (oi := { dst := some 50, op := Op.load 26 (Operand.tmp 3), type := 26, pos := "law.go:182", after := #[{ on := 31, ground := Ground.guard }], guard := some (31, true) }) (v := ?_) rfl (by kernel_rfl) (by kernel_rfl) (by kernel_rfl) (fun _ _ _ h => h) (Or.inl ⟨by rfl, ?_⟩) (by exact kS) ?_
      rotate_left
      · intro w hSw; (try dsimp only at hSw); (go_simp <;> with_reducible rfl)
      try simp only [Act.put, List.setIfInBounds_toArray, List.set_cons_zero, List.set_cons_succ]
      refine wpAnyH_take (i := 34) (oi := { dst := some 52, op := Op.load 26 (Operand.tmp 3), type := 26, pos := "law.go:182", after := #[{ on := 31, ground := Ground.guard }], guard := some (31, true) }) (v := ?_) rfl (by kernel_rfl) (by kernel_rfl) (by kernel_rfl) (fun _ _ _ h => h) (Or.inl ⟨by rfl, ?_⟩) (by exact kS) ?_
      rotate_left
      · intro w hSw; (try dsimp only at hSw); (go_simp <;> with_reducible rfl)
      try simp only [Act.put, List.setIfInBounds_toArray, List.set_cons_zero, List.set_cons_succ]
      refine wpAnyH_ready (rs := [33]) (by kernel_rfl) (by simp) ?_
      refine AllReadyH.cons (o := { dst := some 51, op := Op.call { callee := Callee.value (Operand.func 9), args := #[Operand.tmp 50, Operand.const (Value.slice none 0 0)], argTypes := #[26, 24] }, type := 26, pos := "law.go:182", after := #[{ on := 32, ground := Ground.data }, { on := 31, ground := Ground.chain }, { on := 31, ground := Ground.guard }], guard := some (31, true) }) rfl (fun K hK => ?_) AllReadyH.nil
      go_simp
      go_at_call 9; refine (HSB.out _ HB1.out).mono ?_; rintro e x2 ⟨bn, en, bm, em, bk, ek, rfl, hq, hb⟩; have HB2 : Hid (Below wr.heap.size wr x2) := hb; have HQ : Hid (Prt (fun _ => True) x2 (.mk k1 nm1 n1 f1 ns1 ms1 ks1) (.slice bn ln1 en) (.slice bm lm1 em) (.slice bk lk1 ek)) := hq; have kS := HKP.out x2 HB2.out; clear hq hb
      go_wp2_with fail
      refine hK.out _ _ (by exact kS) (fun hHeld => ?_)
      clear hK K hHeld
      try simp only [Act.put, List.setIfInBounds_toArray, List.set_cons_zero, List.set_cons_succ]
      refine wpAnyH_ready (rs := [35]) (by kernel_rfl) (by simp) ?_
      refine AllReadyH.cons (o := { dst := some 53, op := Op.call { callee := Callee.value (Operand.func 8), args := #[Operand.tmp 51, Operand.tmp 52], argTypes := #[26, 26] }, type := 4, pos := "law.go:182", after := #[{ on := 33, ground := Ground.data }, { on := 34, ground := Ground.data }, { on := 33, ground := Ground.chain }, { on := 31, ground := Ground.guard }], guard := some (31, true) }) rfl (fun K hK => ?_) AllReadyH.nil
      go_simp
      go_at_call 8; refine (HTY.out _ _ _ _ _ _ _ HB2.out HQ.out).mono ?_; rintro e x3 ⟨rfl, hb⟩; have HB3 : Hid (Below wr.heap.size wr x3) := hb; have kS := HKP.out x3 HB3.out; clear hb
      go_wp2_with fail
      refine hK.out _ _ (by exact kS) (fun hHeld => ?_)
      clear hK K hHeld
      try simp only [Act.put, List.setIfInBounds_toArray, List.set_cons_zero, List.set_cons_succ]
      refine wpAnyH_take (i := 36) (oi := { dst := some 54, op := Op.pick (Operand.tmp 49) (Operand.tmp 53) (Operand.const (Value.bool false)), type := 4, pos := "law.go:182", after := #[{ on := 31, ground := Ground.data }, { on := 35, ground := Ground.data }], guard := none }) (v := ?_) rfl (by kernel_rfl) (by kernel_rfl) (by kernel_rfl) (fun _ _ _ h => h) (Or.inl ⟨by rfl, ?_⟩) (by exact kS) ?_
      rotate_left
      · intro w hSw; (try dsimp only at hSw); (go_simp <;> with_reducible rfl)
      try simp only [Act.put, List.setIfInBounds_toArray, List.set_cons_zero, List.set_cons_succ]
      refine wpAnyH_take (i := 37) (oi := { dst := some 55, op := Op.move (Operand.tmp 54), type := 4, pos := "law.go:182", after := #[{ on := 36, ground := Ground.data }, { on := 35, ground := Ground.chain }], guard := none }) (v := ?_) rfl (by kernel_rfl) (by kernel_rfl) (by kernel_rfl) (fun _ _ _ h => h) (Or.inl ⟨by rfl, ?_⟩) (by exact kS) ?_
      rotate_left
      · intro w hSw; (try dsimp only at hSw); (go_simp <;> with_reducible rfl)
      try simp only [Act.put, List.setIfInBounds_toArray, List.set_cons_zero, List.set_cons_succ]
      refine wpAnyH_ready (rs := [38]) (by kernel_rfl) (by simp) ?_
      refine AllReadyH.cons (o := { dst := some 56, op := Op.call { callee := Callee.value (Operand.func 5), args := #[], argTypes := #[] }, type := 4, pos := "law.go:182", after := #[{ on := 37, ground := Ground.chain }, { on := 37, ground := Ground.guard }], guard := some (37, true) }) rfl (fun K hK => ?_) AllReadyH.nil
      go_simp
      go_at_call 5; refine (HAW.out _ HB3.out).mono ?_; rintro e x4 ⟨rfl, hb⟩; have HB4 : Hid (Below wr.heap.size wr x4) := hb; have kS := HKP.out x4 HB4.out; clear hb
      go_wp2_with fail
      refine hK.out _ _ (by exact kS) (fun hHeld => ?_)
      clear hK K hHeld
      try simp only [Act.put, List.setIfInBounds_toArray, List.set_cons_zero, List.set_cons_succ]
      refine wpAnyH_take (i := 39) (oi := { dst := some 57, op := Op.pick (Operand.tmp 55) (Operand.tmp 56) (Operand.const (Value.bool false)), type := 4, pos := "law.go:182", after := #[{ on := 37, ground := Ground.data }, { on := 38, ground := Ground.data }], guard := none }) (v := ?_) rfl (by kernel_rfl) (by kernel_rfl) (by kernel_rfl) (fun _ _ _ h => h) (Or.inl ⟨by rfl, ?_⟩) (by exact kS) ?_
      rotate_left
      · intro w hSw; (try dsimp only at hSw); (go_simp <;> with_reducible rfl)
      try simp only [Act.put, List.setIfInBounds_toArray, List.set_cons_zero, List.set_cons_succ]
      refine wpAnyH_take (i := 40) (oi := { dst := some 6, op := Op.assign (Operand.tmp 57), type := 4, pos := "law.go:182", after := #[{ on := 39, ground := Ground.data }, { on := 38, ground := Ground.chain }, { on := 0, ground := Ground.phase }, { on := 1, ground := Ground.phase }, { on := 2, ground := Ground.phase }, { on := 3, ground := Ground.phase }, { on := 4, ground := Ground.phase }, { on := 5, ground := Ground.phase }, { on := 6, ground := Ground.phase }, { on := 7, ground := Ground.phase }, { on := 8, ground := Ground.phase }, { on := 9, ground := Ground.phase }, { on := 10, ground := Ground.phase }, { on := 11, ground := Ground.phase }, { on := 12, ground := Ground.phase }, { on := 13, ground := Ground.phase }, { on := 14, ground := Ground.phase }, { on := 15, ground := Ground.phase }, { on := 16, ground := Ground.phase }, { on := 17, ground := Ground.phase }, { on := 18, ground := Ground.phase }, { on := 19, ground := Ground.phase }, { on := 20, ground := Ground.phase }, { on := 21, ground := Ground.phase }, { on := 22, ground := Ground.phase }, { on := 23, ground := Ground.phase }, { on := 24, ground := Ground.phase }, { on := 25, ground := Ground.phase }, { on := 26, ground := Ground.phase }, { on := 27, ground := Ground.phase }, { on := 28, ground := Ground.phase }, { on := 29, ground := Ground.phase }, { on := 30, ground := Ground.phase }, { on := 31, ground := Ground.phase }, { on := 32, ground := Ground.phase }, { on := 33, ground := Ground.phase }, { on := 34, ground := Ground.phase }, { on := 35, ground := Ground.phase }, { on := 36, ground := Ground.phase }, { on := 37, ground := Ground.phase }, { on := 38, ground := Ground.phase }, { on := 39, ground := Ground.phase }], guard := none }) (v := ?_) rfl (by kernel_rfl) (by kernel_rfl) (by kernel_rfl) (fun _ _ _ h => h) (Or.inl ⟨by rfl, ?_⟩) (by exact kS) ?_
      rotate_left
      · intro w hSw; (try dsimp only at hSw); (go_simp <;> with_reducible rfl)
      try simp only [Act.put, List.setIfInBounds_toArray, List.set_cons_zero, List.set_cons_succ]
      refine wpAnyH_done (by kernel_rfl) ?_ _
      go_wp2_with fail
      go_ret
      exact ⟨rfl, bthen HB9.out HB4.out⟩
    | true =>
      obtain rfl := HXY.out rfl
      cases R2 with
      | false =>
        clear HAC HXY HR3
        go_wp2_with fail
        refine wp_region_held_drew (S := fun w' => w'.cell? ⟨T1, 0, none⟩ = some (.int .i64 k1) ∧ w'.cell? ⟨T1, 1, none⟩ = some (.string nm1) ∧ w'.cell? ⟨T1, 2, none⟩ = some (.int .i64 n1) ∧ w'.cell? ⟨T1, 3, none⟩ = some (.bool f1) ∧ w'.cell? ⟨T1, 4, none⟩ = some (.slice an1 ln1 cn1) ∧ w'.cell? ⟨T1, 5, none⟩ = some (.slice am1 lm1 cm1) ∧ w'.cell? ⟨T1, 6, none⟩ = some (.slice ak1 lk1 ck1) ∧ w'.cell? ⟨T2, 0, none⟩ = some (.int .i64 k2) ∧ w'.cell? ⟨T2, 1, none⟩ = some (.string nm2) ∧ w'.cell? ⟨T2, 2, none⟩ = some (.int .i64 n2) ∧ w'.cell? ⟨T2, 3, none⟩ = some (.bool f2) ∧ w'.cell? ⟨T2, 4, none⟩ = some (.slice an2 ln2 cn2) ∧ w'.cell? ⟨T2, 5, none⟩ = some (.slice am2 lm2 cm2) ∧ w'.cell? ⟨T2, 6, none⟩ = some (.slice ak2 lk2 ck2) ∧ w'.cell? ⟨T3, 0, none⟩ = some (.int .i64 k3) ∧ w'.cell? ⟨T3, 1, none⟩ = some (.string nm3) ∧ w'.cell? ⟨T3, 2, none⟩ = some (.int .i64 n3) ∧ w'.cell? ⟨T3, 3, none⟩ = some (.bool f3) ∧ w'.cell? ⟨T3, 4, none⟩ = some (.slice an3 ln3 cn3) ∧ w'.cell? ⟨T3, 5, none⟩ = some (.slice am3 lm3 cm3) ∧ w'.cell? ⟨T3, 6, none⟩ = some (.slice ak3 lk3 ck3)) (by kernel_rfl) (by exact kS) (fun hHeld => ?_)
        clear hHeld
        refine wpAnyH_take (i := 0) (oi := { dst := some 18, op := Op.move (Operand.tmp 7), type := 4, pos := "law.go:182", after := #[], guard := none }) (v := ?_) rfl (by kernel_rfl) (by kernel_rfl) (by kernel_rfl) (fun _ _ _ h => h) (Or.inl ⟨by rfl, ?_⟩) (by exact kS) ?_
        rotate_left
        · intro w hSw; (try dsimp only at hSw); (go_simp <;> with_reducible rfl)
        try simp only [Act.put, List.setIfInBounds_toArray, List.set_cons_zero, List.set_cons_succ]
        refine wpAnyH_take (i := 1) (oi := { dst := some 19, op := Op.load 26 (Operand.tmp 4), type := 26, pos := "law.go:182", after := #[], guard := none }) (v := ?_) rfl (by kernel_rfl) (by kernel_rfl) (by kernel_rfl) (fun _ _ _ h => h) (Or.inl ⟨by rfl, ?_⟩) (by exact kS) ?_
        rotate_left
        · intro w hSw; (try dsimp only at hSw); (go_simp <;> with_reducible rfl)
        try simp only [Act.put, List.setIfInBounds_toArray, List.set_cons_zero, List.set_cons_succ]
        refine wpAnyH_take (i := 2) (oi := { dst := some 20, op := Op.load 26 (Operand.tmp 3), type := 26, pos := "law.go:182", after := #[], guard := none }) (v := ?_) rfl (by kernel_rfl) (by kernel_rfl) (by kernel_rfl) (fun _ _ _ h => h) (Or.inl ⟨by rfl, ?_⟩) (by exact kS) ?_
        rotate_left
        · intro w hSw; (try dsimp only at hSw); (go_simp <;> with_reducible rfl)
        try simp only [Act.put, List.setIfInBounds_toArray, List.set_cons_zero, List.set_cons_succ]
        refine wpAnyH_ready (rs := [3]) (by kernel_rfl) (by simp) ?_
        refine AllReadyH.cons (o := { dst := some 21, op := Op.call { callee := Callee.value (Operand.func 6), args := #[Operand.tmp 19, Operand.tmp 20], argTypes := #[26, 26] }, type := 4, pos := "law.go:182", after := #[{ on := 1, ground := Ground.data }, { on := 2, ground := Ground.data }], guard := none }) rfl (fun K hK => ?_) AllReadyH.nil
        go_simp
        go_at_call 6; refine (HBA.out _ (bthen HB0.out (below_drew1 _))).mono ?_; rintro e x1 ⟨rfl, hb⟩; have HB1 : Hid (Below wr.heap.size wr x1) := hb; have kS := HKP.out x1 HB1.out; clear hb
        go_wp2_with fail
        refine hK.out _ _ (by exact kS) (fun hHeld => ?_)
        clear hK K hHeld
        try simp only [Act.put, List.setIfInBounds_toArray, List.set_cons_zero, List.set_cons_succ]
        refine wpAnyH_take (i := 4) (oi := { dst := some 22, op := Op.binOp BinOp.eql 4 (Operand.tmp 18) (Operand.tmp 21) 4, type := 4, pos := "law.go:182", after := #[{ on := 0, ground := Ground.data }, { on := 3, ground := Ground.data }], guard := none }) (v := ?_) rfl (by kernel_rfl) (by kernel_rfl) (by kernel_rfl) (fun _ _ _ h => h) (Or.inl ⟨by rfl, ?_⟩) (by exact kS) ?_
        rotate_left
        · intro w hSw; (try dsimp only at hSw); (go_simp <;> with_reducible rfl)
        try simp only [Act.put, List.setIfInBounds_toArray, List.set_cons_zero, List.set_cons_succ]
        refine wpAnyH_take (i := 5) (oi := { dst := some 23, op := Op.move (Operand.tmp 22), type := 4, pos := "law.go:182", after := #[{ on := 4, ground := Ground.data }, { on := 3, ground := Ground.chain }], guard := none }) (v := ?_) rfl (by kernel_rfl) (by kernel_rfl) (by kernel_rfl) (fun _ _ _ h => h) (Or.inl ⟨by rfl, ?_⟩) (by exact kS) ?_
        rotate_left
        · intro w hSw; (try dsimp only at hSw); (go_simp <;> with_reducible rfl)
        try simp only [Act.put, List.setIfInBounds_toArray, List.set_cons_zero, List.set_cons_succ]
        refine wpAnyH_take (i := 6) (oi := { dst := some 24, op := Op.move (Operand.tmp 7), type := 4, pos := "law.go:182", after := #[{ on := 5, ground := Ground.guard }], guard := some (5, true) }) (v := ?_) rfl (by kernel_rfl) (by kernel_rfl) (by kernel_rfl) (fun _ _ _ h => h) (Or.inl ⟨by rfl, ?_⟩) (by exact kS) ?_
        rotate_left
        · intro w hSw; (try dsimp only at hSw); (go_simp <;> with_reducible rfl)
        try simp only [Act.put, List.setIfInBounds_toArray, List.set_cons_zero, List.set_cons_succ]
        refine wpAnyH_take (i := 7) (oi := { dst := some 25, op := Op.move (Operand.tmp 24), type := 4, pos := "law.go:182", after := #[{ on := 6, ground := Ground.data }, { on := 5, ground := Ground.chain }, { on := 5, ground := Ground.guard }], guard := some (5, true) }) (v := ?_) rfl (by kernel_rfl) (by kernel_rfl) (by kernel_rfl) (fun _ _ _ h => h) (Or.inl ⟨by rfl, ?_⟩) (by exact kS) ?_
        rotate_left
        · intro w hSw; (try dsimp only at hSw); (go_simp <;> with_reducible rfl)
        try simp only [Act.put, List.setIfInBounds_toArray, List.set_cons_zero, List.set_cons_succ]
        refine wpAnyH_take (i := 8) (oi := { dst := some 26, op := Op.load 26 (Operand.tmp 4), type := 26, pos := "law.go:182", after := #[{ on := 7, ground := Ground.guard }], guard := some (7, true) }) (v := ?_) rfl (by kernel_rfl) (by kernel_rfl) (by kernel_rfl) (fun _ _ _ h => h) (Or.inl ⟨by rfl, ?_⟩) (by exact kS) ?_
        rotate_left
        · intro w hSw; (try dsimp only at hSw); (go_simp <;> with_reducible rfl)
        try simp only [Act.put, List.setIfInBounds_toArray, List.set_cons_zero, List.set_cons_succ]
        refine wpAnyH_take (i := 9) (oi := { dst := some 27, op := Op.load 26 (Operand.tmp 5), type := 26, pos := "law.go:182", after := #[{ on := 7, ground := Ground.guard }], guard := some (7, true) }) (v := ?_) rfl (by kernel_rfl) (by kernel_rfl) (by kernel_rfl) (fun _ _ _ h => h) (Or.inl ⟨by rfl, ?_⟩) (by exact kS) ?_
        rotate_left
        · intro w hSw; (try dsimp only at hSw); (go_simp <;> with_reducible rfl)
        try simp only [Act.put, List.setIfInBounds_toArray, List.set_cons_zero, List.set_cons_succ]
        refine wpAnyH_ready (rs := [10]) (by kernel_rfl) (by simp) ?_
        refine AllReadyH.cons (o := { dst := some 28, op := Op.call { callee := Callee.value (Operand.func 6), args := #[Operand.tmp 26, Operand.tmp 27], argTypes := #[26, 26] }, type := 4, pos := "law.go:182", after := #[{ on := 8, ground := Ground.data }, { on := 9, ground := Ground.data }, { on := 7, ground := Ground.chain }, { on := 7, ground := Ground.guard }], guard := some (7, true) }) rfl (fun K hK => ?_) AllReadyH.nil
        go_simp
        go_at_call 6; refine (HBC.out _ HB1.out).mono ?_; rintro e x2 ⟨rfl, hb⟩; have HB2 : Hid (Below wr.heap.size wr x2) := hb; have kS := HKP.out x2 HB2.out; clear hb
        go_wp2_with fail
        refine hK.out _ _ (by exact kS) (fun hHeld => ?_)
        clear hK K hHeld
        try simp only [Act.put, List.setIfInBounds_toArray, List.set_cons_zero, List.set_cons_succ]
        refine wpAnyH_take (i := 11) (oi := { dst := some 29, op := Op.pick (Operand.tmp 25) (Operand.tmp 28) (Operand.const (Value.bool false)), type := 4, pos := "law.go:182", after := #[{ on := 7, ground := Ground.data }, { on := 10, ground := Ground.data }, { on := 5, ground := Ground.guard }], guard := some (5, true) }) (v := ?_) rfl (by kernel_rfl) (by kernel_rfl) (by kernel_rfl) (fun _ _ _ h => h) (Or.inl ⟨by rfl, ?_⟩) (by exact kS) ?_
        rotate_left
        · intro w hSw; (try dsimp only at hSw); (go_simp <;> with_reducible rfl)
        try simp only [Act.put, List.setIfInBounds_toArray, List.set_cons_zero, List.set_cons_succ]
        refine wpAnyH_take (i := 12) (oi := { dst := some 30, op := Op.move (Operand.tmp 29), type := 4, pos := "law.go:182", after := #[{ on := 11, ground := Ground.data }, { on := 10, ground := Ground.chain }, { on := 5, ground := Ground.guard }], guard := some (5, true) }) (v := ?_) rfl (by kernel_rfl) (by kernel_rfl) (by kernel_rfl) (fun _ _ _ h => h) (Or.inl ⟨by rfl, ?_⟩) (by exact kS) ?_
        rotate_left
        · intro w hSw; (try dsimp only at hSw); (go_simp <;> with_reducible rfl)
        try simp only [Act.put, List.setIfInBounds_toArray, List.set_cons_zero, List.set_cons_succ]
        refine wpAnyH_take (i := 13) (oi := { dst := some 31, op := Op.load 26 (Operand.tmp 3), type := 26, pos := "law.go:182", after := #[{ on := 12, ground := Ground.guard }], guard := some (12, true) }) (v := undef) rfl (by kernel_rfl) (by kernel_rfl) (by kernel_rfl) (fun _ _ _ h => h) (Or.inr ⟨by rfl, rfl⟩) (by exact kS) ?_
        try simp only [Act.put, List.setIfInBounds_toArray, List.set_cons_zero, List.set_cons_succ]
        refine wpAnyH_take (i := 14) (oi := { dst := some 32, op := Op.load 26 (Operand.tmp 5), type := 26, pos := "law.go:182", after := #[{ on := 12, ground := Ground.guard }], guard := some (12, true) }) (v := undef) rfl (by kernel_rfl) (by kernel_rfl) (by kernel_rfl) (fun _ _ _ h => h) (Or.inr ⟨by rfl, rfl⟩) (by exact kS) ?_
        try simp only [Act.put, List.setIfInBounds_toArray, List.set_cons_zero, List.set_cons_succ]
        refine wpAnyH_ready (rs := [15]) (by kernel_rfl) (by simp) ?_
        refine AllReadyH.cons (o := { dst := some 33, op := Op.call { callee := Callee.value (Operand.func 6), args := #[Operand.tmp 31, Operand.tmp 32], argTypes := #[26, 26] }, type := 4, pos := "law.go:182", after := #[{ on := 13, ground := Ground.data }, { on := 14, ground := Ground.data }, { on := 12, ground := Ground.chain }, { on := 12, ground := Ground.guard }], guard := some (12, true) }) rfl (fun K hK => ?_) AllReadyH.nil
        go_simp
        refine hK.out _ _ (by exact kS) (fun hHeld => ?_)
        clear hK K hHeld
        try simp only [Act.put, List.setIfInBounds_toArray, List.set_cons_zero, List.set_cons_succ]
        refine wpAnyH_take (i := 16) (oi := { dst := some 34, op := Op.unOp UnOp.not 4 (Operand.tmp 33), type := 4, pos := "law.go:182", after := #[{ on := 15, ground := Ground.data }, { on := 12, ground := Ground.guard }], guard := some (12, true) }) (v := undef) rfl (by kernel_rfl) (by kernel_rfl) (by kernel_rfl) (fun _ _ _ h => h) (Or.inr ⟨by rfl, rfl⟩) (by exact kS) ?_
        try simp only [Act.put, List.setIfInBounds_toArray, List.set_cons_zero, List.set_cons_succ]
        refine wpAnyH_take (i := 17) (oi := { dst := some 35, op := Op.pick (Operand.tmp 30) (Operand.tmp 34) (Operand.const (Value.bool false)), type := 4, pos := "law.go:182", after := #[{ on := 12, ground := Ground.data }, { on := 16, ground := Ground.data }, { on := 5, ground := Ground.guard }], guard := some (5, true) }) (v := ?_) rfl (by kernel_rfl) (by kernel_rfl) (by kernel_rfl) (fun _ _ _ h => h) (Or.inl ⟨by rfl, ?_⟩) (by exact kS) ?_
        rotate_left
        · intro w hSw; (try dsimp only at hSw); (go_simp <;> with_reducible rfl)
        try simp only [Act.put, List.setIfInBounds_toArray, List.set_cons_zero, List.set_cons_succ]
        refine wpAnyH_take (i := 18) (oi := { dst := some 36, op := Op.unOp UnOp.not 4 (Operand.tmp 35), type := 4, pos := "law.go:182", after := #[{ on := 17, ground := Ground.data }, { on := 5, ground := Ground.guard }], guard := some (5, true) }) (v := ?_) rfl (by kernel_rfl) (by kernel_rfl) (by kernel_rfl) (fun _ _ _ h => h) (Or.inl ⟨by rfl, ?_⟩) (by exact kS) ?_
        rotate_left
        · intro w hSw; (try dsimp only at hSw); (go_simp <;> with_reducible rfl)
        try simp only [Act.put, List.setIfInBounds_toArray, List.set_cons_zero, List.set_cons_succ]
        refine wpAnyH_take (i := 19) (oi := { dst := some 37, op := Op.pick (Operand.tmp 23) (Operand.tmp 36) (Operand.const (Value.bool false)), type := 4, pos := "law.go:182", after := #[{ on := 5, ground := Ground.data }, { on := 18, ground := Ground.data }], guard := none }) (v := ?_) rfl (by kernel_rfl) (by kernel_rfl) (by kernel_rfl) (fun _ _ _ h => h) (Or.inl ⟨by rfl, ?_⟩) (by exact kS) ?_
        rotate_left
        · intro w hSw; (try dsimp only at hSw); (go_simp <;> with_reducible rfl)
        try simp only [Act.put, List.setIfInBounds_toArray, List.set_cons_zero, List.set_cons_succ]
        refine wpAnyH_take (i := 20) (oi := { dst := some 38, op := Op.move (Operand.tmp 37), type := 4, pos := "law.go:182", after := #[{ on := 19, ground := Ground.data }, { on := 15, ground := Ground.chain }], guard := none }) (v := ?_) rfl (by kernel_rfl) (by kernel_rfl) (by kernel_rfl) (fun _ _ _ h => h) (Or.inl ⟨by rfl, ?_⟩) (by exact kS) ?_
        rotate_left
        · intro w hSw; (try dsimp only at hSw); (go_simp <;> with_reducible rfl)
        try simp only [Act.put, List.setIfInBounds_toArray, List.set_cons_zero, List.set_cons_succ]
        refine wpAnyH_take (i := 21) (oi := { dst := some 39, op := Op.move (Operand.tmp 7), type := 4, pos := "law.go:182", after := #[{ on := 20, ground := Ground.guard }], guard := some (20, true) }) (v := ?_) rfl (by kernel_rfl) (by kernel_rfl) (by kernel_rfl) (fun _ _ _ h => h) (Or.inl ⟨by rfl, ?_⟩) (by exact kS) ?_
        rotate_left
        · intro w hSw; (try dsimp only at hSw); (go_simp <;> with_reducible rfl)
        try simp only [Act.put, List.setIfInBounds_toArray, List.set_cons_zero, List.set_cons_succ]
        refine wpAnyH_take (i := 22) (oi := { dst := some 40, op := Op.unOp UnOp.not 4 (Operand.tmp 39), type := 4, pos := "law.go:182", after := #[{ on := 21, ground := Ground.data }, { on := 20, ground := Ground.guard }], guard := some (20, true) }) (v := ?_) rfl (by kernel_rfl) (by kernel_rfl) (by kernel_rfl) (fun _ _ _ h => h) (Or.inl ⟨by rfl, ?_⟩) (by exact kS) ?_
        rotate_left
        · intro w hSw; (try dsimp only at hSw); (go_simp <;> with_reducible rfl)
        try simp only [Act.put, List.setIfInBounds_toArray, List.set_cons_zero, List.set_cons_succ]
        refine wpAnyH_take (i := 23) (oi := { dst := some 41, op := Op.move (Operand.tmp 40), type := 4, pos := "law.go:182", after := #[{ on := 22, ground := Ground.data }, { on := 20, ground := Ground.chain }, { on := 20, ground := Ground.guard }], guard := some (20, true) }) (v := ?_) rfl (by kernel_rfl) (by kernel_rfl) (by kernel_rfl) (fun _ _ _ h => h) (Or.inl ⟨by rfl, ?_⟩) (by exact kS) ?_
        rotate_left
        · intro w hSw; (try dsimp only at hSw); (go_simp <;> with_reducible rfl)
        try simp only [Act.put, List.setIfInBounds_toArray, List.set_cons_zero, List.set_cons_succ]
        refine wpAnyH_take (i := 24) (oi := { dst := some 42, op := Op.load 26 (Operand.tmp 3), type := 26, pos := "law.go:182", after := #[{ on := 23, ground := Ground.guard }], guard := some (23, false) }) (v := ?_) rfl (by kernel_rfl) (by kernel_rfl) (by kernel_rfl) (fun _ _ _ h => h) (Or.inl ⟨by rfl, ?_⟩) (by exact kS) ?_
        rotate_left
        · intro w hSw; (try dsimp only at hSw); (go_simp <;> with_reducible rfl)
        try simp only [Act.put, List.setIfInBounds_toArray, List.set_cons_zero, List.set_cons_succ]
        refine wpAnyH_take (i := 26) (oi := { dst := some 44, op := Op.load 26 (Operand.tmp 4), type := 26, pos := "law.go:182", after := #[{ on := 23, ground := Ground.guard }], guard := some (23, false) }) (v := ?_) rfl (by kernel_rfl) (by kernel_rfl) (by kernel_rfl) (fun _ _ _ h => h) (Or.inl ⟨by rfl, ?_⟩) (by exact kS) ?_
        rotate_left
        · intro w hSw; (try dsimp only at hSw); (go_simp <;> with_reducible rfl)
        try simp only [Act.put, List.setIfInBounds_toArray, List.set_cons_zero, List.set_cons_succ]
        refine wpAnyH_ready (rs := [25]) (by kernel_rfl) (by simp) ?_
        refine AllReadyH.cons (o := { dst := some 43, op := Op.call { callee := Callee.value (Operand.func 7), args := #[Operand.tmp 42], argTypes := #[26] }, type := 9, pos := "law.go:182", after := #[{ on := 24, ground := Ground.data }, { on := 23, ground := Ground.chain }, { on := 23, ground := Ground.guard }], guard := some (23, false) }) rfl (fun K hK => ?_) AllReadyH.nil
        go_simp
        go_at_call 7; refine (HT1.out _ HB2.out).mono ?_; rintro e x3 ⟨rfl, hb⟩; have HB3 : Hid (Below wr.heap.size wr x3) := hb; have kS := HKP.out x3 HB3.out; clear hb
        go_wp2_with fail
        refine hK.out _ _ (by exact kS) (fun hHeld => ?_)
        clear hK K hHeld
        try simp only [Act.put, List.setIfInBounds_toArray, List.set_cons_zero, List.set_cons_succ]
        refine wpAnyH_ready (rs := [27]) (by kernel_rfl) (by simp) ?_
        refine AllReadyH.cons (o := { dst := some 45, op := Op.call { callee := Callee.value (Operand.func 7), args := #[Operand.tmp 44], argTypes := #[26] }, type := 9, pos := "law.go:182", after := #[{ on := 26, ground := Ground.data }, { on := 25, ground := Ground.chain }, { on := 23, ground := Ground.guard }], guard := some (23, false) }) rfl (fun K hK => ?_) AllReadyH.nil
        go_simp
        go_at_call 7; refine (HT2.out _ HB3.out).mono ?_; rintro e x4 ⟨rfl, hb⟩; have HB4 : Hid (Below wr.heap.size wr x4) := hb; have kS := HKP.out x4 HB4.out; clear hb
        go_wp2_with fail
        refine hK.out _ _ (by exact kS) (fun hHeld => ?_)
        clear hK K hHeld
        try simp only [Act.put, List.setIfInBounds_toArray, List.set_cons_zero, List.set_cons_succ]
        refine wpAnyH_take (i := 28) (oi := { dst := some 46, op := Op.binOp BinOp.eql 9 (Operand.tmp 43) (Operand.tmp 45) 9, type := 4, pos := "law.go:182", after := #[{ on := 25, ground := Ground.data }, { on := 27, ground := Ground.data }, { on := 23, ground := Ground.guard }], guard := some (23, false) }) (v := ?_) rfl (by kernel_rfl) (by kernel_rfl) (by kernel_rfl) (fun _ _ _ h => h) (Or.inl ⟨by rfl, ?_⟩) (by exact kS) ?_
        rotate_left
        · intro w hSw; (try dsimp only at hSw); (go_simp <;> with_reducible rfl)
        try simp only [Act.put, List.setIfInBounds_toArray, List.set_cons_zero, List.set_cons_succ]
        refine wpAnyH_take (i := 29) (oi := { dst := some 47, op := Op.pick (Operand.tmp 41) (Operand.const (Value.bool true)) (Operand.tmp 46), type := 4, pos := "law.go:182", after := #[{ on := 23, ground := Ground.data }, { on := 28, ground := Ground.data }, { on := 20, ground := Ground.guard }], guard := some (20, true) }) (v := ?_) rfl (by kernel_rfl) (by kernel_rfl) (by kernel_rfl) (fun _ _ _ h => h) (Or.inl ⟨by rfl, ?_⟩) (by exact kS) ?_
        rotate_left
        · intro w hSw; (try dsimp only at hSw); (go_simp <;> with_reducible rfl)
        try simp only [Act.put, List.setIfInBounds_toArray, List.set_cons_zero, List.set_cons_succ]
        refine wpAnyH_take (i := 30) (oi := { dst := some 48, op := Op.pick (Operand.tmp 38) (Operand.tmp 47) (Operand.const (Value.bool false)), type := 4, pos := "law.go:182", after := #[{ on := 20, ground := Ground.data }, { on := 29, ground := Ground.data }], guard := none }) (v := ?_) rfl (by kernel_rfl) (by kernel_rfl) (by kernel_rfl) (fun _ _ _ h => h) (Or.inl ⟨by rfl, ?_⟩) (by exact kS) ?_
        rotate_left
        · intro w hSw; (try dsimp only at hSw); (go_simp <;> with_reducible rfl)
        try simp only [Act.put, List.setIfInBounds_toArray, List.set_cons_zero, List.set_cons_succ]
        refine wpAnyH_take (i := 31) (oi := { dst := some 49, op := Op.move (Operand.tmp 48), type := 4, pos := "law.go:182", after := #[{ on := 30, ground := Ground.data }, { on := 27, ground := Ground.chain }], guard := none }) (v := ?_) rfl (by kernel_rfl) (by kernel_rfl) (by kernel_rfl) (fun _ _ _ h => h) (Or.inl ⟨by rfl, ?_⟩) (by exact kS) ?_
        rotate_left
        · intro w hSw; (try dsimp only at hSw); (go_simp <;> with_reducible rfl)
        try simp only [Act.put, List.setIfInBounds_toArray, List.set_cons_zero, List.set_cons_succ]
        refine wpAnyH_take (i := 32) (oi := { dst := some 50, op := Op.load 26 (Operand.tmp 3), type := 26, pos := "law.go:182", after := #[{ on := 31, ground := Ground.guard }], guard := some (31, true) }) (v := ?_) rfl (by kernel_rfl) (by kernel_rfl) (by kernel_rfl) (fun _ _ _ h => h) (Or.inl ⟨by rfl, ?_⟩) (by exact kS) ?_
        rotate_left
        · intro w hSw; (try dsimp only at hSw); (go_simp <;> with_reducible rfl)
        try simp only [Act.put, List.setIfInBounds_toArray, List.set_cons_zero, List.set_cons_succ]
        refine wpAnyH_take (i := 34) (oi := { dst := some 52, op := Op.load 26 (Operand.tmp 3), type := 26, pos := "law.go:182", after := #[{ on := 31, ground := Ground.guard }], guard := some (31, true) }) (v := ?_) rfl (by kernel_rfl) (by kernel_rfl) (by kernel_rfl) (fun _ _ _ h => h) (Or.inl ⟨by rfl, ?_⟩) (by exact kS) ?_
        rotate_left
        · intro w hSw; (try dsimp only at hSw); (go_simp <;> with_reducible rfl)
        try simp only [Act.put, List.setIfInBounds_toArray, List.set_cons_zero, List.set_cons_succ]
        refine wpAnyH_ready (rs := [33]) (by kernel_rfl) (by simp) ?_
        refine AllReadyH.cons (o := { dst := some 51, op := Op.call { callee := Callee.value (Operand.func 9), args := #[Operand.tmp 50, Operand.const (Value.slice none 0 0)], argTypes := #[26, 24] }, type := 26, pos := "law.go:182", after := #[{ on := 32, ground := Ground.data }, { on := 31, ground := Ground.chain }, { on := 31, ground := Ground.guard }], guard := some (31, true) }) rfl (fun K hK => ?_) AllReadyH.nil
        go_simp
        go_at_call 9; refine (HSB.out _ HB4.out).mono ?_; rintro e x5 ⟨bn, en, bm, em, bk, ek, rfl, hq, hb⟩; have HB5 : Hid (Below wr.heap.size wr x5) := hb; have HQ : Hid (Prt (fun _ => True) x5 (.mk k1 nm1 n1 f1 ns1 ms1 ks1) (.slice bn ln1 en) (.slice bm lm1 em) (.slice bk lk1 ek)) := hq; have kS := HKP.out x5 HB5.out; clear hq hb
        go_wp2_with fail
        refine hK.out _ _ (by exact kS) (fun hHeld => ?_)
        clear hK K hHeld
        try simp only [Act.put, List.setIfInBounds_toArray, List.set_cons_zero, List.set_cons_succ]
        refine wpAnyH_ready (rs := [35]) (by kernel_rfl) (by simp) ?_
        refine AllReadyH.cons (o := { dst := some 53, op := Op.call { callee := Callee.value (Operand.func 8), args := #[Operand.tmp 51, Operand.tmp 52], argTypes := #[26, 26] }, type := 4, pos := "law.go:182", after := #[{ on := 33, ground := Ground.data }, { on := 34, ground := Ground.data }, { on := 33, ground := Ground.chain }, { on := 31, ground := Ground.guard }], guard := some (31, true) }) rfl (fun K hK => ?_) AllReadyH.nil
        go_simp
        go_at_call 8; refine (HTY.out _ _ _ _ _ _ _ HB5.out HQ.out).mono ?_; rintro e x6 ⟨rfl, hb⟩; have HB6 : Hid (Below wr.heap.size wr x6) := hb; have kS := HKP.out x6 HB6.out; clear hb
        go_wp2_with fail
        refine hK.out _ _ (by exact kS) (fun hHeld => ?_)
        clear hK K hHeld
        try simp only [Act.put, List.setIfInBounds_toArray, List.set_cons_zero, List.set_cons_succ]
        refine wpAnyH_take (i := 36) (oi := { dst := some 54, op := Op.pick (Operand.tmp 49) (Operand.tmp 53) (Operand.const (Value.bool false)), type := 4, pos := "law.go:182", after := #[{ on := 31, ground := Ground.data }, { on := 35, ground := Ground.data }], guard := none }) (v := ?_) rfl (by kernel_rfl) (by kernel_rfl) (by kernel_rfl) (fun _ _ _ h => h) (Or.inl ⟨by rfl, ?_⟩) (by exact kS) ?_
        rotate_left
        · intro w hSw; (try dsimp only at hSw); (go_simp <;> with_reducible rfl)
        try simp only [Act.put, List.setIfInBounds_toArray, List.set_cons_zero, List.set_cons_succ]
        refine wpAnyH_take (i := 37) (oi := { dst := some 55, op := Op.move (Operand.tmp 54), type := 4, pos := "law.go:182", after := #[{ on := 36, ground := Ground.data }, { on := 35, ground := Ground.chain }], guard := none }) (v := ?_) rfl (by kernel_rfl) (by kernel_rfl) (by kernel_rfl) (fun _ _ _ h => h) (Or.inl ⟨by rfl, ?_⟩) (by exact kS) ?_
        rotate_left
        · intro w hSw; (try dsimp only at hSw); (go_simp <;> with_reducible rfl)
        try simp only [Act.put, List.setIfInBounds_toArray, List.set_cons_zero, List.set_cons_succ]
        refine wpAnyH_ready (rs := [38]) (by kernel_rfl) (by simp) ?_
        refine AllReadyH.cons (o := { dst := some 56, op := Op.call { callee := Callee.value (Operand.func 5), args := #[], argTypes := #[] }, type := 4, pos := "law.go:182", after := #[{ on := 37, ground := Ground.chain }, { on := 37, ground := Ground.guard }], guard := some (37, true) }) rfl (fun K hK => ?_) AllReadyH.nil
        go_simp
        go_at_call 5; refine (HAW.out _ HB6.out).mono ?_; rintro e x7 ⟨rfl, hb⟩; have HB7 : Hid (Below wr.heap.size wr x7) := hb; have kS := HKP.out x7 HB7.out; clear hb
        go_wp2_with fail
        refine hK.out _ _ (by exact kS) (fun hHeld => ?_)
        clear hK K hHeld
        try simp only [Act.put, List.setIfInBounds_toArray, List.set_cons_zero, List.set_cons_succ]
        refine wpAnyH_take (i := 39) (oi := { dst := some 57, op := Op.pick (Operand.tmp 55) (Operand.tmp 56) (Operand.const (Value.bool false)), type := 4, pos := "law.go:182", after := #[{ on := 37, ground := Ground.data }, { on := 38, ground := Ground.data }], guard := none }) (v := ?_) rfl (by kernel_rfl) (by kernel_rfl) (by kernel_rfl) (fun _ _ _ h => h) (Or.inl ⟨by rfl, ?_⟩) (by exact kS) ?_
        rotate_left
        · intro w hSw; (try dsimp only at hSw); (go_simp <;> with_reducible rfl)
        try simp only [Act.put, List.setIfInBounds_toArray, List.set_cons_zero, List.set_cons_succ]
        refine wpAnyH_take (i := 40) (oi := { dst := some 6, op := Op.assign (Operand.tmp 57), type := 4, pos := "law.go:182", after := #[{ on := 39, ground := Ground.data }, { on := 38, ground := Ground.chain }, { on := 0, ground := Ground.phase }, { on := 1, ground := Ground.phase }, { on := 2, ground := Ground.phase }, { on := 3, ground := Ground.phase }, { on := 4, ground := Ground.phase }, { on := 5, ground := Ground.phase }, { on := 6, ground := Ground.phase }, { on := 7, ground := Ground.phase }, { on := 8, ground := Ground.phase }, { on := 9, ground := Ground.phase }, { on := 10, ground := Ground.phase }, { on := 11, ground := Ground.phase }, { on := 12, ground := Ground.phase }, { on := 13, ground := Ground.phase }, { on := 14, ground := Ground.phase }, { on := 15, ground := Ground.phase }, { on := 16, ground := Ground.phase }, { on := 17, ground := Ground.phase }, { on := 18, ground := Ground.phase }, { on := 19, ground := Ground.phase }, { on := 20, ground := Ground.phase }, { on := 21, ground := Ground.phase }, { on := 22, ground := Ground.phase }, { on := 23, ground := Ground.phase }, { on := 24, ground := Ground.phase }, { on := 25, ground := Ground.phase }, { on := 26, ground := Ground.phase }, { on := 27, ground := Ground.phase }, { on := 28, ground := Ground.phase }, { on := 29, ground := Ground.phase }, { on := 30, ground := Ground.phase }, { on := 31, ground := Ground.phase }, { on := 32, ground := Ground.phase }, { on := 33, ground := Ground.phase }, { on := 34, ground := Ground.phase }, { on := 35, ground := Ground.phase }, { on := 36, ground := Ground.phase }, { on := 37, ground := Ground.phase }, { on := 38, ground := Ground.phase }, { on := 39, ground := Ground.phase }], guard := none }) (v := ?_) rfl (by kernel_rfl) (by kernel_rfl) (by kernel_rfl) (fun _ _ _ h => h) (Or.inl ⟨by rfl, ?_⟩) (by exact kS) ?_
        rotate_left
        · intro w hSw; (try dsimp only at hSw); (go_simp <;> with_reducible rfl)
        try simp only [Act.put, List.setIfInBounds_toArray, List.set_cons_zero, List.set_cons_succ]
        refine wpAnyH_done (by kernel_rfl) ?_ _
        go_wp2_with fail
        go_ret
        exact ⟨rfl, bthen HB9.out HB7.out⟩
      | true =>
        obtain rfl := HR3.out rfl rfl
        clear HXY HR3
        go_wp2_with fail
        refine wp_region_held_drew (S := fun w' => w'.cell? ⟨T1, 0, none⟩ = some (.int .i64 k1) ∧ w'.cell? ⟨T1, 1, none⟩ = some (.string nm1) ∧ w'.cell? ⟨T1, 2, none⟩ = some (.int .i64 n1) ∧ w'.cell? ⟨T1, 3, none⟩ = some (.bool f1) ∧ w'.cell? ⟨T1, 4, none⟩ = some (.slice an1 ln1 cn1) ∧ w'.cell? ⟨T1, 5, none⟩ = some (.slice am1 lm1 cm1) ∧ w'.cell? ⟨T1, 6, none⟩ = some (.slice ak1 lk1 ck1) ∧ w'.cell? ⟨T2, 0, none⟩ = some (.int .i64 k2) ∧ w'.cell? ⟨T2, 1, none⟩ = some (.string nm2) ∧ w'.cell? ⟨T2, 2, none⟩ = some (.int .i64 n2) ∧ w'.cell? ⟨T2, 3, none⟩ = some (.bool f2) ∧ w'.cell? ⟨T2, 4, none⟩ = some (.slice an2 ln2 cn2) ∧ w'.cell? ⟨T2, 5, none⟩ = some (.slice am2 lm2 cm2) ∧ w'.cell? ⟨T2, 6, none⟩ = some (.slice ak2 lk2 ck2) ∧ w'.cell? ⟨T3, 0, none⟩ = some (.int .i64 k3) ∧ w'.cell? ⟨T3, 1, none⟩ = some (.string nm3) ∧ w'.cell? ⟨T3, 2, none⟩ = some (.int .i64 n3) ∧ w'.cell? ⟨T3, 3, none⟩ = some (.bool f3) ∧ w'.cell? ⟨T3, 4, none⟩ = some (.slice an3 ln3 cn3) ∧ w'.cell? ⟨T3, 5, none⟩ = some (.slice am3 lm3 cm3) ∧ w'.cell? ⟨T3, 6, none⟩ = some (.slice ak3 lk3 ck3)) (by kernel_rfl) (by exact kS) (fun hHeld => ?_)
        clear hHeld
        refine wpAnyH_take (i := 0) (oi := { dst := some 18, op := Op.move (Operand.tmp 7), type := 4, pos := "law.go:182", after := #[], guard := none }) (v := ?_) rfl (by kernel_rfl) (by kernel_rfl) (by kernel_rfl) (fun _ _ _ h => h) (Or.inl ⟨by rfl, ?_⟩) (by exact kS) ?_
        rotate_left
        · intro w hSw; (try dsimp only at hSw); (go_simp <;> with_reducible rfl)
        try simp only [Act.put, List.setIfInBounds_toArray, List.set_cons_zero, List.set_cons_succ]
        refine wpAnyH_take (i := 1) (oi := { dst := some 19, op := Op.load 26 (Operand.tmp 4), type := 26, pos := "law.go:182", after := #[], guard := none }) (v := ?_) rfl (by kernel_rfl) (by kernel_rfl) (by kernel_rfl) (fun _ _ _ h => h) (Or.inl ⟨by rfl, ?_⟩) (by exact kS) ?_
        rotate_left
        · intro w hSw; (try dsimp only at hSw); (go_simp <;> with_reducible rfl)
        try simp only [Act.put, List.setIfInBounds_toArray, List.set_cons_zero, List.set_cons_succ]
        refine wpAnyH_take (i := 2) (oi := { dst := some 20, op := Op.load 26 (Operand.tmp 3), type := 26, pos := "law.go:182", after := #[], guard := none }) (v := ?_) rfl (by kernel_rfl) (by kernel_rfl) (by kernel_rfl) (fun _ _ _ h => h) (Or.inl ⟨by rfl, ?_⟩) (by exact kS) ?_
        rotate_left
        · intro w hSw; (try dsimp only at hSw); (go_simp <;> with_reducible rfl)
        try simp only [Act.put, List.setIfInBounds_toArray, List.set_cons_zero, List.set_cons_succ]
        refine wpAnyH_ready (rs := [3]) (by kernel_rfl) (by simp) ?_
        refine AllReadyH.cons (o := { dst := some 21, op := Op.call { callee := Callee.value (Operand.func 6), args := #[Operand.tmp 19, Operand.tmp 20], argTypes := #[26, 26] }, type := 4, pos := "law.go:182", after := #[{ on := 1, ground := Ground.data }, { on := 2, ground := Ground.data }], guard := none }) rfl (fun K hK => ?_) AllReadyH.nil
        go_simp
        go_at_call 6; refine (HBA.out _ (bthen HB0.out (below_drew1 _))).mono ?_; rintro e x1 ⟨rfl, hb⟩; have HB1 : Hid (Below wr.heap.size wr x1) := hb; have kS := HKP.out x1 HB1.out; clear hb
        go_wp2_with fail
        refine hK.out _ _ (by exact kS) (fun hHeld => ?_)
        clear hK K hHeld
        try simp only [Act.put, List.setIfInBounds_toArray, List.set_cons_zero, List.set_cons_succ]
        refine wpAnyH_take (i := 4) (oi := { dst := some 22, op := Op.binOp BinOp.eql 4 (Operand.tmp 18) (Operand.tmp 21) 4, type := 4, pos := "law.go:182", after := #[{ on := 0, ground := Ground.data }, { on := 3, ground := Ground.data }], guard := none }) (v := ?_) rfl (by kernel_rfl) (by kernel_rfl) (by kernel_rfl) (fun _ _ _ h => h) (Or.inl ⟨by rfl, ?_⟩) (by exact kS) ?_
        rotate_left
        · intro w hSw; (try dsimp only at hSw); (go_simp <;> with_reducible rfl)
        try simp only [Act.put, List.setIfInBounds_toArray, List.set_cons_zero, List.set_cons_succ]
        refine wpAnyH_take (i := 5) (oi := { dst := some 23, op := Op.move (Operand.tmp 22), type := 4, pos := "law.go:182", after := #[{ on := 4, ground := Ground.data }, { on := 3, ground := Ground.chain }], guard := none }) (v := ?_) rfl (by kernel_rfl) (by kernel_rfl) (by kernel_rfl) (fun _ _ _ h => h) (Or.inl ⟨by rfl, ?_⟩) (by exact kS) ?_
        rotate_left
        · intro w hSw; (try dsimp only at hSw); (go_simp <;> with_reducible rfl)
        try simp only [Act.put, List.setIfInBounds_toArray, List.set_cons_zero, List.set_cons_succ]
        refine wpAnyH_take (i := 6) (oi := { dst := some 24, op := Op.move (Operand.tmp 7), type := 4, pos := "law.go:182", after := #[{ on := 5, ground := Ground.guard }], guard := some (5, true) }) (v := ?_) rfl (by kernel_rfl) (by kernel_rfl) (by kernel_rfl) (fun _ _ _ h => h) (Or.inl ⟨by rfl, ?_⟩) (by exact kS) ?_
        rotate_left
        · intro w hSw; (try dsimp only at hSw); (go_simp <;> with_reducible rfl)
        try simp only [Act.put, List.setIfInBounds_toArray, List.set_cons_zero, List.set_cons_succ]
        refine wpAnyH_take (i := 7) (oi := { dst := some 25, op := Op.move (Operand.tmp 24), type := 4, pos := "law.go:182", after := #[{ on := 6, ground := Ground.data }, { on := 5, ground := Ground.chain }, { on := 5, ground := Ground.guard }], guard := some (5, true) }) (v := ?_) rfl (by kernel_rfl) (by kernel_rfl) (by kernel_rfl) (fun _ _ _ h => h) (Or.inl ⟨by rfl, ?_⟩) (by exact kS) ?_
        rotate_left
        · intro w hSw; (try dsimp only at hSw); (go_simp <;> with_reducible rfl)
        try simp only [Act.put, List.setIfInBounds_toArray, List.set_cons_zero, List.set_cons_succ]
        refine wpAnyH_take (i := 8) (oi := { dst := some 26, op := Op.load 26 (Operand.tmp 4), type := 26, pos := "law.go:182", after := #[{ on := 7, ground := Ground.guard }], guard := some (7, true) }) (v := ?_) rfl (by kernel_rfl) (by kernel_rfl) (by kernel_rfl) (fun _ _ _ h => h) (Or.inl ⟨by rfl, ?_⟩) (by exact kS) ?_
        rotate_left
        · intro w hSw; (try dsimp only at hSw); (go_simp <;> with_reducible rfl)
        try simp only [Act.put, List.setIfInBounds_toArray, List.set_cons_zero, List.set_cons_succ]
        refine wpAnyH_take (i := 9) (oi := { dst := some 27, op := Op.load 26 (Operand.tmp 5), type := 26, pos := "law.go:182", after := #[{ on := 7, ground := Ground.guard }], guard := some (7, true) }) (v := ?_) rfl (by kernel_rfl) (by kernel_rfl) (by kernel_rfl) (fun _ _ _ h => h) (Or.inl ⟨by rfl, ?_⟩) (by exact kS) ?_
        rotate_left
        · intro w hSw; (try dsimp only at hSw); (go_simp <;> with_reducible rfl)
        try simp only [Act.put, List.setIfInBounds_toArray, List.set_cons_zero, List.set_cons_succ]
        refine wpAnyH_ready (rs := [10]) (by kernel_rfl) (by simp) ?_
        refine AllReadyH.cons (o := { dst := some 28, op := Op.call { callee := Callee.value (Operand.func 6), args := #[Operand.tmp 26, Operand.tmp 27], argTypes := #[26, 26] }, type := 4, pos := "law.go:182", after := #[{ on := 8, ground := Ground.data }, { on := 9, ground := Ground.data }, { on := 7, ground := Ground.chain }, { on := 7, ground := Ground.guard }], guard := some (7, true) }) rfl (fun K hK => ?_) AllReadyH.nil
        go_simp
        go_at_call 6; refine (HBC.out _ HB1.out).mono ?_; rintro e x2 ⟨rfl, hb⟩; have HB2 : Hid (Below wr.heap.size wr x2) := hb; have kS := HKP.out x2 HB2.out; clear hb
        go_wp2_with fail
        refine hK.out _ _ (by exact kS) (fun hHeld => ?_)
        clear hK K hHeld
        try simp only [Act.put, List.setIfInBounds_toArray, List.set_cons_zero, List.set_cons_succ]
        refine wpAnyH_take (i := 11) (oi := { dst := some 29, op := Op.pick (Operand.tmp 25) (Operand.tmp 28) (Operand.const (Value.bool false)), type := 4, pos := "law.go:182", after := #[{ on := 7, ground := Ground.data }, { on := 10, ground := Ground.data }, { on := 5, ground := Ground.guard }], guard := some (5, true) }) (v := ?_) rfl (by kernel_rfl) (by kernel_rfl) (by kernel_rfl) (fun _ _ _ h => h) (Or.inl ⟨by rfl, ?_⟩) (by exact kS) ?_
        rotate_left
        · intro w hSw; (try dsimp only at hSw); (go_simp <;> with_reducible rfl)
        try simp only [Act.put, List.setIfInBounds_toArray, List.set_cons_zero, List.set_cons_succ]
        refine wpAnyH_take (i := 12) (oi := { dst := some 30, op := Op.move (Operand.tmp 29), type := 4, pos := "law.go:182", after := #[{ on := 11, ground := Ground.data }, { on := 10, ground := Ground.chain }, { on := 5, ground := Ground.guard }], guard := some (5, true) }) (v := ?_) rfl (by kernel_rfl) (by kernel_rfl) (by kernel_rfl) (fun _ _ _ h => h) (Or.inl ⟨by rfl, ?_⟩) (by exact kS) ?_
        rotate_left
        · intro w hSw; (try dsimp only at hSw); (go_simp <;> with_reducible rfl)
        try simp only [Act.put, List.setIfInBounds_toArray, List.set_cons_zero, List.set_cons_succ]
        refine wpAnyH_take (i := 13) (oi := { dst := some 31, op := Op.load 26 (Operand.tmp 3), type := 26, pos := "law.go:182", after := #[{ on := 12, ground := Ground.guard }], guard := some (12, true) }) (v := ?_) rfl (by kernel_rfl) (by kernel_rfl) (by kernel_rfl) (fun _ _ _ h => h) (Or.inl ⟨by rfl, ?_⟩) (by exact kS) ?_
        rotate_left
        · intro w hSw; (try dsimp only at hSw); (go_simp <;> with_reducible rfl)
        try simp only [Act.put, List.setIfInBounds_toArray, List.set_cons_zero, List.set_cons_succ]
        refine wpAnyH_take (i := 14) (oi := { dst := some 32, op := Op.load 26 (Operand.tmp 5), type := 26, pos := "law.go:182", after := #[{ on := 12, ground := Ground.guard }], guard := some (12, true) }) (v := ?_) rfl (by kernel_rfl) (by kernel_rfl) (by kernel_rfl) (fun _ _ _ h => h) (Or.inl ⟨by rfl, ?_⟩) (by exact kS) ?_
        rotate_left
        · intro w hSw; (try dsimp only at hSw); (go_simp <;> with_reducible rfl)
        try simp only [Act.put, List.setIfInBounds_toArray, List.set_cons_zero, List.set_cons_succ]
        refine wpAnyH_ready (rs := [15]) (by kernel_rfl) (by simp) ?_
        refine AllReadyH.cons (o := { dst := some 33, op := Op.call { callee := Callee.value (Operand.func 6), args := #[Operand.tmp 31, Operand.tmp 32], argTypes := #[26, 26] }, type := 4, pos := "law.go:182", after := #[{ on := 13, ground := Ground.data }, { on := 14, ground := Ground.data }, { on := 12, ground := Ground.chain }, { on := 12, ground := Ground.guard }], guard := some (12, true) }) rfl (fun K hK => ?_) AllReadyH.nil
        go_simp
        go_at_call 6; refine (HAC.out _ HB2.out).mono ?_; rintro e x3 ⟨rfl, hb⟩; have HB3 : Hid (Below wr.heap.size wr x3) := hb; have kS := HKP.out x3 HB3.out; clear hb
        go_wp2_with fail
        refine hK.out _ _ (by exact kS) (fun hHeld => ?_)
        clear hK K hHeld
        try simp only [Act.put, List.setIfInBounds_toArray, List.set_cons_zero, List.set_cons_succ]
        refine wpAnyH_take (i := 16) (oi := { dst := some 34, op := Op.unOp UnOp.not 4 (Operand.tmp 33), type := 4, pos := "law.go:182", after := #[{ on := 15, ground := Ground.data }, { on := 12, ground := Ground.guard }], guard := some (12, true) }) (v := ?_) rfl (by kernel_rfl) (by kernel_rfl) (by kernel_rfl) (fun _ _ _ h => h) (Or.inl ⟨by rfl, ?_⟩) (by exact kS) ?_
        rotate_left
        · intro w hSw; (try dsimp only at hSw); (go_simp <;> with_reducible rfl)
        try simp only [Act.put, List.setIfInBounds_toArray, List.set_cons_zero, List.set_cons_succ]
        refine wpAnyH_take (i := 17) (oi := { dst := some 35, op := Op.pick (Operand.tmp 30) (Operand.tmp 34) (Operand.const (Value.bool false)), type := 4, pos := "law.go:182", after := #[{ on := 12, ground := Ground.data }, { on := 16, ground := Ground.data }, { on := 5, ground := Ground.guard }], guard := some (5, true) }) (v := ?_) rfl (by kernel_rfl) (by kernel_rfl) (by kernel_rfl) (fun _ _ _ h => h) (Or.inl ⟨by rfl, ?_⟩) (by exact kS) ?_
        rotate_left
        · intro w hSw; (try dsimp only at hSw); (go_simp <;> with_reducible rfl)
        try simp only [Act.put, List.setIfInBounds_toArray, List.set_cons_zero, List.set_cons_succ]
        refine wpAnyH_take (i := 18) (oi := { dst := some 36, op := Op.unOp UnOp.not 4 (Operand.tmp 35), type := 4, pos := "law.go:182", after := #[{ on := 17, ground := Ground.data }, { on := 5, ground := Ground.guard }], guard := some (5, true) }) (v := ?_) rfl (by kernel_rfl) (by kernel_rfl) (by kernel_rfl) (fun _ _ _ h => h) (Or.inl ⟨by rfl, ?_⟩) (by exact kS) ?_
        rotate_left
        · intro w hSw; (try dsimp only at hSw); (go_simp <;> with_reducible rfl)
        try simp only [Act.put, List.setIfInBounds_toArray, List.set_cons_zero, List.set_cons_succ]
        refine wpAnyH_take (i := 19) (oi := { dst := some 37, op := Op.pick (Operand.tmp 23) (Operand.tmp 36) (Operand.const (Value.bool false)), type := 4, pos := "law.go:182", after := #[{ on := 5, ground := Ground.data }, { on := 18, ground := Ground.data }], guard := none }) (v := ?_) rfl (by kernel_rfl) (by kernel_rfl) (by kernel_rfl) (fun _ _ _ h => h) (Or.inl ⟨by rfl, ?_⟩) (by exact kS) ?_
        rotate_left
        · intro w hSw; (try dsimp only at hSw); (go_simp <;> with_reducible rfl)
        try simp only [Act.put, List.setIfInBounds_toArray, List.set_cons_zero, List.set_cons_succ]
        refine wpAnyH_take (i := 20) (oi := { dst := some 38, op := Op.move (Operand.tmp 37), type := 4, pos := "law.go:182", after := #[{ on := 19, ground := Ground.data }, { on := 15, ground := Ground.chain }], guard := none }) (v := ?_) rfl (by kernel_rfl) (by kernel_rfl) (by kernel_rfl) (fun _ _ _ h => h) (Or.inl ⟨by rfl, ?_⟩) (by exact kS) ?_
        rotate_left
        · intro w hSw; (try dsimp only at hSw); (go_simp <;> with_reducible rfl)
        try simp only [Act.put, List.setIfInBounds_toArray, List.set_cons_zero, List.set_cons_succ]
        refine wpAnyH_take (i := 21) (oi := { dst := some 39, op := Op.move (Operand.tmp 7), type := 4, pos := "law.go:182", after := #[{ on := 20, ground := Ground.guard }], guard := some (20, true) }) (v := ?_) rfl (by kernel_rfl) (by kernel_rfl) (by kernel_rfl) (fun _ _ _ h => h) (Or.inl ⟨by rfl, ?_⟩) (by exact kS) ?_
        rotate_left
        · intro w hSw; (try dsimp only at hSw); (go_simp <;> with_reducible rfl)
        try simp only [Act.put, List.setIfInBounds_toArray, List.set_cons_zero, List.set_cons_succ]
        refine wpAnyH_take (i := 22) (oi := { dst := some 40, op := Op.unOp UnOp.not 4 (Operand.tmp 39), type := 4, pos := "law.go:182", after := #[{ on := 21, ground := Ground.data }, { on := 20, ground := Ground.guard }], guard := some (20, true) }) (v := ?_) rfl (by kernel_rfl) (by kernel_rfl) (by kernel_rfl) (fun _ _ _ h => h) (Or.inl ⟨by rfl, ?_⟩) (by exact kS) ?_
        rotate_left
        · intro w hSw; (try dsimp only at hSw); (go_simp <;> with_reducible rfl)
        try simp only [Act.put, List.setIfInBounds_toArray, List.set_cons_zero, List.set_cons_succ]
        refine wpAnyH_take (i := 23) (oi := { dst := some 41, op := Op.move (Operand.tmp 40), type := 4, pos := "law.go:182", after := #[{ on := 22, ground := Ground.data }, { on := 20, ground := Ground.chain }, { on := 20, ground := Ground.guard }], guard := some (20, true) }) (v := ?_) rfl (by kernel_rfl) (by kernel_rfl) (by kernel_rfl) (fun _ _ _ h => h) (Or.inl ⟨by rfl, ?_⟩) (by exact kS) ?_
        rotate_left
        · intro w hSw; (try dsimp only at hSw); (go_simp <;> with_reducible rfl)
        try simp only [Act.put, List.setIfInBounds_toArray, List.set_cons_zero, List.set_cons_succ]
        refine wpAnyH_take (i := 24) (oi := { dst := some 42, op := Op.load 26 (Operand.tmp 3), type := 26, pos := "law.go:182", after := #[{ on := 23, ground := Ground.guard }], guard := some (23, false) }) (v := ?_) rfl (by kernel_rfl) (by kernel_rfl) (by kernel_rfl) (fun _ _ _ h => h) (Or.inl ⟨by rfl, ?_⟩) (by exact kS) ?_
        rotate_left
        · intro w hSw; (try dsimp only at hSw); (go_simp <;> with_reducible rfl)
        try simp only [Act.put, List.setIfInBounds_toArray, List.set_cons_zero, List.set_cons_succ]
        refine wpAnyH_take (i := 26) (oi := { dst := some 44, op := Op.load 26 (Operand.tmp 4), type := 26, pos := "law.go:182", after := #[{ on := 23, ground := Ground.guard }], guard := some (23, false) }) (v := ?_) rfl (by kernel_rfl) (by kernel_rfl) (by kernel_rfl) (fun _ _ _ h => h) (Or.inl ⟨by rfl, ?_⟩) (by exact kS) ?_
        rotate_left
        · intro w hSw; (try dsimp only at hSw); (go_simp <;> with_reducible rfl)
        try simp only [Act.put, List.setIfInBounds_toArray, List.set_cons_zero, List.set_cons_succ]
        refine wpAnyH_ready (rs := [25]) (by kernel_rfl) (by simp) ?_
        refine AllReadyH.cons (o := { dst := some 43, op := Op.call { callee := Callee.value (Operand.func 7), args := #[Operand.tmp 42], argTypes := #[26] }, type := 9, pos := "law.go:182", after := #[{ on := 24, ground := Ground.data }, { on := 23, ground := Ground.chain }, { on := 23, ground := Ground.guard }], guard := some (23, false) }) rfl (fun K hK => ?_) AllReadyH.nil
        go_simp
        go_at_call 7; refine (HT1.out _ HB3.out).mono ?_; rintro e x4 ⟨rfl, hb⟩; have HB4 : Hid (Below wr.heap.size wr x4) := hb; have kS := HKP.out x4 HB4.out; clear hb
        go_wp2_with fail
        refine hK.out _ _ (by exact kS) (fun hHeld => ?_)
        clear hK K hHeld
        try simp only [Act.put, List.setIfInBounds_toArray, List.set_cons_zero, List.set_cons_succ]
        refine wpAnyH_ready (rs := [27]) (by kernel_rfl) (by simp) ?_
        refine AllReadyH.cons (o := { dst := some 45, op := Op.call { callee := Callee.value (Operand.func 7), args := #[Operand.tmp 44], argTypes := #[26] }, type := 9, pos := "law.go:182", after := #[{ on := 26, ground := Ground.data }, { on := 25, ground := Ground.chain }, { on := 23, ground := Ground.guard }], guard := some (23, false) }) rfl (fun K hK => ?_) AllReadyH.nil
        go_simp
        go_at_call 7; refine (HT2.out _ HB4.out).mono ?_; rintro e x5 ⟨rfl, hb⟩; have HB5 : Hid (Below wr.heap.size wr x5) := hb; have kS := HKP.out x5 HB5.out; clear hb
        go_wp2_with fail
        refine hK.out _ _ (by exact kS) (fun hHeld => ?_)
        clear hK K hHeld
        try simp only [Act.put, List.setIfInBounds_toArray, List.set_cons_zero, List.set_cons_succ]
        refine wpAnyH_take (i := 28) (oi := { dst := some 46, op := Op.binOp BinOp.eql 9 (Operand.tmp 43) (Operand.tmp 45) 9, type := 4, pos := "law.go:182", after := #[{ on := 25, ground := Ground.data }, { on := 27, ground := Ground.data }, { on := 23, ground := Ground.guard }], guard := some (23, false) }) (v := ?_) rfl (by kernel_rfl) (by kernel_rfl) (by kernel_rfl) (fun _ _ _ h => h) (Or.inl ⟨by rfl, ?_⟩) (by exact kS) ?_
        rotate_left
        · intro w hSw; (try dsimp only at hSw); (go_simp <;> with_reducible rfl)
        try simp only [Act.put, List.setIfInBounds_toArray, List.set_cons_zero, List.set_cons_succ]
        refine wpAnyH_take (i := 29) (oi := { dst := some 47, op := Op.pick (Operand.tmp 41) (Operand.const (Value.bool true)) (Operand.tmp 46), type := 4, pos := "law.go:182", after := #[{ on := 23, ground := Ground.data }, { on := 28, ground := Ground.data }, { on := 20, ground := Ground.guard }], guard := some (20, true) }) (v := ?_) rfl (by kernel_rfl) (by kernel_rfl) (by kernel_rfl) (fun _ _ _ h => h) (Or.inl ⟨by rfl, ?_⟩) (by exact kS) ?_
        rotate_left
        · intro w hSw; (try dsimp only at hSw); (go_simp <;> with_reducible rfl)
        try simp only [Act.put, List.setIfInBounds_toArray, List.set_cons_zero, List.set_cons_succ]
        refine wpAnyH_take (i := 30) (oi := { dst := some 48, op := Op.pick (Operand.tmp 38) (Operand.tmp 47) (Operand.const (Value.bool false)), type := 4, pos := "law.go:182", after := #[{ on := 20, ground := Ground.data }, { on := 29, ground := Ground.data }], guard := none }) (v := ?_) rfl (by kernel_rfl) (by kernel_rfl) (by kernel_rfl) (fun _ _ _ h => h) (Or.inl ⟨by rfl, ?_⟩) (by exact kS) ?_
        rotate_left
        · intro w hSw; (try dsimp only at hSw); (go_simp <;> with_reducible rfl)
        try simp only [Act.put, List.setIfInBounds_toArray, List.set_cons_zero, List.set_cons_succ]
        refine wpAnyH_take (i := 31) (oi := { dst := some 49, op := Op.move (Operand.tmp 48), type := 4, pos := "law.go:182", after := #[{ on := 30, ground := Ground.data }, { on := 27, ground := Ground.chain }], guard := none }) (v := ?_) rfl (by kernel_rfl) (by kernel_rfl) (by kernel_rfl) (fun _ _ _ h => h) (Or.inl ⟨by rfl, ?_⟩) (by exact kS) ?_
        rotate_left
        · intro w hSw; (try dsimp only at hSw); (go_simp <;> with_reducible rfl)
        try simp only [Act.put, List.setIfInBounds_toArray, List.set_cons_zero, List.set_cons_succ]
        refine wpAnyH_take (i := 32) (oi := { dst := some 50, op := Op.load 26 (Operand.tmp 3), type := 26, pos := "law.go:182", after := #[{ on := 31, ground := Ground.guard }], guard := some (31, true) }) (v := ?_) rfl (by kernel_rfl) (by kernel_rfl) (by kernel_rfl) (fun _ _ _ h => h) (Or.inl ⟨by rfl, ?_⟩) (by exact kS) ?_
        rotate_left
        · intro w hSw; (try dsimp only at hSw); (go_simp <;> with_reducible rfl)
        try simp only [Act.put, List.setIfInBounds_toArray, List.set_cons_zero, List.set_cons_succ]
        refine wpAnyH_take (i := 34) (oi := { dst := some 52, op := Op.load 26 (Operand.tmp 3), type := 26, pos := "law.go:182", after := #[{ on := 31, ground := Ground.guard }], guard := some (31, true) }) (v := ?_) rfl (by kernel_rfl) (by kernel_rfl) (by kernel_rfl) (fun _ _ _ h => h) (Or.inl ⟨by rfl, ?_⟩) (by exact kS) ?_
        rotate_left
        · intro w hSw; (try dsimp only at hSw); (go_simp <;> with_reducible rfl)
        try simp only [Act.put, List.setIfInBounds_toArray, List.set_cons_zero, List.set_cons_succ]
        refine wpAnyH_ready (rs := [33]) (by kernel_rfl) (by simp) ?_
        refine AllReadyH.cons (o := { dst := some 51, op := Op.call { callee := Callee.value (Operand.func 9), args := #[Operand.tmp 50, Operand.const (Value.slice none 0 0)], argTypes := #[26, 24] }, type := 26, pos := "law.go:182", after := #[{ on := 32, ground := Ground.data }, { on := 31, ground := Ground.chain }, { on := 31, ground := Ground.guard }], guard := some (31, true) }) rfl (fun K hK => ?_) AllReadyH.nil
        go_simp
        go_at_call 9; refine (HSB.out _ HB5.out).mono ?_; rintro e x6 ⟨bn, en, bm, em, bk, ek, rfl, hq, hb⟩; have HB6 : Hid (Below wr.heap.size wr x6) := hb; have HQ : Hid (Prt (fun _ => True) x6 (.mk k1 nm1 n1 f1 ns1 ms1 ks1) (.slice bn ln1 en) (.slice bm lm1 em) (.slice bk lk1 ek)) := hq; have kS := HKP.out x6 HB6.out; clear hq hb
        go_wp2_with fail
        refine hK.out _ _ (by exact kS) (fun hHeld => ?_)
        clear hK K hHeld
        try simp only [Act.put, List.setIfInBounds_toArray, List.set_cons_zero, List.set_cons_succ]
        refine wpAnyH_ready (rs := [35]) (by kernel_rfl) (by simp) ?_
        refine AllReadyH.cons (o := { dst := some 53, op := Op.call { callee := Callee.value (Operand.func 8), args := #[Operand.tmp 51, Operand.tmp 52], argTypes := #[26, 26] }, type := 4, pos := "law.go:182", after := #[{ on := 33, ground := Ground.data }, { on := 34, ground := Ground.data }, { on := 33, ground := Ground.chain }, { on := 31, ground := Ground.guard }], guard := some (31, true) }) rfl (fun K hK => ?_) AllReadyH.nil
        go_simp
        go_at_call 8; refine (HTY.out _ _ _ _ _ _ _ HB6.out HQ.out).mono ?_; rintro e x7 ⟨rfl, hb⟩; have HB7 : Hid (Below wr.heap.size wr x7) := hb; have kS := HKP.out x7 HB7.out; clear hb
        go_wp2_with fail
        refine hK.out _ _ (by exact kS) (fun hHeld => ?_)
        clear hK K hHeld
        try simp only [Act.put, List.setIfInBounds_toArray, List.set_cons_zero, List.set_cons_succ]
        refine wpAnyH_take (i := 36) (oi := { dst := some 54, op := Op.pick (Operand.tmp 49) (Operand.tmp 53) (Operand.const (Value.bool false)), type := 4, pos := "law.go:182", after := #[{ on := 31, ground := Ground.data }, { on := 35, ground := Ground.data }], guard := none }) (v := ?_) rfl (by kernel_rfl) (by kernel_rfl) (by kernel_rfl) (fun _ _ _ h => h) (Or.inl ⟨by rfl, ?_⟩) (by exact kS) ?_
        rotate_left
        · intro w hSw; (try dsimp only at hSw); (go_simp <;> with_reducible rfl)
        try simp only [Act.put, List.setIfInBounds_toArray, List.set_cons_zero, List.set_cons_succ]
        refine wpAnyH_take (i := 37) (oi := { dst := some 55, op := Op.move (Operand.tmp 54), type := 4, pos := "law.go:182", after := #[{ on := 36, ground := Ground.data }, { on := 35, ground := Ground.chain }], guard := none }) (v := ?_) rfl (by kernel_rfl) (by kernel_rfl) (by kernel_rfl) (fun _ _ _ h => h) (Or.inl ⟨by rfl, ?_⟩) (by exact kS) ?_
        rotate_left
        · intro w hSw; (try dsimp only at hSw); (go_simp <;> with_reducible rfl)
        try simp only [Act.put, List.setIfInBounds_toArray, List.set_cons_zero, List.set_cons_succ]
        refine wpAnyH_ready (rs := [38]) (by kernel_rfl) (by simp) ?_
        refine AllReadyH.cons (o := { dst := some 56, op := Op.call { callee := Callee.value (Operand.func 5), args := #[], argTypes := #[] }, type := 4, pos := "law.go:182", after := #[{ on := 37, ground := Ground.chain }, { on := 37, ground := Ground.guard }], guard := some (37, true) }) rfl (fun K hK => ?_) AllReadyH.nil
        go_simp
        go_at_call 5; refine (HAW.out _ HB7.out).mono ?_; rintro e x8 ⟨rfl, hb⟩; have HB8 : Hid (Below wr.heap.size wr x8) := hb; have kS := HKP.out x8 HB8.out; clear hb
        go_wp2_with fail
        refine hK.out _ _ (by exact kS) (fun hHeld => ?_)
        clear hK K hHeld
        try simp only [Act.put, List.setIfInBounds_toArray, List.set_cons_zero, List.set_cons_succ]
        refine wpAnyH_take (i := 39) (oi := { dst := some 57, op := Op.pick (Operand.tmp 55) (Operand.tmp 56) (Operand.const (Value.bool false)), type := 4, pos := "law.go:182", after := #[{ on := 37, ground := Ground.data }, { on := 38, ground := Ground.data }], guard := none }) (v := ?_) rfl (by kernel_rfl) (by kernel_rfl) (by kernel_rfl) (fun _ _ _ h => h) (Or.inl ⟨by rfl, ?_⟩) (by exact kS) ?_
        rotate_left
        · intro w hSw; (try dsimp only at hSw); (go_simp <;> with_reducible rfl)
        try simp only [Act.put, List.setIfInBounds_toArray, List.set_cons_zero, List.set_cons_succ]
        refine wpAnyH_take (i := 40) (oi := { dst := some 6, op := Op.assign (Operand.tmp 57), type := 4, pos := "law.go:182", after := #[{ on := 39, ground := Ground.data }, { on := 38, ground := Ground.chain }, { on := 0, ground := Ground.phase }, { on := 1, ground := Ground.phase }, { on := 2, ground := Ground.phase }, { on := 3, ground := Ground.phase }, { on := 4, ground := Ground.phase }, { on := 5, ground := Ground.phase }, { on := 6, ground := Ground.phase }, { on := 7, ground := Ground.phase }, { on := 8, ground := Ground.phase }, { on := 9, ground := Ground.phase }, { on := 10, ground := Ground.phase }, { on := 11, ground := Ground.phase }, { on := 12, ground := Ground.phase }, { on := 13, ground := Ground.phase }, { on := 14, ground := Ground.phase }, { on := 15, ground := Ground.phase }, { on := 16, ground := Ground.phase }, { on := 17, ground := Ground.phase }, { on := 18, ground := Ground.phase }, { on := 19, ground := Ground.phase }, { on := 20, ground := Ground.phase }, { on := 21, ground := Ground.phase }, { on := 22, ground := Ground.phase }, { on := 23, ground := Ground.phase }, { on := 24, ground := Ground.phase }, { on := 25, ground := Ground.phase }, { on := 26, ground := Ground.phase }, { on := 27, ground := Ground.phase }, { on := 28, ground := Ground.phase }, { on := 29, ground := Ground.phase }, { on := 30, ground := Ground.phase }, { on := 31, ground := Ground.phase }, { on := 32, ground := Ground.phase }, { on := 33, ground := Ground.phase }, { on := 34, ground := Ground.phase }, { on := 35, ground := Ground.phase }, { on := 36, ground := Ground.phase }, { on := 37, ground := Ground.phase }, { on := 38, ground := Ground.phase }, { on := 39, ground := Ground.phase }], guard := none }) (v := ?_) rfl (by kernel_rfl) (by kernel_rfl) (by kernel_rfl) (fun _ _ _ h => h) (Or.inl ⟨by rfl, ?_⟩) (by exact kS) ?_
        rotate_left
        · intro w hSw; (try dsimp only at hSw); (go_simp <;> with_reducible rfl)
        try simp only [Act.put, List.setIfInBounds_toArray, List.set_cons_zero, List.set_cons_succ]
        refine wpAnyH_done (by kernel_rfl) ?_ _
        go_wp2_with fail
        go_ret
        exact ⟨rfl, bthen HB9.out HB8.out⟩
end Go.Proofs.Ytifcikhgbafegab

/-
  TypesLaws holds up to the given bulk: for every three types that hold together at most 1,048,576 values and letters, the Go function recastlaw8.TypesLaws of the landed commit returns true, changes nothing that was handed in, and neither panics nor runs on: being identical may be turned round and goes on from one type to the next, identical types have one text, and types.Subst without arguments gives a type as it was.
  Conditions: what comes in is of bulk at most 1,048,576.
-/
namespace Go.Proofs.Ytifcikhgbafegab.typesLaws
open Go.ChangeShapes Go.WideShapes Go.ChangeAt Go.RowKit

theorem own : ownKnob Try.prog.godebug = none := by kernel_rfl
theorem laidOut : laidOutB Try.prog = true := by kernel_rfl

set_option maxRecDepth 100000 in
theorem contract (H : Type) (enc : TypeId × Value → H) (W : World) (base : Nat) (args : Array Value) (ds gs : List (DataW H)) (before : List MemPlace)
    (hval : ∀ (j : Nat) t v, Try.f3.params[j]? = some t → args[j]? = some v → Value.okWide Try.prog W .any base t v)
    (hW : DataW.Whole enc Try.prog Try.f3.params.toList Rows.typesLawsSpec.vars false W args.toList ds gs before) (hk : Rows.uptoSmall H (ds ++ gs) = true) :
    Calls Try.prog 3 args W fun e W' => ∃ v, e = .returned v ∧ Rows.typesLawsSpec.post enc Try.prog Try.f3 false true false false W args v W' := by
  have hW' := hW
  obtain ⟨p, q, hA0, hV, rfl, hfz, hnd⟩ := hW
  have hA : DataW.TrodAll enc Try.prog W 0 (fun _ => true) true Try.f3.params.toList args.toList ds p := hA0
  rw [Try.params3] at hA hval
  obtain ⟨v0, vs0, d0, ds0, p0, q0, hargs, rfl, rfl, h0, r0⟩ := trodAll_cons hA
  obtain ⟨v1, vs1, d1, ds1, p1, q1, rfl, rfl, rfl, h1, r1⟩ := trodAll_cons r0
  obtain ⟨v2, vs2, d2, ds2, p2, q2, rfl, rfl, rfl, h2, r2⟩ := trodAll_cons r1
  obtain ⟨rfl, rfl, rfl⟩ := trodAll_nil r2
  obtain rfl : args = #[v0, v1, v2] := by cases args; simp_all
  obtain ⟨rfl, rfl⟩ := trodVars_none hV
  obtain ⟨t1, vn1, vm1, vk1, rfl, hp1, hw1, hf1⟩ := openV_type (hval 0 26 v0 rfl rfl) h0
  obtain ⟨t2, vn2, vm2, vk2, rfl, hp2, hw2, -⟩ := openV_type (hval 1 26 v1 rfl rfl) h1
  obtain ⟨t3, vn3, vm3, vk3, rfl, hp3, -, -⟩ := openV_type (hval 2 26 v2 rfl rfl) h2
  clear hA0
  simp only [List.append_nil] at hW' hk
  have hb : Rows.uptoBulkAll [d0, d1, d2] ≤ 1048576 := of_decide_eq_true hk
  simp only [Rows.uptoBulkAll] at hb
  have hlt0 : ∀ x ∈ p0, x.block < W.heap.size := fun x hx => hW'.lt x (by simp [hx])
  have hlt1 : ∀ x ∈ p1, x.block < W.heap.size := fun x hx => hW'.lt x (by simp [hx])
  have hlt2 : ∀ x ∈ p2, x.block < W.heap.size := fun x hx => hW'.lt x (by simp [hx])
  refine (typesLaws_any hp1 hp2 hp3 (by omega) (by omega) (hf1 (by omega))).mono fun e W' ⟨he, hg⟩ => ?_
  subst he
  exact ⟨_, rfl, _, _, _, [], p0 ++ (p1 ++ (p2 ++ [])), [], hW', trodAll_cons_mk (shut_bool Try.underlying4 _) trodAll_mk0, trodAll_cons_mk (Below.trod laidOut (by kernel_rfl) (of_decide_eq_true (by kernel_rfl)) h0 hg hlt0) (trodAll_cons_mk (Below.trod laidOut (by kernel_rfl) (of_decide_eq_true (by kernel_rfl)) h1 hg hlt1) (trodAll_cons_mk (Below.trod laidOut (by kernel_rfl) (of_decide_eq_true (by kernel_rfl)) h2 hg hlt2) trodAll_mk0)), rfl, hg.frame _, fun h => by cases h⟩

set_option maxRecDepth 100000 in
theorem lifted (os : Os) (started : os.Started) (H : Type) (enc : TypeId × Value → H) (F : Stop.Interp) :
    ReturnsInHanded {} Try.checked os 3 .any ((Rows.OpenSpec.upto Rows.typesLawsSpec).pre6 enc Try.prog Try.f3 Rows.typesLawsUptoRow.domain false) (((Rows.OpenSpec.upto Rows.typesLawsSpec).at F).post enc Try.prog Try.f3 false true false false) := by
  refine returnsInHanded_of_cond (C := Try.checked) (s := Rows.OpenSpec.upto Rows.typesLawsSpec) (k := Rows.uptoSmall) rfl own started (by kernel_rfl) Try.func3
    (OpenSpec.witness (enc := enc) (C := Try.checked) (s := Rows.OpenSpec.upto Rows.typesLawsSpec) (k := Rows.uptoSmall) rfl false ⟨#[], #[.agg #[.int .i64 0, .string ByteArray.empty, .int .i64 0, .bool false, .slice none 0 0, .slice none 0 0, .slice none 0 0], .agg #[.int .i64 0, .string ByteArray.empty, .int .i64 0, .bool false, .slice none 0 0, .slice none 0 0, .slice none 0 0], .agg #[.int .i64 0, .string ByteArray.empty, .int .i64 0, .bool false, .slice none 0 0, .slice none 0 0, .slice none 0 0]], []⟩ 8 (by kernel_rfl) (by kernel_rfl) (by kernel_rfl)
      (x := ([.agg [.lit (.int .i64 0), .lit (.string []), .lit (.int .i64 0), .lit (.bool false), .nil, .nil, .nil], .agg [.lit (.int .i64 0), .lit (.string []), .lit (.int .i64 0), .lit (.bool false), .nil, .nil, .nil], .agg [.lit (.int .i64 0), .lit (.string []), .lit (.int .i64 0), .lit (.bool false), .nil, .nil, .nil]], [], [])) (by kernel_rfl) rfl (by kernel_rfl)) ?_
  intro W base args ds gs before hval hW _ hk _
  exact contract H enc W base args ds gs before hval hW hk

theorem proved : Rows.TypesLawsUptoSaid :=
  OpenClaim.holds_of_cond 3 Try.f3 rfl rfl rfl rfl rfl rfl rfl ⟨rfl, rfl, rfl, rfl, rfl⟩ rfl rfl rfl rfl rfl (by kernel_rfl) Try.func3 (by kernel_rfl)
    (of_decide_eq_true (by kernel_rfl)) (by unfold Func.isWrapper; first | (rw [if_pos (by decide +kernel)]; kernel_rfl) | (rw [if_neg (by decide +kernel)]; exact ⟨rfl, rfl⟩))
    (fun os started H enc _ F => lifted os started H enc F)
end Go.Proofs.Ytifcikhgbafegab.typesLaws
namespace Go.Proofs.Ytifcikhgbafegab
theorem typesLaws_holds : Rows.TypesLawsUptoSaid := typesLaws.proved
#print axioms typesLaws_holds
end Go.Proofs.Ytifcikhgbafegab

