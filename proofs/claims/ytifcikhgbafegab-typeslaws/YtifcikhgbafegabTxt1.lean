/-
  types.Text: the step, walked.
-/
import Derived.Test.YtifcikhgbafegabLay
namespace Go.Proofs.Ytifcikhgbafegab
open Go.RowKit
attribute [local go_sem ↓] Go.wp_at_zero Go.wp_at_succ
set_option maxRecDepth 100000 in
set_option maxHeartbeats 2000000 in
theorem text1_txt {base : Nat} {w : World} {Bb : Nat} {v : Value} {bs : List Value} (s : ByteArray) (h : Bd base w Bb v bs) (hlen : bs.length + s.size ≤ 140737488355328) (hbase : base ≤ w.heap.size) :
    Calls Try.prog 17 #[.agg #[.string s, .pointer none], pv ⟨Bb, 0, none⟩] w fun e w' => e = .returned (.tuple #[.slice none 0 0, .bool true]) ∧ (∃ v', Bd base w' Bb v' (bs ++ Lib.strCells s) ∧ ∀ k, v'.ownBlock = some k → v.ownBlock = some k ∨ w.heap.size ≤ k) ∧ Kx (fun c => c = Bb ∨ v.ownBlock = some c) w w' := by
  have hn := heap_new w (.cells #[.string s, .pointer none] 49)
  have c0 := cell_of hn 0
  have c1 := cell_of hn 1
  simp only [List.getElem?_toArray, List.getElem?_cons_zero, List.getElem?_cons_succ] at c0 c1
  have hB : Bb < w.heap.size := by rcases h.blk with hb | hb <;> exact (Array.getElem?_eq_some_iff.1 hb).1
  have hb1 : Bd base (w.alloc (.cells #[.string s, .pointer none] 49)) Bb v bs := ⟨h.blk.imp (blk_kept (below_alloc _ _)) (blk_kept (below_alloc _ _)), h.row.alloc _⟩
  have hws := wstr_any s hb1 hlen (by simp; omega)
  clear h hb1 hn
  go_enter Try.func17, Try.ntmps17
  go_wp2_with fail
  refine hws.mono ?_
  rintro e w2 ⟨⟨u, rfl⟩, ⟨v', hbd, hv'⟩, hkx⟩
  have HBD : Hid _ := hbd
  have HV : Hid (∀ k, v'.ownBlock = some k → v.ownBlock = some k ∨ (w.alloc (.cells #[.string s, .pointer none] 49)).heap.size ≤ k) := hv'
  have HKX : Hid _ := hkx
  clear hbd hv' hkx hws
  go_wp2_with fail
  go_ret2
  refine ⟨rfl, ⟨v', HBD.out, fun k hk => ?_⟩, ?_⟩
  · rcases HV.out k hk with h | h
    · exact .inl h
    · rw [World.size_alloc] at h; exact .inr (by omega)
  · exact (Kx.of_whole (X := fun c => c = Bb ∨ v.ownBlock = some c) (below_alloc w _)).trans HKX.out
set_option maxRecDepth 100000 in
set_option maxHeartbeats 2000000 in
theorem text1_typ {w : World} {Bb b o : Nat} {P : List ElQ} (hl : ∀ w1, Below w.heap.size w w1 → ∀ L, w.heap.size ≤ L → Ln w1 L none [] → Calls Try.prog 19 #[.pointer (some ⟨L, 0, none⟩), pv ⟨b, o, none⟩] w1 fun e w' => (∃ u, e = .returned u) ∧ LQ w1 L none P w') :
    Calls Try.prog 17 #[.agg #[.string ⟨#[]⟩, .pointer (some ⟨b, o, none⟩)], pv ⟨Bb, 0, none⟩] w fun e w' => ∃ a c, e = .returned (.tuple #[.slice a P.length c, .bool true]) ∧ w'.ownsRow 0 49 2 (.slice a P.length c) P.length (P.flatMap ecQ) ∧ (∀ k, (Value.slice a P.length c).ownBlock = some k → w.heap.size ≤ k) ∧ Below w.heap.size w w' := by
  have hn := heap_new w (.cells #[.string ⟨#[]⟩, .pointer (some ⟨b, o, none⟩)] 49)
  have hb2 : Below w.heap.size w ((w.alloc (.cells #[.string ⟨#[]⟩, .pointer (some ⟨b, o, none⟩)] 49)).alloc (.cells #[.slice none 0 0] 56)) := bthen (below_alloc _ _) (below_alloc _ _)
  have hL := heap_new2 w (.cells #[.string ⟨#[]⟩, .pointer (some ⟨b, o, none⟩)] 49) (.cells #[.slice none 0 0] 56)
  have hly := hl _ hb2 (w.heap.size + 1) (by omega) ⟨_, hL, World.ownsRow_nil _ _ _ _, rfl⟩
  have c0 := cell_of hn 0
  have c1 := cell_of hn 1
  simp only [List.getElem?_toArray, List.getElem?_cons_zero, List.getElem?_cons_succ] at c0 c1
  have HB2 : Hid (Below w.heap.size w ((w.alloc (.cells #[.string ⟨#[]⟩, .pointer (some ⟨b, o, none⟩)] 49)).alloc (.cells #[.slice none 0 0] 56))) := hb2
  clear hl hn hb2 hL
  go_enter Try.func17, Try.ntmps17
  go_wp2_with fail
  refine hly.mono ?_
  rintro e w2 ⟨⟨u, rfl⟩, hq⟩
  obtain ⟨rb', hln, hr⟩ := hq.ex
  obtain ⟨v, hb, hrow, rfl⟩ := hln.ex
  obtain ⟨va, vc, rfl⟩ : ∃ va vc, v = .slice va P.length vc := by
    rcases hrow.2 with ⟨rfl, h0⟩ | ⟨g, cap, cur, rfl, _⟩
    · rw [h0]; exact ⟨_, _, rfl⟩
    · exact ⟨_, _, rfl⟩
  have d0 := cell_of hb 0
  simp only [List.getElem?_toArray, List.getElem?_cons_zero] at d0
  have HROW : Hid (w2.ownsRow 0 49 2 (.slice va P.length vc) P.length (P.flatMap ecQ)) := hrow
  have HR : Hid _ := hr
  have HKX : Hid _ := hq.kx
  clear hq hln hb hrow hr hly
  go_wp2_with fail
  go_ret2
  refine ⟨va, vc, rfl, HROW.out, fun k hk => ?_, ?_⟩
  · rcases HR.out k hk with h | h
    · cases h
    · rw [World.size_alloc, World.size_alloc] at h; omega
  · exact HB2.out.trans (HKX.out.below HB2.out.size (fun b hb e => by rcases e with e | e; omega; cases e))
end Go.Proofs.Ytifcikhgbafegab

