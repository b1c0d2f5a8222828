/-
  Text of konst and of the document: what both answer.
-/
import Derived.Test.YtfkkhabpnnealaaGreatDoorKpG
import Derived.Test.YtfkkhabpnnealaaGreatDoorRefT
import Derived.Test.YtfkkhabpnnealaaGreatDoorQut
namespace Go.Proofs.YtfkkhabpnnealaaGreatDoor
open Go.RowKit
attribute [local go_sem ↓] Go.wp_at_zero Go.wp_at_succ
/-- the text of a constant -/
def TxT (k : Int) (s : Bool) (N : Nat) (t0 : ByteArray) (b : Bool) (t : ByteArray) : Prop :=
  (k = 1 ∧ decT s N t) ∨ (k = 2 ∧ t = bsL (quo t0.data.toList)) ∨ (k = 3 ∧ t = if b then ⟨#[116, 114, 117, 101]⟩ else ⟨#[102, 97, 108, 115, 101]⟩)
theorem TxT.uniq {k : Int} {s : Bool} {N : Nat} {t0 : ByteArray} {b : Bool} {t u : ByteArray} (h1 : TxT k s N t0 b t) (h2 : TxT k s N t0 b u) : t = u := by
  rcases h1 with ⟨rfl, h⟩ | ⟨rfl, h⟩ | ⟨rfl, h⟩
  · rcases h2 with ⟨_, g⟩ | ⟨e, _⟩ | ⟨e, _⟩
    · obtain ⟨D, fd, hv, hu⟩ := g
      rw [decT_uniq h fd hv, hu]
    · omega
    · omega
  · rcases h2 with ⟨e, _⟩ | ⟨_, g⟩ | ⟨e, _⟩
    · omega
    · rw [h, g]
    · omega
  · rcases h2 with ⟨e, _⟩ | ⟨e, _⟩ | ⟨_, g⟩
    · omega
    · omega
    · rw [h, g]
set_option maxRecDepth 100000 in
set_option maxHeartbeats 2000000 in
theorem ktext_2 (s : Bool) (ao : Option Addr) (n cap : Nat) (t : ByteArray) (b : Bool) (w : World) (ht : t.size ≤ 65536) :
    Calls Tryz.prog 11 #[cnV 2 s ao n cap t b] w fun e w' => e = .returned (.string (bsL (quo t.data.toList))) ∧ Below w.heap.size w w' := by
  obtain ⟨u, hu⟩ : ∃ u, bsL (quo t.data.toList) = u := ⟨_, rfl⟩
  have HT : Hid (∀ W, Calls Tryz.prog 31 #[.string t] W fun e w' => e = .returned (.string u) ∧ Below W.heap.size W w') := fun W => hu ▸ quote_any t W ht
  rw [hu]
  clear hu ht
  have h1 : Below w.heap.size w (w.alloc (.cells #[.int .i64 2, .bool s, .slice ao n cap, .string t, .bool b] 26)) := (Below.refl _ w).alloc (Nat.le_refl _) _
  have H1 : Hid (Below w.heap.size w (w.alloc (.cells #[.int .i64 2, .bool s, .slice ao n cap, .string t, .bool b] 26))) := h1
  clear h1
  go_enter Tryz.func11, Tryz.ntmps11
  go_wp2_with (go_at_call 31; refine (HT.out _).mono ?_; rintro e x1 ⟨rfl, hb⟩; have HB : Hid (Below w.heap.size w x1) := H1.out.trans (hb.mono H1.out.size); clear hb)
  go_ret
  exact ⟨rfl, HB.out⟩
theorem ktext_any (k : Int) (hk : k = 1 ∨ k = 2 ∨ k = 3) (s : Bool) (ao : Option Addr) (n cap : Nat) (l : List Nat) (t : ByteArray) (b : Bool) (w : World) (hl : Sl w ao n cap l) (hn : n ≤ 40) (ht : t.size ≤ 65536) :
    Calls Tryz.prog 11 #[cnV k s ao n cap t b] w fun e w' => ∃ u, e = .returned (.string u) ∧ TxT k s (vl 4294967296 l) t b u ∧ Below w.heap.size w w' := by
  rcases hk with rfl | rfl | rfl
  · exact (ktext_1 s ao n cap l t b w hl (by omega)).mono fun e w' ⟨u, he, hd, hb⟩ => ⟨u, he, .inl ⟨rfl, hd⟩, hb⟩
  · exact (ktext_2 s ao n cap t b w ht).mono fun e w' ⟨he, hb⟩ => ⟨_, he, .inr (.inl ⟨rfl, rfl⟩), hb⟩
  · exact (ktext_3 s ao n cap t b w).mono fun e w' ⟨he, hb⟩ => ⟨_, he, .inr (.inr ⟨rfl, rfl⟩), hb⟩
set_option maxRecDepth 100000 in
set_option maxHeartbeats 2000000 in
theorem rtextc_any (k : Int) (hk : k = 1 ∨ k = 2 ∨ k = 3) (s : Bool) (ao : Option Addr) (n cap : Nat) (l : List Nat) (t : ByteArray) (b : Bool) (w : World) (hl : Sl w ao n cap l) (hz : ao = none → cap = 0) (hn : n ≤ 40) (ht : t.size ≤ 65536) :
    Calls Tryz.prog 12 #[cnV k s ao n cap t b] w fun e w' => ∃ u, e = .returned (.string u) ∧ TxT k s (vl 4294967296 l) t b u ∧ Below w.heap.size w w' := by
  have H1 : Hid (∀ o, Below w.heap.size w (w.alloc o)) := fun o => (Below.refl _ w).alloc (Nat.le_refl _) o
  rcases hk with rfl | rfl | rfl
  · have HT : Hid (∀ W, Below w.heap.size w W → Calls Tryz.prog 33 #[.agg #[.bool s, .slice ao n cap]] W fun e w' => ∃ t, e = .returned (.string t) ∧ decT s (vl 4294967296 l) t ∧ Below W.heap.size W w') := fun W hb => rtext_any s ao n cap l W (hl.below hb (Nat.le_refl _)) hz hn
    clear hl hz hn ht
    go_enter Tryz.func12, Tryz.ntmps12
    go_wp2_with fail
    refine (HT.out _ (H1.out _)).mono ?_
    rintro e x1 ⟨u, rfl, hd, hb⟩
    have HD : Hid (decT s (vl 4294967296 l) u) := hd
    have HB : Hid (Below w.heap.size w x1) := (H1.out _).trans (hb.mono (H1.out _).size)
    clear hd hb
    go_wp2_with fail
    go_ret
    exact ⟨u, rfl, .inl ⟨rfl, HD.out⟩, HB.out⟩
  · obtain ⟨u, hu⟩ : ∃ u, bsL (quo t.data.toList) = u := ⟨_, rfl⟩
    have HT : Hid (∀ W, Calls Tryz.prog 34 #[.string t] W fun e w' => e = .returned (.string u) ∧ Below W.heap.size W w') := fun W => hu ▸ rquote_any t W ht
    have HU : Hid (bsL (quo t.data.toList) = u) := hu
    clear hu hl hz hn ht
    go_enter Tryz.func12, Tryz.ntmps12
    go_wp2_with (go_at_call 34; refine (HT.out _).mono ?_; rintro e x1 ⟨rfl, hb⟩; have HB : Hid (Below w.heap.size w x1) := (H1.out _).trans (hb.mono (H1.out _).size); clear hb)
    go_ret
    exact ⟨u, rfl, .inr (.inl ⟨rfl, HU.out.symm⟩), HB.out⟩
  · clear hl hz hn ht
    cases b
    · go_enter Tryz.func12, Tryz.ntmps12
      go_wp2_with fail
      go_ret
      exact ⟨_, rfl, .inr (.inr ⟨rfl, rfl⟩), H1.out _⟩
    · go_enter Tryz.func12, Tryz.ntmps12
      go_wp2_with fail
      go_ret
      exact ⟨_, rfl, .inr (.inr ⟨rfl, rfl⟩), H1.out _⟩
end Go.Proofs.YtfkkhabpnnealaaGreatDoor

