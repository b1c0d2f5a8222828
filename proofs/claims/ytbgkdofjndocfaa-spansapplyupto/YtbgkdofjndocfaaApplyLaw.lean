/-
  The law SpansApply, of any files and edits that are not too great.
-/
import Derived.Test.YtbgkdofjndocfaaRefApply
namespace Go.Proofs.Ytbgkdofjndocfaa
open Go.RowKit Go.Maps
attribute [local go_sem ↓] Go.wp_at_zero Go.wp_at_succ
set_option maxRecDepth 100000 in
set_option maxHeartbeats 4000000 in
theorem applyLaw_any (vf vl : Value) (fs : List Fi) (l : List Ed) (w : World) (hF : FiArg w vf fs) (hE : EdArg w vl l) (hl1 : l.length ≤ 1048576) (hf1 : fs.length ≤ 1048576)
    (hsz : ∀ j, j < fs.length → (fs.getD j default).1.size ≤ 1048576 ∧ (fs.getD j default).2.size ≤ 1048576) (hesz : ∀ x ∈ l, x.1.size ≤ 1048576 ∧ x.2.2.2.size ≤ 1048576) :
    Calls Try.prog 4 #[vf, vl] w fun e w' => e = .returned (.bool true) ∧ Below w.heap.size w w' := by
  have h11 := fits_arg vf fs w hF (by omega) fun j hj => by have := hsz j hj; omega
  have HF : Hid (FiArg w vf fs) := hF
  have HE : Hid (EdArg w vl l) := hE
  have HSZ : Hid (∀ j, j < fs.length → (fs.getD j default).1.size ≤ 1048576 ∧ (fs.getD j default).2.size ≤ 1048576) := hsz
  have HESZ : Hid (∀ x ∈ l, x.1.size ≤ 1048576 ∧ x.2.2.2.size ≤ 1048576) := hesz
  clear hF hE hsz hesz
  go_enter Try.func4, Try.ntmps4
  go_wp2_with fail
  refine h11.mono ?_
  rintro e w1 ⟨fb, rfl, hfb, q, rfl⟩
  clear h11
  have hb0 : Below w.heap.size w (w.drewN q) := below_drewN (Below.refl _ _) q
  have hE1 := HE.out.below hb0
  have hF1 := HF.out.below hb0
  generalize hW : w.drewN q = W at *
  have hz : w.heap.size ≤ W.heap.size := hb0.size
  have HB0 : Hid (Below w.heap.size w W) := hb0
  clear hW hb0
  cases fb
  · go_wp2_with fail
    refine (awake_any _).mono ?_
    rintro e w2 ⟨rfl, hb2⟩
    go_wp2
    go_ret
    exact ⟨rfl, HB0.out.trans (hb2.mono hz)⟩
  obtain ⟨hn6, _⟩ := hfb rfl
  clear hfb
  have h6 := much_any vl l W (by omega) hE1
  go_wp2_with fail
  refine h6.mono ?_
  rintro e w1 ⟨q1, rfl, mb, rfl⟩
  clear h6
  have hb1 : Below W.heap.size W (W.drewN q1) := below_drewN (Below.refl _ _) q1
  have hE2 := hE1.below hb1
  have hF2 := hF1.below hb1
  have HB1 : Hid (Below w.heap.size w (W.drewN q1)) := HB0.out.trans (hb1.mono hz)
  have hz1 : w.heap.size ≤ (W.drewN q1).heap.size := HB1.out.size
  clear hE1 hF1 hb1
  generalize W.drewN q1 = W1 at *
  cases mb
  · have h14 := applyAll_any vf vl fs l W1 hF2 hE2 (by omega) hl1 HSZ.out HESZ.out
    go_wp2_with fail
    refine h14.mono ?_
    intro e w2 hp
    clear h14
    obtain ⟨va, ca, he⟩ : ∃ v c, e = .returned (.tuple #[v, .int .i64 c]) := by
      rcases hp.2 with ⟨out, v, _, _, _, rfl, _⟩ | ⟨_, rfl⟩
      · exact ⟨_, _, rfl⟩
      · exact ⟨_, _, rfl⟩
    subst he
    have hs2 := hp.1.size
    have hE3 := hE2.below hp.1
    have hF3 := hF2.below hp.1
    have HP1 : Hid (ApPost fs l W1 (.returned (.tuple #[va, .int .i64 ca])) w2) := hp
    have h15 := rapply_any vf vl fs l w2 hF3 hE3 (by omega) hl1 HSZ.out HESZ.out
    clear hp hE2 hF2 hE3 hF3
    go_wp2_with fail
    refine h15.mono ?_
    intro f w3 hp2
    clear h15
    have hs3 := hp2.1.size
    have HBW : Hid (Below w.heap.size w w3) := (HB1.out.trans (HP1.out.1.mono hz1)).trans (hp2.1.mono (by omega))
    obtain ⟨vb, hf, h16⟩ : ∃ vb, f = .returned (.tuple #[vb, .int .i64 ca]) ∧ Calls Try.prog 16 #[va, vb] w3 fun e w6 => e = .returned (.bool true) ∧ ∃ q, w6 = w3.drewN q := by
      rcases ap_same (fun _ => Iff.rfl) HP1.out hp2 with ⟨out, v, v', he, rfl, hr, hr2⟩ | ⟨he, rfl⟩
      · injection he with he
        injection he with he
        simp at he
        obtain ⟨rfl, rfl⟩ := he
        exact ⟨v', rfl, files_rows (fs := fs.map (newF out)) (by omega) (own_below hr hp2.1) hr2⟩
      · injection he with he
        injection he with he
        simp at he
        obtain ⟨rfl, rfl⟩ := he
        exact ⟨_, rfl, (files_zero _ _ _ _ _).mono fun _ _ ⟨h1, h2⟩ => ⟨h1, 0, h2⟩⟩
    subst hf
    clear hp2
    go_wp2_with fail
    refine h16.mono ?_
    rintro e w6 ⟨rfl, q6, rfl⟩
    clear h16
    go_wp2_with fail
    refine (awake_any _).mono ?_
    rintro e w7 ⟨rfl, hb7⟩
    go_wp2
    go_ret
    exact ⟨rfl, (below_drewN HBW.out q6).trans (hb7.mono (by have := HBW.out.size; simp; omega))⟩
  · go_wp2_with fail
    refine (awake_any _).mono ?_
    rintro e w2 ⟨rfl, hb2⟩
    go_wp2
    go_ret
    exact ⟨rfl, HB1.out.trans (hb2.mono hz1)⟩
end Go.Proofs.Ytbgkdofjndocfaa
