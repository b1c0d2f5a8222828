/-
  types.fresh: the step, walked.
-/
import Derived.Test.YtcmnhkopmkaiaaaKdp
import Derived.Test.YtcmnhkopmkaiaaaSbp
import Derived.Deep.RegionLaw
namespace Go.Proofs.Ytcmnhkopmkaiaaa
open Go.RowKit
attribute [local go_sem ↓] Go.wp_at_zero Go.wp_at_succ
theorem Src.kept {w w' : World} {v : Value} {n : Nat} {l : List Value} (h : Src w v n l) (hb : Below w.heap.size w w') : Src w' v n l := by
  cases h with
  | nil c => exact .nil c
  | non a c => exact .non a c
  | row b o n c l h => exact .row b o n c l (fun j u hj => kept_cell hb (h j u hj))
theorem Src.form {w : World} {v : Value} {n : Nat} {l : List Value} (h : Src w v n l) : ∃ a c, v = .slice a n c := by cases h <;> exact ⟨_, _, rfl⟩
/-- three clones: of names, marks, kids -/
structure Cl3 (w : World) (vn vm vk : Value) (ln lm lk : Nat) (xn xm xk : List Value) (w3 : World) : Prop where
  bl : Below w.heap.size w w3
  n : w3.ownsRow w.heap.size 9 1 vn ln xn
  m : w3.ownsRow w.heap.size 4 1 vm lm xm
  k : w3.ownsRow w.heap.size 26 7 vk lk xk
  nm : ∀ j, vn.ownBlock = some j → vm.ownBlock ≠ some j
  nk : ∀ j, vn.ownBlock = some j → vk.ownBlock ≠ some j
  mk9 : ∀ j, vm.ownBlock = some j → vk.ownBlock ≠ some j
theorem set3_size (w : World) (b o : Nat) (x y z : Value) : (((w.setCell ⟨b, o + 4, none⟩ x).setCell ⟨b, o + 5, none⟩ y).setCell ⟨b, o + 6, none⟩ z).heap.size = w.heap.size := by simp
theorem set3_cell {w : World} {b o : Nat} {x y z z0 : Value} (h6 : w.cell? ⟨b, o + 6, none⟩ = some z0) :
    (((w.setCell ⟨b, o + 4, none⟩ x).setCell ⟨b, o + 5, none⟩ y).setCell ⟨b, o + 6, none⟩ z).cell? ⟨b, o + 6, none⟩ = some z := by
  have e1 : (w.setCell ⟨b, o + 4, none⟩ x).cell? ⟨b, o + 6, none⟩ = w.cell? ⟨b, o + 6, none⟩ := by apply World.cell?_setCell_other; simp
  have e2 : ((w.setCell ⟨b, o + 4, none⟩ x).setCell ⟨b, o + 5, none⟩ y).cell? ⟨b, o + 6, none⟩ = (w.setCell ⟨b, o + 4, none⟩ x).cell? ⟨b, o + 6, none⟩ := by apply World.cell?_setCell_other; simp
  exact World.cell?_setCell_same' _ _ _ (by rw [e2, e1, h6]; rfl)
/-- what the step answers -/
structure F1Q (w : World) (b o ln lm lk : Nat) (xn xm xk : List Value) (e : Ending) (w' : World) : Prop where
  ex : ∃ a c vn vm vk w3 kb, Cl3 w vn vm vk ln lm lk xn xm xk w3 ∧ (∃ a3 c3, vk = .slice a3 lk c3 ∧ (0 < lk → a3 = some ⟨kb, 0, none⟩)) ∧ e = .returned (.tuple #[.slice a lk c, .bool true]) ∧
      w'.ownsRow w3.heap.size 40 1 (.slice a lk c) lk ((kidA kb 0 lk).map pv) ∧ Below w3.heap.size (((w3.setCell ⟨b, o + 4, none⟩ vn).setCell ⟨b, o + 5, none⟩ vm).setCell ⟨b, o + 6, none⟩ vk) w'
theorem fresh1_end {w w1 w2 w3 w5 : World} {b o ln lm lk c1 c2 c3 c5 kb : Nat} {a1 a2 a3 a5 : Option Addr} {xn xm xk : List Value} (HB3 : Hid (Below w.heap.size w w3)) (HB12 : Hid (Below w1.heap.size w1 w2)) (HB23 : Hid (Below w2.heap.size w2 w3)) (hw : w.heap.size ≤ w1.heap.size)
    (HR1 : Hid (w1.ownsRow w.heap.size 9 1 (.slice a1 ln c1) ln xn)) (HR2 : Hid (w2.ownsRow w1.heap.size 4 1 (.slice a2 lm c2) lm xm)) (HR3 : Hid (w3.ownsRow w2.heap.size 26 7 (.slice a3 lk c3) lk xk)) (hkb : 0 < lk → a3 = some ⟨kb, 0, none⟩)
    (HR5 : Hid (w5.ownsRow (((w3.setCell ⟨b, o + 4, none⟩ (.slice a1 ln c1)).setCell ⟨b, o + 5, none⟩ (.slice a2 lm c2)).setCell ⟨b, o + 6, none⟩ (.slice a3 lk c3)).heap.size 40 1 (.slice a5 lk c5) lk ((kidA kb 0 lk).map pv)))
    (HB5 : Hid (Below (((w3.setCell ⟨b, o + 4, none⟩ (.slice a1 ln c1)).setCell ⟨b, o + 5, none⟩ (.slice a2 lm c2)).setCell ⟨b, o + 6, none⟩ (.slice a3 lk c3)).heap.size (((w3.setCell ⟨b, o + 4, none⟩ (.slice a1 ln c1)).setCell ⟨b, o + 5, none⟩ (.slice a2 lm c2)).setCell ⟨b, o + 6, none⟩ (.slice a3 lk c3)) w5)) :
    F1Q w b o ln lm lk xn xm xk (.returned (.tuple #[.slice a5 lk c5, .bool true])) w5 := by
  have h5 := HR5.out
  have hb5 := HB5.out
  rw [set3_size] at h5 hb5
  have z1 := HB12.out.size
  have z2 := HB23.out.size
  have l1 := HR1.out.lt
  have l2 := HR2.out.lt
  have l3 := HR3.out.lt
  refine ⟨a5, c5, .slice a1 ln c1, .slice a2 lm c2, .slice a3 lk c3, w3, kb, ⟨HB3.out, ?_, ?_, ownsRow_down HR3.out (by omega), ?_, ?_, ?_⟩, ⟨a3, c3, rfl, hkb⟩, rfl, h5, hb5⟩
  · exact own_kept HR1.out (bthen HB12.out HB23.out)
  · exact own_kept (ownsRow_down HR2.out hw) HB23.out
  · intro j h1 h2; have := l1 j h1; have := l2 j h2; omega
  · intro j h1 h2; have := l1 j h1; have := l3 j h2; omega
  · intro j h1 h2; have := l2 j h1; have := l3 j h2; omega
set_option maxRecDepth 100000 in
set_option maxHeartbeats 8000000 in
theorem fresh1_any {w : World} {b o ln lm lk cn cm ck : Nat} {an am ak : Option Addr} {xn xm xk : List Value} (h4 : w.cell? ⟨b, o + 4, none⟩ = some (.slice an ln cn)) (h5 : w.cell? ⟨b, o + 5, none⟩ = some (.slice am lm cm)) (h6 : w.cell? ⟨b, o + 6, none⟩ = some (.slice ak lk ck))
    (f4 : w.frozen? ⟨b, o + 4, none⟩ = false) (f5 : w.frozen? ⟨b, o + 5, none⟩ = false) (f6 : w.frozen? ⟨b, o + 6, none⟩ = false)
    (s4 : Src w (.slice an ln cn) ln xn) (s5 : Src w (.slice am lm cm) lm xm) (s6 : Src w (.slice ak lk ck) lk xk) (l4 : xn.length = ln * 1) (l5 : xm.length = lm * 1) (l6 : xk.length = lk * 7)
    (o4 : ∀ u ∈ xn, u.oneCell' = true) (o5 : ∀ u ∈ xm, u.oneCell' = true) (o6 : ∀ u ∈ xk, u.oneCell' = true) (b4 : ln * 16 ≤ 140737488355328) (b5 : lm * 1 ≤ 140737488355328) (b6 : lk ≤ 1000000) :
    Calls Try.prog 32 #[pv ⟨b, o, none⟩] w (F1Q w b o ln lm lk xn xm xk) := by
  have hb : b < w.heap.size := World.block_lt_of_cell? _ _ h4
  have hc1 := cloneS (s4.kept (below_drew1 w)) l4 o4 b4
  have HS5 : Hid (Src w (.slice am lm cm) lm xm) := s5
  have HS6 : Hid (Src w (.slice ak lk ck) lk xk) := s6
  clear s4 s5 s6
  go_enter Try.func32, Try.ntmps32
  go_wp2_with fail
  go_region_law
    (go_simp; go_wp2_with (first
      | (go_at_call 33; refine hc1.mono ?_; intro e w1 hq; obtain ⟨a1, c1, rfl, hr1⟩ := hq.slice; have hbw1 : Below w.heap.size w w1 := bthen (below_drew1 w) hq.bl; have HR1 : Hid (w1.ownsRow w.heap.size 9 1 (.slice a1 ln c1) ln xn) := hr1; have HB1 : Hid (Below w.heap.size w w1) := hbw1; have k5 : w1.cell? ⟨b, o + 5, none⟩ = some (.slice am lm cm) := kept_cell hbw1 h5; have k6 : w1.cell? ⟨b, o + 6, none⟩ = some (.slice ak lk ck) := kept_cell hbw1 h6; have hc2 := cloneB (HS5.out.kept hbw1) l5 o5 b5; clear hq hr1 hc1 hbw1)
      | (go_at_call 34; refine hc2.mono ?_; intro e w2 hq; obtain ⟨a2, c2, rfl, hr2⟩ := hq.slice; have hbw2 : Below w.heap.size w w2 := HB1.out.trans (hq.bl.mono HB1.out.size); have HB12 : Hid (Below w1.heap.size w1 w2) := hq.bl; have HR2 : Hid (w2.ownsRow w1.heap.size 4 1 (.slice a2 lm c2) lm xm) := hr2; have HB2 : Hid (Below w.heap.size w w2) := hbw2; have m6 : w2.cell? ⟨b, o + 6, none⟩ = some (.slice ak lk ck) := kept_cell hbw2 h6; have hc3 := cloneT (HS6.out.kept hbw2) l6 o6 (by omega); clear hq hr2 hc2 hbw2)
      | (go_at_call 35; refine hc3.mono ?_; intro e w3 hq; obtain ⟨a3, c3, rfl, hr3⟩ := hq.slice; have hbw3 : Below w.heap.size w w3 := HB2.out.trans (hq.bl.mono HB2.out.size); have HB23 : Hid (Below w2.heap.size w2 w3) := hq.bl; have HR3 : Hid (w3.ownsRow w2.heap.size 26 7 (.slice a3 lk c3) lk xk) := hr3; have HB3 : Hid (Below w.heap.size w w3) := hbw3; have n4 : w3.cell? ⟨b, o + 4, none⟩ = some (.slice an ln cn) := kept_cell hbw3 h4; have n5 : w3.cell? ⟨b, o + 5, none⟩ = some (.slice am lm cm) := kept_cell hbw3 h5; have n6 : w3.cell? ⟨b, o + 6, none⟩ = some (.slice ak lk ck) := kept_cell hbw3 h6; have g4 : w3.frozen? ⟨b, o + 4, none⟩ = false := (hbw3.frozen (p := ⟨b, o + 4, none⟩) hb).trans f4; have g5 : w3.frozen? ⟨b, o + 5, none⟩ = false := (hbw3.frozen (p := ⟨b, o + 5, none⟩) hb).trans f5; have g6 : w3.frozen? ⟨b, o + 6, none⟩ = false := (hbw3.frozen (p := ⟨b, o + 6, none⟩) hb).trans f6; clear hq hr3 hc3 hbw3)
      ))
  all_goals
    obtain ⟨kb, hkb⟩ : ∃ kb, 0 < lk → a3 = some ⟨kb, 0, none⟩ := by
      rcases HR3.out.2 with ⟨_, h0⟩ | ⟨g, cap, cur, h0, _⟩
      · exact ⟨0, fun h => by omega⟩
      · exact ⟨g, fun _ => by cases h0; rfl⟩
    have hk6 : (((w3.setCell ⟨b, o + 4, none⟩ (.slice a1 ln c1)).setCell ⟨b, o + 5, none⟩ (.slice a2 lm c2)).setCell ⟨b, o + 6, none⟩ (.slice a3 lk c3)).cell? ⟨b, o + 6, none⟩ = some (.slice a3 lk c3) := set3_cell n6
    have hkd := kids_any (kb := kb) (ko := 0) hk6 hkb b6
    clear hk6 h4 h5 h6 f4 f5 f6 n4 n5 n6 g4 g5 g6 k5 k6 m6
    go_wp2_with (go_at_call 27; refine hkd.mono ?_; intro e w5 hq; obtain ⟨a5, c5, rfl, hr5⟩ := hq.ex; rw [kidA_len] at hr5; rw [kidA_len]; have HR5 : Hid _ := hr5; have HB5 : Hid _ := hq.bl; clear hq hr5 hkd)
    go_ret2
    exact fresh1_end HB3 HB12 HB23 HB1.out.size HR1 HR2 HR3 hkb HR5 HB5
end Go.Proofs.Ytcmnhkopmkaiaaa

