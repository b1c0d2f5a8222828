/-
  tree.Same with slices.EqualFunc: two trees against each other, without their places.
-/
import Derived.Test.YtgknigjpdnfkdaaRowz
namespace Go.Proofs.Ytgknigjpdnfkdaa
open Go.RowKit
/-- what Same answers of n and any other tree -/
def SmP (n : Nd) : Prop := ∀ (m : Nd) (w : World) (va vb : Value) (B C : BP), SlV B w va n.kids → SlV C w vb m.kids →
    Calls Try.prog 17 #[aggN n va, aggN m vb] w fun e w' => e = .returned (.bool (n.same m)) ∧ Below w.heap.size w w'
def SlP (l : List Nd) : Prop := ∀ (l' : List Nd) (w : World) (va vb : Value) (B C : BP), SlV B w va l → SlV C w vb l' →
    Calls Try.prog 37 #[va, vb, .func (.func 17) #[] #[]] w fun e w' => e = .returned (.bool (sameL l l')) ∧ Below w.heap.size w w'
set_option maxRecDepth 100000 in
set_option maxHeartbeats 2000000 in
theorem same_of (n : Nd) (h : SlP n.kids) : SmP n := by
  intro m w va vb B C ha hb
  have IC := h m.kids ((w.alloc (.cells (encN n va) 24)).alloc (.cells (encN m vb) 24)) va vb B C (ha.kept (below_alloc2 _ _ _)) (hb.kept (below_alloc2 _ _ _))
  simp only [aggN, encN] at IC ⊢
  obtain ⟨a1, c1, rfl, -, -⟩ := ha.open
  obtain ⟨a2, c2, rfl, -, -⟩ := hb.open
  rw [Nd.same_eq]
  have HBB : Hid (Below w.heap.size w ((w.alloc (.cells #[.int .i64 n.kind, .int .i64 n.fr, .int .i64 n.to, .string n.text, .slice a1 n.kids.length c1] 24)).alloc (.cells #[.int .i64 m.kind, .int .i64 m.fr, .int .i64 m.to, .string m.text, .slice a2 m.kids.length c2] 24))) := ⟨below_alloc2 _ _ _⟩
  clear ha hb h
  by_cases hk : n.kind = m.kind
  rotate_left
  · have hk' : (n.kind == m.kind) = false := by simp [hk]
    have E : (decide (n.kind = m.kind) && decide (n.text = m.text) && sameL n.kids m.kids) = false := by simp [hk]
    rw [E]
    clear hk IC
    go_enter Try.func17, Try.ntmps17
    go_wp2
    go_ret
    exact ⟨rfl, HBB.out⟩
  have hk' : (n.kind == m.kind) = true := by simp [hk]
  by_cases ht : n.text = m.text
  rotate_left
  · have E : (decide (n.kind = m.kind) && decide (n.text = m.text) && sameL n.kids m.kids) = false := by simp [ht]
    rw [E]
    have ht' : ¬ n.text.toList = m.text.toList := fun e => ht (toList_inj e)
    clear hk ht IC
    go_enter Try.func17, Try.ntmps17
    go_wp2
    go_ret
    exact ⟨rfl, HBB.out⟩
  have ht' : n.text.toList = m.text.toList := by rw [ht]
  have E : (decide (n.kind = m.kind) && decide (n.text = m.text) && sameL n.kids m.kids) = sameL n.kids m.kids := by simp [hk, ht]
  rw [E]
  clear hk ht E
  go_enter Try.func17, Try.ntmps17
  go_wp2_with (go_at_call 37; refine IC.mono ?_; clear IC; rintro e w1 ⟨rfl, hB1⟩)
  go_ret
  exact ⟨rfl, bthen HBB.out hB1⟩
set_option maxRecDepth 100000 in
set_option maxHeartbeats 2000000 in
theorem equalFunc_of (l : List Nd) (ih : ∀ x ∈ l, SmP x) : SlP l := by
  intro m w va vb B C ha hb
  obtain ⟨a1, c1, rfl, hl1, -⟩ := ha.open
  obtain ⟨a2, c2, rfl, hl2, -⟩ := hb.open
  have H1 : Hid (SlV B w (.slice a1 l.length c1) l) := ⟨ha⟩
  have H2 : Hid (SlV C w (.slice a2 m.length c2) m) := ⟨hb⟩
  have IH : Hid (∀ x ∈ l, SmP x) := ⟨ih⟩
  clear ha hb ih
  by_cases hl : l.length = m.length
  rotate_left
  · have E : sameL l m = false := by
      rw [Bool.eq_false_iff]
      intro h
      exact hl ((sameL_iff _ _).1 h).1
    rw [E]
    have hlb : ((l.length : Int) != (m.length : Int)) = true := by simp; omega
    clear hl
    go_enter Try.func37, Try.ntmps37
    go_wp2
    go_ret
    exact ⟨rfl, Below.refl _ _⟩
  have hlb : ((l.length : Int) != (m.length : Int)) = false := by simp; omega
  have HL : Hid (l.length = m.length) := ⟨hl⟩
  clear hl
  go_enter Try.func37, Try.ntmps37
  go_wp2
  clear hlb
  go_loopw [17] (fun i wr => ∃ j : Nat, i = .int .i64 j ∧ j ≤ l.length ∧ Hid (Below w.heap.size w wr) ∧ Hid (∀ i (h : i < l.length) (h' : i < m.length), i < j → (l[i]).same m[i] = true)) (fun i _ => l.length - (intOf i).toNat)
  case atStart => exact ⟨0, rfl, by omega, ⟨Below.refl _ _⟩, ⟨fun i _ _ h => by omega⟩⟩
  case round =>
    obtain ⟨j, rfl, hj, HBw, HS⟩ := hrel
    by_cases hlt : j < l.length
    · have hlt' : (j : Int) < (l.length : Int) := by omega
      have hlm : j < m.length := by have := HL.out; omega
      have hlm' : (j : Int) < (m.length : Int) := by omega
      obtain ⟨_, _, e1, _, g1⟩ := (H1.out.kept HBw.out).open
      cases e1
      obtain ⟨b1, o1, rfl, _, l1⟩ := g1 j hlt
      obtain ⟨x, hx⟩ : ∃ x, l[j] = x := ⟨_, rfl⟩
      rw [hx] at l1
      obtain ⟨p0, p1, p2, p3, vx, p4, sx⟩ := lies_iff.1 l1
      obtain ⟨_, _, e2, _, g2⟩ := (H2.out.kept HBw.out).open
      cases e2
      obtain ⟨b2, o2, rfl, _, l2⟩ := g2 j hlm
      obtain ⟨y, hy⟩ : ∃ x, m[j] = x := ⟨_, rfl⟩
      rw [hy] at l2
      obtain ⟨q0, q1, q2, q3, vy, q4, sy⟩ := lies_iff.1 l2
      have mx : x ∈ l := hx ▸ List.getElem_mem _
      have IC := IH.out x mx y ((wr.alloc (.cells (encN x vx) 24)).alloc (.cells (encN y vy) 24)) vx vy B C (sx.kept (below_alloc2 _ _ _)) (sy.kept (below_alloc2 _ _ _))
      obtain ⟨ax, cx, rfl⟩ := sx.slice
      obtain ⟨ay, cy, rfl⟩ := sy.slice
      simp only [aggN, encN] at IC
      have hwr := HBw.out.size
      have hb2 : b2 < wr.heap.size := World.block_lt_of_cell? _ _ q0
      clear g1 g2 l1 l2 sx sy
      rcases hxy : x.same y with _ | _
      · rw [hxy] at IC
        have E : Hid (sameL l m = false) := by
          refine ⟨?_⟩
          rw [Bool.eq_false_iff]
          intro h
          have := ((sameL_iff _ _).1 h).2 j hlt hlm
          rw [hx, hy, hxy] at this
          cases this
        go_wp2_with (go_at_call 17; refine IC.mono ?_; clear IC; rintro e w1 ⟨rfl, hB1⟩)
        go_ret
        exact ⟨ret_bool E.out.symm, bthen HBw.out (bthen (below_alloc2 _ _ _) hB1)⟩
      · rw [hxy] at IC
        go_wp2_with (go_at_call 17; refine IC.mono ?_; clear IC; rintro e w1 ⟨rfl, hB1⟩)
        go_roundw
        case rel =>
          refine ⟨j + 1, by go_num, by omega, ⟨bthen HBw.out (bthen (below_alloc2 _ _ _) hB1)⟩, ⟨fun i h h' hij => ?_⟩⟩
          rcases Nat.lt_or_ge i j with h1 | h1
          · exact HS.out i h h' h1
          · obtain rfl : i = j := by omega
            rw [hx, hy, hxy]
        case measure => simp [intOf]; omega
    · have hlt' : ¬ (j : Int) < (l.length : Int) := by omega
      have E : Hid (sameL l m = true) := ⟨(sameL_iff _ _).2 ⟨HL.out, fun i h h' => HS.out i h h' (by omega)⟩⟩
      go_wp2
      go_ret
      exact ⟨ret_bool E.out.symm, HBw.out⟩
theorem same_any (n : Nd) : SmP n := by
  induction n using Nd.ind3
  rename_i n ih
  exact same_of n (equalFunc_of n.kids ih)
end Go.Proofs.Ytgknigjpdnfkdaa
