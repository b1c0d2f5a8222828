/-
  Reading trees: recastalike.Nodes at a tree and itself, recastref4.Same and Depth, recastalike.Size, rows.
-/
import Derived.Test.YtgknigjpdnfkdaaBase
import Derived.Deep.RegionHeld3
import Derived.BigQuiet
import Derived.Deep.DrawnRows
namespace Go.Proofs.Ytgknigjpdnfkdaa
open Go.RowKit
attribute [local go_sem ↓] Go.wp_at_zero Go.wp_at_succ
theorem cell_of {w : World} {k : Nat} {cs : Array Value} {T : TypeId} {fz : Nat × Nat} (h : w.heap[k]? = some (.cells cs T fz)) (i : Nat) : w.cell? ⟨k, i, none⟩ = cs[i]? := by simp [World.cell?, h]
theorem toList_inj {a b : ByteArray} (h : a.toList = b.toList) : a = b := by
  rw [ByteArray.toList_eq, ByteArray.toList_eq] at h
  cases a; cases b
  simpa using h
theorem ret_bool {a b : Bool} (h : a = b) : Ending.returned (.bool a) = .returned (.bool b) := by rw [h]
theorem ret_int {k : IntKind} {a b : Int} (h : a = b) : Ending.returned (.int k a) = .returned (.int k b) := by rw [h]
set_option maxRecDepth 100000 in
set_option maxHeartbeats 2000000 in
/-- a tree against itself: true -/
theorem nodes_any (n : Nd) : ∀ (w : World) (va vb : Value) (B C : BP), SlV B w va n.kids → SlV C w vb n.kids →
    Calls Try.prog 13 #[aggN n va, aggN n vb] w fun e w' => e = .returned (.bool true) ∧ Below w.heap.size w w' := by
  induction n using Nd.ind3
  rename_i n ih
  intro w va vb B C ha hb
  simp only [aggN, encN]
  obtain ⟨a1, c1, rfl, hl1, -⟩ := ha.open
  obtain ⟨a2, c2, rfl, hl2, -⟩ := hb.open
  have H1 : Hid (SlV B w (.slice a1 n.kids.length c1) n.kids) := ⟨ha⟩
  have H2 : Hid (SlV C w (.slice a2 n.kids.length c2) n.kids) := ⟨hb⟩
  have IH : Hid (∀ x ∈ n.kids, ∀ (w : World) (va vb : Value) (B C : BP), SlV B w va x.kids → SlV C w vb x.kids →
    Calls Try.prog 13 #[aggN x va, aggN x vb] w fun e w' => e = .returned (.bool true) ∧ Below w.heap.size w w') := ⟨ih⟩
  clear ha hb ih hl2
  have hkk : (n.kind != n.kind) = false := by simp
  have hff : (n.fr != n.fr) = false := by simp
  have htt : (n.to != n.to) = false := by simp
  go_enter Try.func13, Try.ntmps13
  go_wp2
  have hW0 : ((w.alloc (.cells #[.int .i64 n.kind, .int .i64 n.fr, .int .i64 n.to, .string n.text, .slice a1 n.kids.length c1] 24)).alloc (.cells #[.int .i64 n.kind, .int .i64 n.fr, .int .i64 n.to, .string n.text, .slice a2 n.kids.length c2] 24)).heap.size = w.heap.size + 2 := by simp
  have HB0 : Hid (Below w.heap.size w ((w.alloc (.cells #[.int .i64 n.kind, .int .i64 n.fr, .int .i64 n.to, .string n.text, .slice a1 n.kids.length c1] 24)).alloc (.cells #[.int .i64 n.kind, .int .i64 n.fr, .int .i64 n.to, .string n.text, .slice a2 n.kids.length c2] 24))) := ⟨below_alloc2 _ _ _⟩
  have HA0 : Hid (((w.alloc (.cells #[.int .i64 n.kind, .int .i64 n.fr, .int .i64 n.to, .string n.text, .slice a1 n.kids.length c1] 24)).alloc (.cells #[.int .i64 n.kind, .int .i64 n.fr, .int .i64 n.to, .string n.text, .slice a2 n.kids.length c2] 24)).cell? ⟨w.heap.size, 4, none⟩ = some (.slice a1 n.kids.length c1)) := ⟨by simp⟩
  have HA1 : Hid (((w.alloc (.cells #[.int .i64 n.kind, .int .i64 n.fr, .int .i64 n.to, .string n.text, .slice a1 n.kids.length c1] 24)).alloc (.cells #[.int .i64 n.kind, .int .i64 n.fr, .int .i64 n.to, .string n.text, .slice a2 n.kids.length c2] 24)).cell? ⟨w.heap.size + 1, 4, none⟩ = some (.slice a2 n.kids.length c2)) := ⟨by simp⟩
  generalize ((w.alloc (.cells #[.int .i64 n.kind, .int .i64 n.fr, .int .i64 n.to, .string n.text, .slice a1 n.kids.length c1] 24)).alloc (.cells #[.int .i64 n.kind, .int .i64 n.fr, .int .i64 n.to, .string n.text, .slice a2 n.kids.length c2] 24)) = W0 at *
  clear hkk hff htt
  go_loopw [5] (fun i wr => ∃ j : Nat, i = .int .i64 j ∧ j ≤ n.kids.length ∧ Hid (Below W0.heap.size W0 wr)) (fun i _ => n.kids.length - (intOf i).toNat)
  case atStart => exact ⟨0, rfl, by omega, ⟨Below.refl _ _⟩⟩
  case round =>
    obtain ⟨j, rfl, hj, HB⟩ := hrel
    have c4 := bcell HB.out HA0.out
    have c5 := bcell HB.out HA1.out
    by_cases hlt : j < n.kids.length
    · have hlt' : (j : Int) < (n.kids.length : Int) := by omega
      have HBw : Hid (Below w.heap.size w wr) := ⟨bthen HB0.out HB.out⟩
      obtain ⟨_, _, e1, _, g1⟩ := (H1.out.kept HBw.out).open
      cases e1
      obtain ⟨b1, o1, rfl, _, l1⟩ := g1 j hlt
      obtain ⟨x, hx⟩ : ∃ x, n.kids[j] = x := ⟨_, rfl⟩
      have mx : x ∈ n.kids := hx ▸ List.getElem_mem _
      rw [hx] at l1
      obtain ⟨p0, p1, p2, p3, vx, p4, sx⟩ := lies_iff.1 l1
      obtain ⟨_, _, e2, _, g2⟩ := (H2.out.kept HBw.out).open
      cases e2
      obtain ⟨b2, o2, rfl, _, l2⟩ := g2 j hlt
      rw [hx] at l2
      obtain ⟨q0, q1, q2, q3, vy, q4, sy⟩ := lies_iff.1 l2
      have IC := IH.out x mx wr.drew vx vy B C sx.drew sy.drew
      simp only [aggN, encN] at IC
      go_wp2
      go_region_held3 (fun w' => w'.cell? ⟨w.heap.size, 4, none⟩ = some (.slice (some ⟨b1, o1, none⟩) n.kids.length c1) ∧ w'.cell? ⟨w.heap.size + 1, 4, none⟩ = some (.slice (some ⟨b2, o2, none⟩) n.kids.length c2) ∧ w'.cell? ⟨b1, o1 + j * 5, none⟩ = some (.int .i64 x.kind) ∧ w'.cell? ⟨b1, o1 + j * 5 + 1, none⟩ = some (.int .i64 x.fr) ∧ w'.cell? ⟨b1, o1 + j * 5 + 2, none⟩ = some (.int .i64 x.to) ∧ w'.cell? ⟨b1, o1 + j * 5 + 3, none⟩ = some (.string x.text) ∧ w'.cell? ⟨b1, o1 + j * 5 + 4, none⟩ = some (vx) ∧ w'.cell? ⟨b2, o2 + j * 5, none⟩ = some (.int .i64 x.kind) ∧ w'.cell? ⟨b2, o2 + j * 5 + 1, none⟩ = some (.int .i64 x.fr) ∧ w'.cell? ⟨b2, o2 + j * 5 + 2, none⟩ = some (.int .i64 x.to) ∧ w'.cell? ⟨b2, o2 + j * 5 + 3, none⟩ = some (.string x.text) ∧ w'.cell? ⟨b2, o2 + j * 5 + 4, none⟩ = some (vy))
        (first | go_keep | exact ⟨bcell hB1 c4, bcell hB1 c5, bcell hB1 p0, bcell hB1 p1, bcell hB1 p2, bcell hB1 p3, bcell hB1 p4, bcell hB1 q0, bcell hB1 q1, bcell hB1 q2, bcell hB1 q3, bcell hB1 q4⟩)
        (first | (go_at_call 13; refine IC.mono ?_; clear IC; rintro e w1 ⟨rfl, hB1⟩))
      go_wp2
      go_roundw
      case rel => exact ⟨j + 1, by go_num, by omega, ⟨bthen HB.out (bthen (below_drew wr) hB1)⟩⟩
      case measure => simp [intOf]; omega
    · have hlt' : ¬ (j : Int) < (n.kids.length : Int) := by omega
      go_wp2
      go_ret
      exact ⟨rfl, bthen HB0.out HB.out⟩
set_option maxRecDepth 100000 in
set_option maxHeartbeats 2000000 in
theorem rsame_any (n : Nd) : ∀ (m : Nd) (w : World) (va vb : Value) (B C : BP), SlV B w va n.kids → SlV C w vb m.kids →
    Calls Try.prog 18 #[aggN n va, aggN m vb] w fun e w' => e = .returned (.bool (n.same m)) ∧ Below w.heap.size w w' := by
  induction n using Nd.ind3
  rename_i n ih
  intro m w va vb B C ha hb
  simp only [aggN, encN]
  obtain ⟨a1, c1, rfl, hl1, -⟩ := ha.open
  obtain ⟨a2, c2, rfl, hl2, -⟩ := hb.open
  have H1 : Hid (SlV B w (.slice a1 n.kids.length c1) n.kids) := ⟨ha⟩
  have H2 : Hid (SlV C w (.slice a2 m.kids.length c2) m.kids) := ⟨hb⟩
  have IH : Hid (∀ x ∈ n.kids, ∀ (m : Nd) (w : World) (va vb : Value) (B C : BP), SlV B w va x.kids → SlV C w vb m.kids →
    Calls Try.prog 18 #[aggN x va, aggN m vb] w fun e w' => e = .returned (.bool (x.same m)) ∧ Below w.heap.size w w') := ⟨ih⟩
  clear ha hb ih
  rw [Nd.same_eq]
  have HBB : Hid (Below w.heap.size w ((w.alloc (.cells #[.int .i64 n.kind, .int .i64 n.fr, .int .i64 n.to, .string n.text, .slice a1 n.kids.length c1] 24)).alloc (.cells #[.int .i64 m.kind, .int .i64 m.fr, .int .i64 m.to, .string m.text, .slice a2 m.kids.length c2] 24))) := ⟨below_alloc2 _ _ _⟩
  by_cases hk : n.kind = m.kind
  rotate_left
  · have hk' : (n.kind != m.kind) = true := by simp [hk]
    have E : (decide (n.kind = m.kind) && decide (n.text = m.text) && sameL n.kids m.kids) = false := by simp [hk]
    rw [E]
    clear hk
    go_enter Try.func18, Try.ntmps18
    go_wp2
    go_ret
    exact ⟨rfl, HBB.out⟩
  have hk' : (n.kind != m.kind) = false := by simp [hk]
  by_cases ht : n.text = m.text
  rotate_left
  · have E : (decide (n.kind = m.kind) && decide (n.text = m.text) && sameL n.kids m.kids) = false := by simp [ht]
    rw [E]
    have ht' : ¬ n.text.toList = m.text.toList := fun e => ht (toList_inj e)
    clear hk ht
    go_enter Try.func18, Try.ntmps18
    go_wp2
    go_ret
    exact ⟨rfl, HBB.out⟩
  have ht' : n.text.toList = m.text.toList := by rw [ht]
  by_cases hl : n.kids.length = m.kids.length
  rotate_left
  · have E : (decide (n.kind = m.kind) && decide (n.text = m.text) && sameL n.kids m.kids) = false := by
      rw [Bool.eq_false_iff]
      intro h
      simp only [Bool.and_eq_true, sameL_iff] at h
      exact hl h.2.1
    rw [E]
    have hlb : ((n.kids.length : Int) != (m.kids.length : Int)) = true := by simp; omega
    clear hk ht hl
    go_enter Try.func18, Try.ntmps18
    go_wp2
    go_ret
    exact ⟨rfl, HBB.out⟩
  have hlb : ((n.kids.length : Int) != (m.kids.length : Int)) = false := by simp; omega
  have E : (decide (n.kind = m.kind) && decide (n.text = m.text) && sameL n.kids m.kids) = sameL n.kids m.kids := by simp [hk, ht]
  rw [E]
  have HL : Hid (n.kids.length = m.kids.length) := ⟨hl⟩
  clear hk ht hl E HBB
  go_enter Try.func18, Try.ntmps18
  go_wp2
  have hW0 : ((w.alloc (.cells #[.int .i64 n.kind, .int .i64 n.fr, .int .i64 n.to, .string n.text, .slice a1 n.kids.length c1] 24)).alloc (.cells #[.int .i64 m.kind, .int .i64 m.fr, .int .i64 m.to, .string m.text, .slice a2 m.kids.length c2] 24)).heap.size = w.heap.size + 2 := by simp
  have HB0 : Hid (Below w.heap.size w ((w.alloc (.cells #[.int .i64 n.kind, .int .i64 n.fr, .int .i64 n.to, .string n.text, .slice a1 n.kids.length c1] 24)).alloc (.cells #[.int .i64 m.kind, .int .i64 m.fr, .int .i64 m.to, .string m.text, .slice a2 m.kids.length c2] 24))) := ⟨below_alloc2 _ _ _⟩
  have HA0 : Hid (((w.alloc (.cells #[.int .i64 n.kind, .int .i64 n.fr, .int .i64 n.to, .string n.text, .slice a1 n.kids.length c1] 24)).alloc (.cells #[.int .i64 m.kind, .int .i64 m.fr, .int .i64 m.to, .string m.text, .slice a2 m.kids.length c2] 24)).cell? ⟨w.heap.size, 4, none⟩ = some (.slice a1 n.kids.length c1)) := ⟨by simp⟩
  have HA1 : Hid (((w.alloc (.cells #[.int .i64 n.kind, .int .i64 n.fr, .int .i64 n.to, .string n.text, .slice a1 n.kids.length c1] 24)).alloc (.cells #[.int .i64 m.kind, .int .i64 m.fr, .int .i64 m.to, .string m.text, .slice a2 m.kids.length c2] 24)).cell? ⟨w.heap.size + 1, 4, none⟩ = some (.slice a2 m.kids.length c2)) := ⟨by simp⟩
  generalize ((w.alloc (.cells #[.int .i64 n.kind, .int .i64 n.fr, .int .i64 n.to, .string n.text, .slice a1 n.kids.length c1] 24)).alloc (.cells #[.int .i64 m.kind, .int .i64 m.fr, .int .i64 m.to, .string m.text, .slice a2 m.kids.length c2] 24)) = W0 at *
  clear hk' ht' hlb
  go_loopw [5] (fun i wr => ∃ j : Nat, i = .int .i64 j ∧ j ≤ n.kids.length ∧ Hid (Below W0.heap.size W0 wr) ∧ Hid (∀ i (h : i < n.kids.length) (h' : i < m.kids.length), i < j → (n.kids[i]).same m.kids[i] = true)) (fun i _ => n.kids.length - (intOf i).toNat)
  case atStart => exact ⟨0, rfl, by omega, ⟨Below.refl _ _⟩, ⟨fun i _ _ h => by omega⟩⟩
  case round =>
    obtain ⟨j, rfl, hj, HB, HS⟩ := hrel
    have c4 := bcell HB.out HA0.out
    have c5 := bcell HB.out HA1.out
    by_cases hlt : j < n.kids.length
    · have hlt' : (j : Int) < (n.kids.length : Int) := by omega
      have hlm : j < m.kids.length := by have := HL.out; omega
      have hlm' : (j : Int) < (m.kids.length : Int) := by omega
      have HBw : Hid (Below w.heap.size w wr) := ⟨bthen HB0.out HB.out⟩
      obtain ⟨_, _, e1, _, g1⟩ := (H1.out.kept HBw.out).open
      cases e1
      obtain ⟨b1, o1, rfl, _, l1⟩ := g1 j hlt
      obtain ⟨x, hx⟩ : ∃ x, n.kids[j] = x := ⟨_, rfl⟩
      have mx : x ∈ n.kids := hx ▸ List.getElem_mem _
      rw [hx] at l1
      obtain ⟨p0, p1, p2, p3, vx, p4, sx⟩ := lies_iff.1 l1
      obtain ⟨_, _, e2, _, g2⟩ := (H2.out.kept HBw.out).open
      cases e2
      obtain ⟨b2, o2, rfl, _, l2⟩ := g2 j hlm
      obtain ⟨y, hy⟩ : ∃ x, m.kids[j] = x := ⟨_, rfl⟩
      have my : y ∈ m.kids := hy ▸ List.getElem_mem _
      rw [hy] at l2
      obtain ⟨q0, q1, q2, q3, vy, q4, sy⟩ := lies_iff.1 l2
      have IC := IH.out x mx y wr.drew vx vy B C sx.drew sy.drew
      simp only [aggN, encN] at IC
      rcases hxy : x.same y with _ | _
      · rw [hxy] at IC
        have E : Hid (sameL n.kids m.kids = false) := by
          refine ⟨?_⟩
          rw [Bool.eq_false_iff]
          intro h
          have := ((sameL_iff _ _).1 h).2 j hlt hlm
          rw [hx, hy, hxy] at this
          cases this
        go_wp2
        go_region_held3 (fun w' => w'.cell? ⟨w.heap.size, 4, none⟩ = some (.slice (some ⟨b1, o1, none⟩) n.kids.length c1) ∧ w'.cell? ⟨w.heap.size + 1, 4, none⟩ = some (.slice (some ⟨b2, o2, none⟩) m.kids.length c2) ∧ w'.cell? ⟨b1, o1 + j * 5, none⟩ = some (.int .i64 x.kind) ∧ w'.cell? ⟨b1, o1 + j * 5 + 1, none⟩ = some (.int .i64 x.fr) ∧ w'.cell? ⟨b1, o1 + j * 5 + 2, none⟩ = some (.int .i64 x.to) ∧ w'.cell? ⟨b1, o1 + j * 5 + 3, none⟩ = some (.string x.text) ∧ w'.cell? ⟨b1, o1 + j * 5 + 4, none⟩ = some (vx) ∧ w'.cell? ⟨b2, o2 + j * 5, none⟩ = some (.int .i64 y.kind) ∧ w'.cell? ⟨b2, o2 + j * 5 + 1, none⟩ = some (.int .i64 y.fr) ∧ w'.cell? ⟨b2, o2 + j * 5 + 2, none⟩ = some (.int .i64 y.to) ∧ w'.cell? ⟨b2, o2 + j * 5 + 3, none⟩ = some (.string y.text) ∧ w'.cell? ⟨b2, o2 + j * 5 + 4, none⟩ = some (vy))
          (first | go_keep | exact ⟨bcell hB1 c4, bcell hB1 c5, bcell hB1 p0, bcell hB1 p1, bcell hB1 p2, bcell hB1 p3, bcell hB1 p4, bcell hB1 q0, bcell hB1 q1, bcell hB1 q2, bcell hB1 q3, bcell hB1 q4⟩)
          (first | (go_at_call 18; refine IC.mono ?_; clear IC; rintro e w1 ⟨rfl, hB1⟩))
        go_wp2
        go_ret
        exact ⟨ret_bool E.out.symm, bthen HB0.out (bthen HB.out (bthen (below_drew wr) hB1))⟩
      · rw [hxy] at IC
        go_wp2
        go_region_held3 (fun w' => w'.cell? ⟨w.heap.size, 4, none⟩ = some (.slice (some ⟨b1, o1, none⟩) n.kids.length c1) ∧ w'.cell? ⟨w.heap.size + 1, 4, none⟩ = some (.slice (some ⟨b2, o2, none⟩) m.kids.length c2) ∧ w'.cell? ⟨b1, o1 + j * 5, none⟩ = some (.int .i64 x.kind) ∧ w'.cell? ⟨b1, o1 + j * 5 + 1, none⟩ = some (.int .i64 x.fr) ∧ w'.cell? ⟨b1, o1 + j * 5 + 2, none⟩ = some (.int .i64 x.to) ∧ w'.cell? ⟨b1, o1 + j * 5 + 3, none⟩ = some (.string x.text) ∧ w'.cell? ⟨b1, o1 + j * 5 + 4, none⟩ = some (vx) ∧ w'.cell? ⟨b2, o2 + j * 5, none⟩ = some (.int .i64 y.kind) ∧ w'.cell? ⟨b2, o2 + j * 5 + 1, none⟩ = some (.int .i64 y.fr) ∧ w'.cell? ⟨b2, o2 + j * 5 + 2, none⟩ = some (.int .i64 y.to) ∧ w'.cell? ⟨b2, o2 + j * 5 + 3, none⟩ = some (.string y.text) ∧ w'.cell? ⟨b2, o2 + j * 5 + 4, none⟩ = some (vy))
          (first | go_keep | exact ⟨bcell hB1 c4, bcell hB1 c5, bcell hB1 p0, bcell hB1 p1, bcell hB1 p2, bcell hB1 p3, bcell hB1 p4, bcell hB1 q0, bcell hB1 q1, bcell hB1 q2, bcell hB1 q3, bcell hB1 q4⟩)
          (first | (go_at_call 18; refine IC.mono ?_; clear IC; rintro e w1 ⟨rfl, hB1⟩))
        go_wp2
        go_roundw
        case rel =>
          refine ⟨j + 1, by go_num, by omega, ⟨bthen HB.out (bthen (below_drew wr) hB1)⟩, ⟨fun i h h' hij => ?_⟩⟩
          rcases Nat.lt_or_ge i j with h1 | h1
          · exact HS.out i h h' h1
          · obtain rfl : i = j := by omega
            rw [hx, hy, hxy]
        case measure => simp [intOf]; omega
    · have hlt' : ¬ (j : Int) < (n.kids.length : Int) := by omega
      have E : Hid (sameL n.kids m.kids = true) := ⟨(sameL_iff _ _).2 ⟨HL.out, fun i h h' => HS.out i h h' (by omega)⟩⟩
      go_wp2
      go_ret
      exact ⟨ret_bool E.out.symm, bthen HB0.out HB.out⟩
set_option maxRecDepth 100000 in
set_option maxHeartbeats 2000000 in
theorem rdepth_any (n : Nd) (hz : n.sz ≤ 1000000) : ∀ (w : World) (va : Value) (B : BP), SlV B w va n.kids →
    Calls Try.prog 16 #[aggN n va] w fun e w' => e = .returned (.int .i64 n.dep) ∧ Below w.heap.size w w' := by
  induction n using Nd.ind3
  rename_i n ih
  intro w va B ha
  simp only [aggN, encN]
  obtain ⟨a1, c1, rfl, hl1, -⟩ := ha.open
  have H1 : Hid (SlV B w (.slice a1 n.kids.length c1) n.kids) := ⟨ha⟩
  have IH : Hid (∀ x ∈ n.kids, ∀ (w : World) (va : Value) (B : BP), SlV B w va x.kids →
    Calls Try.prog 16 #[aggN x va] w fun e w' => e = .returned (.int .i64 x.dep) ∧ Below w.heap.size w w') := ⟨fun x hx => ih x hx (by have := szL_mem hx; have := n.sz_eq; omega)⟩
  have HDZ : Hid (depL n.kids + 1 ≤ 1000000) := ⟨by have := dep_le_sz n; rw [Nd.dep_eq] at this; omega⟩
  clear ha ih hz
  rw [Nd.dep_eq]
  go_enter Try.func16, Try.ntmps16
  go_wp2
  have hW0 : (w.alloc (.cells #[.int .i64 n.kind, .int .i64 n.fr, .int .i64 n.to, .string n.text, .slice a1 n.kids.length c1] 24)).heap.size = w.heap.size + 1 := by simp
  have HB0 : Hid (Below w.heap.size w (w.alloc (.cells #[.int .i64 n.kind, .int .i64 n.fr, .int .i64 n.to, .string n.text, .slice a1 n.kids.length c1] 24))) := ⟨below_alloc _ _⟩
  have HA0 : Hid ((w.alloc (.cells #[.int .i64 n.kind, .int .i64 n.fr, .int .i64 n.to, .string n.text, .slice a1 n.kids.length c1] 24)).cell? ⟨w.heap.size, 4, none⟩ = some (.slice a1 n.kids.length c1)) := ⟨by simp⟩
  generalize (w.alloc (.cells #[.int .i64 n.kind, .int .i64 n.fr, .int .i64 n.to, .string n.text, .slice a1 n.kids.length c1] 24)) = W0 at *
  go_loopw [3, 4] (fun d i wr => ∃ j : Nat, i = .int .i64 j ∧ j ≤ n.kids.length ∧ (∃ D : Nat, d = .int .i64 D ∧ Hid (D = depL (n.kids.take j))) ∧ Hid (Below W0.heap.size W0 wr)) (fun _ i _ => n.kids.length - (intOf i).toNat)
  case atStart => exact ⟨0, rfl, by omega, ⟨0, rfl, ⟨by simp [depL_nil]⟩⟩, ⟨Below.refl _ _⟩⟩
  case round =>
    obtain ⟨j, rfl, hj, ⟨D, rfl, HD⟩, HB⟩ := hrel
    have c4 := bcell HB.out HA0.out
    have hDz : D + 1 ≤ 1000000 := by
      have h1 := HD.out
      have h2 := depL_append (n.kids.take j) (n.kids.drop j)
      rw [List.take_append_drop] at h2
      have := HDZ.out
      omega
    by_cases hlt : j < n.kids.length
    · have hlt' : (j : Int) < (n.kids.length : Int) := by omega
      have HBw : Hid (Below w.heap.size w wr) := ⟨bthen HB0.out HB.out⟩
      obtain ⟨_, _, e1, _, g1⟩ := (H1.out.kept HBw.out).open
      cases e1
      obtain ⟨b1, o1, rfl, _, l1⟩ := g1 j hlt
      obtain ⟨x, hx⟩ : ∃ x, n.kids[j] = x := ⟨_, rfl⟩
      have mx : x ∈ n.kids := hx ▸ List.getElem_mem _
      rw [hx] at l1
      obtain ⟨p0, p1, p2, p3, vx, p4, sx⟩ := lies_iff.1 l1
      have IC := IH.out x mx wr vx B sx
      simp only [aggN, encN] at IC
      have HT : Hid (depL (n.kids.take (j + 1)) = max D x.dep) := by
        refine ⟨?_⟩
        rw [List.take_succ_eq_append_getElem hlt, depL_append, ← HD.out, hx, depL_cons, depL_nil]
        omega
      have hxz : x.dep ≤ 1000000 := by
        have h1 := HT.out
        have h2 := depL_append (n.kids.take (j + 1)) (n.kids.drop (j + 1))
        rw [List.take_append_drop] at h2
        have := HDZ.out
        omega
      by_cases hd : D < x.dep
      · have hd' : (D : Int) < (x.dep : Int) := by omega
        go_wp2_with (go_at_call 16; refine IC.mono ?_; clear IC; rintro e w1 ⟨rfl, hB1⟩)
        go_roundw
        case rel => exact ⟨j + 1, by go_num, by omega, ⟨x.dep, rfl, ⟨by have := HT.out; omega⟩⟩, ⟨bthen HB.out hB1⟩⟩
        case measure => simp [intOf]; omega
      · have hd' : ¬ (D : Int) < (x.dep : Int) := by omega
        go_wp2_with (go_at_call 16; refine IC.mono ?_; clear IC; rintro e w1 ⟨rfl, hB1⟩)
        go_roundw
        case rel => exact ⟨j + 1, by go_num, by omega, ⟨D, rfl, ⟨by have := HT.out; omega⟩⟩, ⟨bthen HB.out hB1⟩⟩
        case measure => simp [intOf]; omega
    · have hlt' : ¬ (j : Int) < (n.kids.length : Int) := by omega
      go_wp2
      go_ret
      refine ⟨ret_int ?_, bthen HB0.out HB.out⟩
      have := HD.out
      rw [List.take_of_length_le (by omega)] at this
      omega
set_option maxRecDepth 100000 in
set_option maxHeartbeats 2000000 in
/-- how many nodes, up to a limit -/
theorem asize_any (n : Nd) : ∀ (m : Nat) (w : World) (va : Value) (B : BP), m ≤ 1000000 → SlV B w va n.kids →
    Calls Try.prog 32 #[aggN n va, .int .i64 m] w fun e w' => e = .returned (.int .i64 ((min n.sz (m + 1) : Nat) : Int)) ∧ Below w.heap.size w w' := by
  induction n using Nd.ind3
  rename_i n ih
  intro m w va B hm ha
  simp only [aggN, encN]
  obtain ⟨a1, c1, rfl, hl1, -⟩ := ha.open
  have H1 : Hid (SlV B w (.slice a1 n.kids.length c1) n.kids) := ⟨ha⟩
  have IH : Hid (∀ x ∈ n.kids, ∀ (m : Nat) (w : World) (va : Value) (B : BP), m ≤ 1000000 → SlV B w va x.kids →
    Calls Try.prog 32 #[aggN x va, .int .i64 m] w fun e w' => e = .returned (.int .i64 ((min x.sz (m + 1) : Nat) : Int)) ∧ Below w.heap.size w w') := ⟨ih⟩
  clear ha ih
  rw [Nd.sz_eq]
  go_enter Try.func32, Try.ntmps32
  go_wp2
  have hW0 : (w.alloc (.cells #[.int .i64 n.kind, .int .i64 n.fr, .int .i64 n.to, .string n.text, .slice a1 n.kids.length c1] 24)).heap.size = w.heap.size + 1 := by simp
  have HB0 : Hid (Below w.heap.size w (w.alloc (.cells #[.int .i64 n.kind, .int .i64 n.fr, .int .i64 n.to, .string n.text, .slice a1 n.kids.length c1] 24))) := ⟨below_alloc _ _⟩
  have HA0 : Hid ((w.alloc (.cells #[.int .i64 n.kind, .int .i64 n.fr, .int .i64 n.to, .string n.text, .slice a1 n.kids.length c1] 24)).cell? ⟨w.heap.size, 4, none⟩ = some (.slice a1 n.kids.length c1)) := ⟨by simp⟩
  generalize (w.alloc (.cells #[.int .i64 n.kind, .int .i64 n.fr, .int .i64 n.to, .string n.text, .slice a1 n.kids.length c1] 24)) = W0 at *
  go_loopw [5, 6] (fun s i wr => ∃ j : Nat, i = .int .i64 j ∧ j ≤ n.kids.length ∧ (∃ S : Nat, s = .int .i64 S ∧ Hid (S = min (1 + szL (n.kids.take j)) (m + 1))) ∧ Hid (Below W0.heap.size W0 wr)) (fun _ i _ => n.kids.length - (intOf i).toNat)
  case atStart => exact ⟨0, rfl, by omega, ⟨1, rfl, ⟨by simp [szL_nil]⟩⟩, ⟨Below.refl _ _⟩⟩
  case round =>
    obtain ⟨j, rfl, hj, ⟨S, rfl, HS⟩, HB⟩ := hrel
    have c4 := bcell HB.out HA0.out
    have hS : S ≤ m + 1 := by have := HS.out; omega
    by_cases hlt : j < n.kids.length
    · have hlt' : (j : Int) < (n.kids.length : Int) := by omega
      by_cases hsm : S ≤ m
      · have hsm' : (S : Int) ≤ (m : Int) := by omega
        have HBw : Hid (Below w.heap.size w wr) := ⟨bthen HB0.out HB.out⟩
        obtain ⟨_, _, e1, _, g1⟩ := (H1.out.kept HBw.out).open
        cases e1
        obtain ⟨b1, o1, rfl, _, l1⟩ := g1 j hlt
        obtain ⟨x, hx⟩ : ∃ x, n.kids[j] = x := ⟨_, rfl⟩
        have mx : x ∈ n.kids := hx ▸ List.getElem_mem _
        rw [hx] at l1
        obtain ⟨p0, p1, p2, p3, vx, p4, sx⟩ := lies_iff.1 l1
        have IC := IH.out x mx (m - S) wr vx B (by omega) sx
        simp only [aggN, encN] at IC
        rw [show ((m - S : Nat) : Int) = (m : Int) - (S : Int) by omega] at IC
        obtain ⟨r, hr⟩ : ∃ r, min x.sz (m - S + 1) = r := ⟨_, rfl⟩
        have HR : Hid (r = min x.sz (m - S + 1)) := ⟨hr.symm⟩
        rw [hr] at IC
        have hr1 : r ≤ m - S + 1 := by omega
        clear hr
        have HT : Hid (szL (n.kids.take (j + 1)) = szL (n.kids.take j) + x.sz) := by
          refine ⟨?_⟩
          rw [List.take_succ_eq_append_getElem hlt, szL_append, hx, szL_cons, szL_nil, Nat.add_zero]
        go_wp2_with (go_at_call 32; refine IC.mono ?_; clear IC; rintro e w1 ⟨rfl, hB1⟩)
        go_roundw
        case rel => exact ⟨j + 1, by go_num, by omega, ⟨S + r, by go_num, ⟨by have := HT.out; have := HS.out; have := HR.out; omega⟩⟩, ⟨bthen HB.out hB1⟩⟩
        case measure => simp [intOf]; omega
      · have hsm' : ¬ (S : Int) ≤ (m : Int) := by omega
        go_wp2
        go_ret
        refine ⟨ret_int ?_, bthen HB0.out HB.out⟩
        have h1 := HS.out
        have h2 := szL_append (n.kids.take j) (n.kids.drop j)
        rw [List.take_append_drop] at h2
        omega
    · have hlt' : ¬ (j : Int) < (n.kids.length : Int) := by omega
      go_wp2
      go_ret
      refine ⟨ret_int ?_, bthen HB0.out HB.out⟩
      have := HS.out
      rw [List.take_of_length_le (by omega)] at this
      omega
theorem in_any (n : Nd) (w : World) (va : Value) (B : BP) (ha : SlV B w va n.kids) :
    Calls Try.prog 8 #[aggN n va] w fun e w' => e = .returned (.bool (decide (n.sz ≤ 300))) ∧ Below w.heap.size w w' := by
  have IC := asize_any n 300 (w.alloc (.cells (encN n va) 24)) va B (by omega) (ha.kept (below_alloc _ _))
  simp only [aggN, encN] at IC ⊢
  obtain ⟨r, hr⟩ : ∃ r, min n.sz (300 + 1) = r := ⟨_, rfl⟩
  rw [hr] at IC
  have e : decide (n.sz ≤ 300) = decide ((r : Int) ≤ 300) := by rw [decide_eq_decide]; omega
  rw [e]
  clear e hr
  obtain ⟨a1, c1, rfl, -, -⟩ := ha.open
  go_enter Try.func8, Try.ntmps8
  go_wp2_with (go_at_call 32; refine IC.mono ?_; clear IC; rintro e w1 ⟨rfl, hB1⟩)
  go_ret
  exact ⟨rfl, bthen (below_alloc _ _) hB1⟩
set_option maxRecDepth 100000 in
set_option maxHeartbeats 2000000 in
/-- a list of nodes against one that reads the same: true -/
theorem rows_any (l : List Nd) (w : World) (va vb : Value) (B C : BP) (ha : SlV B w va l) (hb : SlV C w vb l) :
    Calls Try.prog 19 #[va, vb] w fun e w' => e = .returned (.bool true) ∧ Below w.heap.size w w' := by
  obtain ⟨a1, c1, rfl, hl1, -⟩ := ha.open
  obtain ⟨a2, c2, rfl, hl2, -⟩ := hb.open
  have H1 : Hid (SlV B w (.slice a1 l.length c1) l) := ⟨ha⟩
  have H2 : Hid (SlV C w (.slice a2 l.length c2) l) := ⟨hb⟩
  clear ha hb hl2
  go_enter Try.func19, Try.ntmps19
  go_wp2
  go_loopw [5] (fun i wr => ∃ j : Nat, i = .int .i64 j ∧ j ≤ l.length ∧ Hid (Below w.heap.size w wr)) (fun i _ => l.length - (intOf i).toNat)
  case atStart => exact ⟨0, rfl, by omega, ⟨Below.refl _ _⟩⟩
  case round =>
    obtain ⟨j, rfl, hj, HBw⟩ := hrel
    by_cases hlt : j < l.length
    · have hlt' : (j : Int) < (l.length : Int) := by omega
      obtain ⟨_, _, e1, _, g1⟩ := (H1.out.kept HBw.out).open
      cases e1
      obtain ⟨b1, o1, rfl, _, l1⟩ := g1 j hlt
      obtain ⟨x, hx⟩ : ∃ x, l[j] = x := ⟨_, rfl⟩
      rw [hx] at l1
      obtain ⟨p0, p1, p2, p3, vx, p4, sx⟩ := lies_iff.1 l1
      obtain ⟨_, _, e2, _, g2⟩ := (H2.out.kept HBw.out).open
      cases e2
      obtain ⟨b2, o2, rfl, _, l2⟩ := g2 j hlt
      rw [hx] at l2
      obtain ⟨q0, q1, q2, q3, vy, q4, sy⟩ := lies_iff.1 l2
      have IC := nodes_any x wr.drew vx vy B C sx.drew sy.drew
      simp only [aggN, encN] at IC
      go_wp2
      go_region_held3 (fun w' => w'.cell? ⟨b1, o1 + j * 5, none⟩ = some (.int .i64 x.kind) ∧ w'.cell? ⟨b1, o1 + j * 5 + 1, none⟩ = some (.int .i64 x.fr) ∧ w'.cell? ⟨b1, o1 + j * 5 + 2, none⟩ = some (.int .i64 x.to) ∧ w'.cell? ⟨b1, o1 + j * 5 + 3, none⟩ = some (.string x.text) ∧ w'.cell? ⟨b1, o1 + j * 5 + 4, none⟩ = some (vx) ∧ w'.cell? ⟨b2, o2 + j * 5, none⟩ = some (.int .i64 x.kind) ∧ w'.cell? ⟨b2, o2 + j * 5 + 1, none⟩ = some (.int .i64 x.fr) ∧ w'.cell? ⟨b2, o2 + j * 5 + 2, none⟩ = some (.int .i64 x.to) ∧ w'.cell? ⟨b2, o2 + j * 5 + 3, none⟩ = some (.string x.text) ∧ w'.cell? ⟨b2, o2 + j * 5 + 4, none⟩ = some (vy))
        (first | go_keep | exact ⟨bcell hB1 p0, bcell hB1 p1, bcell hB1 p2, bcell hB1 p3, bcell hB1 p4, bcell hB1 q0, bcell hB1 q1, bcell hB1 q2, bcell hB1 q3, bcell hB1 q4⟩)
        (first | (go_at_call 13; refine IC.mono ?_; clear IC; rintro e w1 ⟨rfl, hB1⟩))
      go_wp2
      go_roundw
      case rel => exact ⟨j + 1, by go_num, by omega, ⟨bthen HBw.out (bthen (below_drew wr) hB1)⟩⟩
      case measure => simp [intOf]; omega
    · have hlt' : ¬ (j : Int) < (l.length : Int) := by omega
      go_wp2
      go_ret
      exact ⟨rfl, HBw.out⟩
end Go.Proofs.Ytgknigjpdnfkdaa
