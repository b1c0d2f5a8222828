/-
  read and Read, walked.
-/
import Derived.Test.YtleiohccaagalaaGreatRed
namespace Go.Proofs.YtleiohccaagalaaGreat
open Go.RowKit
attribute [local go_sem ↓] Go.wp_at_zero Go.wp_at_succ
theorem below_draws (B : Nat) (w : World) (n : Nat) : Below B w (w.drewN n) := ⟨rfl, rfl, rfl, Nat.le_refl _, fun _ _ => rfl⟩
theorem SplQ.not {w w' : World} {e : Ending} (h : SplQ w none e w') : ∃ v, e = .returned (.tuple #[v, .bool false]) ∧ Below w.heap.size w w' := by
  obtain ⟨v, ok, he, hy, hn⟩ := h.any
  cases ok with
  | false => exact ⟨v, he, h.bl⟩
  | true => obtain ⟨_, h2, _⟩ := hy rfl; cases h2
theorem SplQ.yes {w w' : World} {e : Ending} {l : List Bs} (h : SplQ w (some l) e w') : ∃ a c, e = .returned (.tuple #[.slice a l.length c, .bool true]) ∧ SRow w' w.heap.size (.slice a l.length c) l ∧ Below w.heap.size w w' := by
  obtain ⟨v, ok, he, hy, hn⟩ := h.any
  cases ok with
  | false => cases hn rfl
  | true =>
    obtain ⟨l', h2, h3⟩ := hy rfl
    cases h2
    obtain ⟨a, c, rfl⟩ := own_slice h3
    exact ⟨a, c, he, h3, h.bl⟩
/-- what read answers -/
structure RedQ (w : World) (res : Option Pt) (e : Ending) (w' : World) : Prop where
  bl : Below w.heap.size w w'
  any : ∃ v ok, e = .returned (.tuple #[v, .bool ok]) ∧ IfV v ∧ (ok = true → ∃ p, res = some p ∧ v = enc p) ∧ (ok = false → res = none)
theorem SRow.rest {w w' : World} {base B : Nat} {a : Option Addr} {c : Nat} {l : List Bs} (h : SRow w base (.slice a l.length c) l) (hk : ∀ k, k < w.heap.size → w'.heap[k]? = w.heap[k]?) (hB : w.heap.size ≤ B) : RestV B w' a l.length c l := by
  have h2 : SRow w' base (.slice a l.length c) l := own_far h fun k hk' => hk k (h.lt k hk').2
  rcases h2.2 with ⟨h', h0⟩ | ⟨g, cap, cur, hv, h1, h3, h4, h5, _⟩
  · simp only [Value.slice.injEq] at h'
    exact ⟨rfl, by omega, by omega, fun hne => absurd (List.length_pos_iff.2 hne) (by omega)⟩
  · simp only [Value.slice.injEq, true_and] at hv
    obtain ⟨rfl, rfl⟩ := hv
    unfold maxLen at h5
    refine ⟨rfl, h4, by omega, fun _ => ⟨g, 0, rfl, ?_, fun i t ht => ?_⟩⟩
    · have := (h.lt g rfl).2; omega
    · have := h2.cells (g := g) rfl i _ (sv_get ht)
      rw [Go.WideShapes.add_plain] at this
      exact this
set_option maxRecDepth 100000 in
set_option maxHeartbeats 4000000 in
theorem read_any (S : ByteArray) (w : World) (hS : S.size ≤ 1000000) : Calls Tryz.prog 15 #[.string S] w (RedQ w (lineR S.data.toList)) := by
  have h1 := split_any S w hS
  have hL : lineR S.data.toList = ((pcs S.data.toList).bind few200).bind parse := by
    unfold lineR
    cases pcs S.data.toList with
    | none => rfl
    | some l => simp only [Option.bind_some, few200]; split <;> simp
  rw [hL]
  clear hL
  cases hp : (pcs S.data.toList).bind few200 with
  | none =>
    rw [hp] at h1
    clear hp
    go_enter Tryz.func15, Tryz.ntmps15
    go_wp2_with (go_at_call 27; refine h1.mono ?_; intro e w1 hq; obtain ⟨v, rfl, hb1⟩ := hq.not; clear hq h1; have HB1 : Hid _ := hb1; clear hb1)
    go_ret2
    exact ⟨HB1.out, _, false, rfl, .inl rfl, (fun h => by cases h), fun _ => rfl⟩
  | some l =>
    rw [hp] at h1
    have hl : l.length ≤ 200 := by
      cases h2 : pcs S.data.toList with
      | none => rw [h2] at hp; cases hp
      | some m =>
        rw [h2] at hp
        simp only [Option.bind_some, few200] at hp
        split at hp
        · cases hp; assumption
        · cases hp
    clear hp
    simp only [Option.bind_some, parse]
    have HR : Hid (∀ (B : Nat) W, Rs B W l → Calls Tryz.prog 28 #[.pointer (some ⟨B, 0, none⟩)] W (RdQ B W (rule (l.length + 1) l))) := fun B W h => rule_any (l.length + 1) l W (by omega) h
    generalize rule (l.length + 1) l = RES at *
    have HRS : Hid (∀ (W : World) a c, SRow W w.heap.size (.slice a l.length c) l → Rs W.heap.size (W.alloc (.cells #[.slice a l.length c] 62)) l) := fun W a c h =>
      ⟨a, l.length, c, Go.heap_alloc_new _ _, h.rest (fun k hk => Below.heap_alloc _ _ _ hk) (Nat.le_refl _)⟩
    cases hRES : RES with
    | none =>
      rw [hRES] at HR
      clear hRES
      go_enter Tryz.func15, Tryz.ntmps15
      go_wp2_with (first
        | (go_at_call 27; refine h1.mono ?_; intro e w1 hq; obtain ⟨a, c, rfl, hr1, hb1⟩ := hq.yes; clear hq h1; have HB1 : Hid (Below w.heap.size w w1) := hb1; have HR1 : Hid _ := hr1; have hz1 := hb1.size; clear hb1 hr1)
        | (go_at_call 28; refine (HR.out _ _ (HRS.out _ _ _ HR1.out)).mono ?_; intro e w2 hq; obtain ⟨v, rfl, hv, kp⟩ := hq.not; have HB2 : Hid (Below w.heap.size w w2) := (HB1.out.alloc hz1 _).trans (kp.below (by simp; omega) (fun b hb he => by omega)); clear hq kp))
      go_quiet (fail)
      go_wp2_with fail
      go_ret2
      exact ⟨HB2.out.trans (below_draws _ _ _), _, false, rfl, hv, (fun h => by cases h), fun _ => rfl⟩
    | some x =>
      obtain ⟨p, s⟩ := x
      rw [hRES] at HR
      clear hRES
      obtain ⟨tp, xp, hp⟩ := enc_if p
      have HE : Hid (enc p = .iface tp xp) := hp
      clear hp
      by_cases hs : s = []
      · subst hs
        go_enter Tryz.func15, Tryz.ntmps15
        go_wp2_with (first
          | (go_at_call 27; refine h1.mono ?_; intro e w1 hq; obtain ⟨a, c, rfl, hr1, hb1⟩ := hq.yes; clear hq h1; have HB1 : Hid (Below w.heap.size w w1) := hb1; have HR1 : Hid _ := hr1; have hz1 := hb1.size; clear hb1 hr1)
          | (go_at_call 28; refine (HR.out _ _ (HRS.out _ _ _ HR1.out)).mono ?_; intro e w2 hq; obtain ⟨he, kp, rs⟩ := hq.yes; rw [HE.out] at he; subst he; have HB2 : Hid (Below w.heap.size w w2) := (HB1.out.alloc hz1 _).trans (kp.below (by simp; omega) (fun b hb he => by omega)); obtain ⟨a3, n3, c3, hb3, hr3⟩ := rs.ex; obtain ⟨c0, f0⟩ := bx1 hb3; obtain rfl := hr3.len; have hlt := rs.lt; clear hq kp rs hb3 hr3))
        go_quiet (fail)
        go_wp2_with fail
        go_ret2
        exact ⟨HB2.out.trans (below_draws _ _ _), _, true, rfl, .inr ⟨_, _, rfl⟩, (fun _ => ⟨p, rfl, HE.out.symm⟩), fun h => by cases h⟩
      · have HS : Hid (s ≠ []) := hs
        clear hs
        go_enter Tryz.func15, Tryz.ntmps15
        go_wp2_with (first
          | (go_at_call 27; refine h1.mono ?_; intro e w1 hq; obtain ⟨a, c, rfl, hr1, hb1⟩ := hq.yes; clear hq h1; have HB1 : Hid (Below w.heap.size w w1) := hb1; have HR1 : Hid _ := hr1; have hz1 := hb1.size; clear hb1 hr1)
          | (go_at_call 28; refine (HR.out _ _ (HRS.out _ _ _ HR1.out)).mono ?_; intro e w2 hq; obtain ⟨he, kp, rs⟩ := hq.yes; rw [HE.out] at he; subst he; have HB2 : Hid (Below w.heap.size w w2) := (HB1.out.alloc hz1 _).trans (kp.below (by simp; omega) (fun b hb he => by omega)); obtain ⟨a3, n3, c3, hb3, hr3⟩ := rs.ex; obtain ⟨c0, f0⟩ := bx1 hb3; have hn3 := hr3.len; have k0 : ((n3 : Int) == 0) = false := nat_bne (b := 0) (by rw [hn3]; exact fun h => HS.out (List.eq_nil_of_length_eq_zero h)); have hlt := rs.lt; clear hq kp rs hb3 hr3 hn3))
        go_quiet (fail)
        go_wp2_with fail
        go_ret2
        refine ⟨HB2.out.trans (below_draws _ _ _), _, false, rfl, .inr ⟨_, _, rfl⟩, (fun h => by cases h), fun _ => ?_⟩
        cases s with
        | nil => exact absurd rfl HS.out
        | cons _ _ => rfl
end Go.Proofs.YtleiohccaagalaaGreat
