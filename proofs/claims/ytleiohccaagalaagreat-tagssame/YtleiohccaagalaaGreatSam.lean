/-
  Same, walked.
-/
import Derived.Test.YtleiohccaagalaaGreatSet
namespace Go.Proofs.YtleiohccaagalaaGreat
open Go.RowKit Go.Sort
attribute [local go_sem ↓] Go.wp_at_zero Go.wp_at_succ
/-- do both hold alike for all sets? -/
def alike (p q : Pt) (T : List Bs) : Bool := decide (T.length ≤ 10) && (fst T (2 ^ T.length)).all fun s => p.holds s == q.holds s
theorem RuleV.kt {n : Nat} {w w' : World} {v : Value} {p : Pt} (h : RuleV w v p) (k : Below n w w') (hn : ∀ b, v = .pointer (some ⟨b, 0, none⟩) → b < n) : RuleV w' v p := by
  rcases h with h | ⟨b, hv, u, hb, hu⟩
  · exact .inl h
  · exact .inr ⟨b, hv, u, (k.block b (hn b hv)).trans hb, hu⟩
/-- the variables of Same at blocks B, B + 1, B + 2 -/
structure SmI (B : Nat) (rv sv : Value) (p q : Pt) (al : Bool) (W : World) : Prop where
  r : W.heap[B]? = some (.cells #[rv] 25 (0, 0))
  s : W.heap[B + 1]? = some (.cells #[sv] 25 (0, 0))
  al : W.heap[B + 2]? = some (.cells #[.bool al] 4 (0, 0))
  hr : RuleV W rv p
  hs : RuleV W sv q
  rl : ∀ b, rv = .pointer (some ⟨b, 0, none⟩) → b < B
  sl : ∀ b, sv = .pointer (some ⟨b, 0, none⟩) → b < B
theorem SmI.whole {B : Nat} {rv sv : Value} {p q : Pt} {al : Bool} {W W' : World} (h : SmI B rv sv p q al W) (k : Below W.heap.size W W') : SmI B rv sv p q al W' :=
  ⟨blk_kept k h.r, blk_kept k h.s, blk_kept k h.al, h.hr.whole k, h.hs.whole k, h.rl, h.sl⟩
theorem below_drew1 (w : World) : Below w.heap.size w w.drew := ⟨rfl, rfl, rfl, Nat.le_refl _, fun _ _ => rfl⟩
theorem ptr_form {w : World} {v : Value} {p : Pt} (h : RuleV w v p) : ∃ a, v = .pointer a := by
  rcases h with ⟨h, _⟩ | ⟨b, h, _⟩
  · exact ⟨_, h⟩
  · exact ⟨_, h⟩
set_option maxRecDepth 100000 in
set_option maxHeartbeats 4000000 in
theorem same1_any {B : Nat} {rv sv : Value} {p q : Pt} {al : Bool} {W : World} (h : SmI B rv sv p q al W) {a : Option Addr} {n c : Nat} {l : List Bs} (hT : TxV W a n c l) (hn : n ≤ 9223372036854775807) :
    Calls Tryz.prog 19 #[.slice a n c, .pointer (some ⟨B, 0, none⟩), .pointer (some ⟨B + 1, 0, none⟩), .pointer (some ⟨B + 2, 0, none⟩)] W fun e w' => e = .returned (.bool (p.holds l == q.holds l)) ∧ Kt B W w' ∧ SmI B rv sv p q (p.holds l == q.holds l) w' := by
  have HI : Hid (SmI B rv sv p q al W) := h
  have HT : Hid (TxV W a n c l) := hT
  obtain ⟨ra, rfl⟩ := ptr_form h.hr
  obtain ⟨sa, rfl⟩ := ptr_form h.hs
  have c0 := (bx1 h.r).1
  have c1 := (bx1 h.s).1
  have c2 := (bx1 h.al).1
  have f2 := (bx1 h.al).2
  have hlt : B + 2 < W.heap.size := (Array.getElem?_eq_some_iff.1 h.al).1
  have H1 : Hid (∀ W', Below W.heap.size W W' → Calls Tryz.prog 10 #[.pointer ra, .slice a n c] W' fun e w' => e = .returned (.bool (p.holds l)) ∧ Below W'.heap.size W' w') := fun W' hb => Holds_any (HI.out.hr.whole hb) (HT.out.whole hb) hn
  have H2 : Hid (∀ W', Below W.heap.size W W' → Calls Tryz.prog 10 #[.pointer sa, .slice a n c] W' fun e w' => e = .returned (.bool (q.holds l)) ∧ Below W'.heap.size W' w') := fun W' hb => Holds_any (HI.out.hs.whole hb) (HT.out.whole hb) hn
  clear h hT
  generalize p.holds l = b1 at *
  generalize q.holds l = b2 at *
  have kS : W.cell? ⟨B, 0, none⟩ = some (.pointer ra) ∧ W.cell? ⟨B + 1, 0, none⟩ = some (.pointer sa) := ⟨c0, c1⟩
  go_enter Tryz.func19, Tryz.ntmps19
  go_wp2_with fail
  go_region_held3 (fun w' => w'.cell? ⟨B, 0, none⟩ = some (.pointer ra) ∧ w'.cell? ⟨B + 1, 0, none⟩ = some (.pointer sa))
    (first | exact kS | go_keep)
    (first
      | (go_at_call_of 10 (Value.pointer ra); refine (H1.out _ (below_drew1 _)).mono ?_; rintro e w1 ⟨rfl, hb1⟩; have hb1 : Below W.heap.size W w1 := (below_drew1 _).trans hb1; have kS : w1.cell? ⟨B, 0, none⟩ = some (.pointer ra) ∧ w1.cell? ⟨B + 1, 0, none⟩ = some (.pointer sa) := ⟨kept_cell hb1 c0, kept_cell hb1 c1⟩; have d0 := kS.1; have d1 := kS.2; have d2 := kept_cell hb1 c2; have HB1 : Hid (Below W.heap.size W w1) := hb1; have hz1 := hb1.size; clear hb1)
      | (go_at_call_of 10 (Value.pointer sa); refine (H2.out _ HB1.out).mono ?_; rintro e w2 ⟨rfl, hb2'⟩; have hb2 : Below W.heap.size W w2 := HB1.out.trans (hb2'.mono hz1); have kS : w2.cell? ⟨B, 0, none⟩ = some (.pointer ra) ∧ w2.cell? ⟨B + 1, 0, none⟩ = some (.pointer sa) := ⟨kept_cell hb2 c0, kept_cell hb2 c1⟩; have e0 := kS.1; have e1 := kS.2; have e2 := kept_cell hb2 c2; have g2 := (kept_frozen hb2 c2).trans f2; have HB2 : Hid (Below W.heap.size W w2) := hb2; have hz2 := hb2.size; clear hb2 hb2'))
  go_wp2_with fail
  go_ret
  have hal := blk_kept HB2.out HI.out.al
  have hk : Kt B W (w2.setCell ⟨B + 2, 0, none⟩ (.bool (b1 == b2))) := (Kt.of HB2.out (by omega)).trans (kt_set hal (by decide) (by omega))
  exact ⟨rfl, hk, ⟨(Below.heap_setCell _ _ _ _ (by show B ≠ B + 2; omega)).trans (blk_kept HB2.out HI.out.r), (Below.heap_setCell _ _ _ _ (by show B + 1 ≠ B + 2; omega)).trans (blk_kept HB2.out HI.out.s), bx1_set hal, HI.out.hr.kt hk.below HI.out.rl, HI.out.hs.kt hk.below HI.out.sl, HI.out.rl, HI.out.sl⟩⟩
theorem call34 : ∀ (args : Array Value) (w : World), (callFunc 19 args).run Tryz.prog w = .ok (.enter 19 args) w := fun _ _ => by kernel_rfl
theorem all_fst (T : List Bs) (m : Nat) (f : List Bs → Bool) : (fst T m).all f = true ↔ ∀ j, j < m → f (chs T j T.length) = true := by
  simp only [fst, List.all_map, List.all_eq_true, List.mem_range, Function.comp]
theorem RuleV.lt {w : World} {v : Value} {p : Pt} (h : RuleV w v p) : ∀ b, v = .pointer (some ⟨b, 0, none⟩) → b < w.heap.size := by
  intro b hb
  rcases h with ⟨h, _⟩ | ⟨b', h, hr⟩
  · rw [h] at hb; cases hb
  · rw [h] at hb; simp at hb; rw [← hb]; exact hr.lt
set_option maxRecDepth 100000 in
set_option maxHeartbeats 4000000 in
theorem Same_any {w : World} {rv sv : Value} {p q : Pt} (hr : RuleV w rv p) (hs : RuleV w sv q) {a : Option Addr} {n c : Nat} {l : List Bs} (hT : TxV w a n c l) (hn : n ≤ 8796093021952) :
    Calls Tryz.prog 8 #[rv, sv, .slice a n c] w fun e w' => e = .returned (.bool (alike p q (eo l))) ∧ Below w.heap.size w w' := by
  obtain ⟨W0, hW0⟩ : ∃ W0, W0 = ((w.alloc (.cells #[rv] 25)).alloc (.cells #[sv] 25)).alloc (.cells #[.bool true] 4) := ⟨_, rfl⟩
  have hb0 : Below w.heap.size w W0 := by rw [hW0]; exact (((Below.refl _ _).alloc (Nat.le_refl _) _).alloc (by simp) _).alloc (by simp; omega) _
  have hz0 : W0.heap.size = w.heap.size + 3 := by rw [hW0]; simp
  have hI0 : SmI w.heap.size rv sv p q true W0 := by
    refine ⟨?_, ?_, ?_, hr.whole hb0, hs.whole hb0, hr.lt, hs.lt⟩
    · rw [hW0, Below.heap_alloc _ _ _ (by simp; omega), Below.heap_alloc _ _ _ (by simp)]; exact Go.heap_alloc_new _ _
    · rw [hW0, Below.heap_alloc _ _ _ (by simp)]
      have := Go.heap_alloc_new (w.alloc (.cells #[rv] 25)) (.cells #[sv] 25)
      rwa [show (w.alloc (.cells #[rv] 25)).heap.size = w.heap.size + 1 by simp] at this
    · rw [hW0]
      have := Go.heap_alloc_new ((w.alloc (.cells #[rv] 25)).alloc (.cells #[sv] 25)) (.cells #[.bool true] 4)
      rwa [show ((w.alloc (.cells #[rv] 25)).alloc (.cells #[sv] 25)).heap.size = w.heap.size + 2 by simp] at this
  have h1 := trySets_any (hT.whole hb0) hn w.heap.size (by omega) 19 #[.pointer (some ⟨w.heap.size, 0, none⟩), .pointer (some ⟨w.heap.size + 1, 0, none⟩), .pointer (some ⟨w.heap.size + 2, 0, none⟩)] call34
    (fun m W => SmI w.heap.size rv sv p q true W ∧ ∀ j, j < m → (p.holds (chs (eo l) j (eo l).length) == q.holds (chs (eo l) j (eo l).length)) = true)
    (fun W => SmI w.heap.size rv sv p q false W ∧ ∃ j, j < 2 ^ (eo l).length ∧ (p.holds (chs (eo l) j (eo l).length) == q.holds (chs (eo l) j (eo l).length)) = false)
    (fun W hb => ⟨hI0.whole hb, fun j hj => by omega⟩) (fun m W W' h hb => ⟨h.1.whole hb, h.2⟩)
    (fun m W a' c' h10 hm hz hI hr => by
      have hcl := chs_le (eo l) m (eo l).length
      refine (same1_any hI.1 hr.txv (by omega)).mono ?_
      rintro e w' ⟨he, hk, hi⟩
      refine ⟨_, he, hk, fun hb => ?_, fun hb => ?_⟩
      · rw [hb] at hi
        exact ⟨hi, fun j hj => by
          rcases Nat.lt_or_ge j m with h | h
          · exact hI.2 j h
          · rw [show j = m by omega]; exact hb⟩
      · rw [hb] at hi
        exact ⟨hi, m, hm, hb⟩)
  have HB0 : Hid (Below w.heap.size w W0) := hb0
  obtain ⟨ra, rfl⟩ := ptr_form hr
  obtain ⟨sa, rfl⟩ := ptr_form hs
  have HI0 : Hid _ := hI0
  clear hb0 hT hI0 hr hs
  generalize eo l = T at *
  by_cases h10 : T.length ≤ 10
  · have hfin : ∀ W : World, (SmI w.heap.size (.pointer ra) (.pointer sa) p q true W ∧ ∀ j, j < 2 ^ T.length → (p.holds (chs T j T.length) == q.holds (chs T j T.length)) = true) ∨ (SmI w.heap.size (.pointer ra) (.pointer sa) p q false W ∧ ∃ j, j < 2 ^ T.length ∧ (p.holds (chs T j T.length) == q.holds (chs T j T.length)) = false) → ∃ al, W.cell? ⟨w.heap.size + 1 + 1, 0, none⟩ = some (.bool al) ∧ al = alike p q T := by
      intro W h
      rcases h with ⟨h, ha⟩ | ⟨h, j, hj, ha⟩
      · refine ⟨true, (bx1 h.al).1, ?_⟩
        unfold alike
        rw [decide_eq_true h10, Bool.true_and]
        exact ((all_fst T (2 ^ T.length) fun s => p.holds s == q.holds s).2 ha).symm
      · refine ⟨false, (bx1 h.al).1, ?_⟩
        unfold alike
        rw [decide_eq_true h10, Bool.true_and]
        symm
        rw [Bool.eq_false_iff]
        intro hall
        rw [(all_fst T (2 ^ T.length) fun s => p.holds s == q.holds s).1 hall j hj] at ha
        cases ha
    have HF : Hid _ := hfin
    clear hfin
    rw [hW0] at h1
    generalize alike p q T = AL at *
    go_enter Tryz.func8, Tryz.ntmps8
    go_wp2_with (go_at_call 18; refine h1.mono ?_; intro e w1 hq; obtain ⟨rfl, hij⟩ := hq.few h10; obtain ⟨al, c2, hal⟩ := HF.out _ hij; subst hal; have HK1 : Hid _ := hq.kt; have hz1 := hq.kt.size; simp at hz1; clear hq hij h1)
    go_ret
    rw [← hW0] at HK1
    exact ⟨rfl, HB0.out.trans HK1.out.below⟩
  · rw [hW0] at h1
    go_enter Tryz.func8, Tryz.ntmps8
    go_wp2_with (go_at_call 18; refine h1.mono ?_; intro e w1 hq; obtain ⟨rfl, hb1⟩ := hq.many h10; rw [← hW0] at hb1; have HB1 : Hid (Below w.heap.size w w1) := HB0.out.trans (hb1.mono (by omega)); clear hq h1 hb1)
    go_ret
    exact ⟨ret_bool (by simp [alike, h10]), HB1.out⟩
end Go.Proofs.YtleiohccaagalaaGreat
