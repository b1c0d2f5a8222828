/-
  line of the document's scanner, walked: a line's end.
-/
import Derived.Test.YtmfdfkbcommjfaaDoorRefB
namespace Go.Proofs.YtmfdfkbcommjfaaDoor
open Go.RowKit
attribute [local go_sem ↓] Go.wp_at_zero Go.wp_at_succ
set_option maxRecDepth 100000 in
set_option maxHeartbeats 1000000 in
theorem rline_empty (w : World) (base R : Nat) (S : ByteArray) (i : Nat) (rems : List (Nat × Nat)) (c a : Nat) (h : Sc w base R S i ⟨[], rems⟩ c a) (p : Nat) :
    Calls Tryd.prog 36 #[.pointer (some ⟨R, 0, none⟩), .int .i64 p] w (ScP w base R S i ⟨[], rems⟩ c a) := by
  obtain ⟨tv, c2, hne, hown, hput⟩ := h.open2
  have HH : Hid (Sc w base R S i ⟨[], rems⟩ c a) := h
  have htv : tv = .slice none 0 0 ∨ ∃ g cap, tv = .slice (some ⟨g, 0, none⟩) 0 cap := by
    rcases hown.2 with ⟨h', _⟩ | ⟨g', cap', cur, hv', _⟩
    · exact .inl h'
    · exact .inr ⟨g', cap', hv'⟩
  clear h hown hput
  rcases htv with rfl | ⟨g, cap, rfl⟩
  all_goals
   go_enter Tryd.func36, Tryd.ntmps36
   go_wp2
   refine bodyPost_end (results_none rfl _ _ _) rfl ?_
   exact ⟨rfl, HH.out, Below.refl _ _⟩
/-- the tests of a token: may a stmt end behind it -/
structure Tst (k : Int) (x : List UInt8) (E : Bool) : Prop where
  ex : ((k == 1) = true ∧ (k == 4) = false ∧ (k == 5) = false ∧ E = true) ∨
    ((k == 1) = false ∧ (k == 2) = true ∧ (k == 4) = false ∧ (k == 5) = false ∧ E = true) ∨
    ((k == 1) = false ∧ (k == 2) = false ∧ (k == 3) = true ∧ (k == 4) = false ∧ (k == 5) = false ∧ E = true) ∨
    ((k == 1) = false ∧ (k == 2) = false ∧ (k == 3) = false ∧ (k == 4) = false ∧ (k == 5) = false ∧ E = false) ∨
    ((k == 1) = false ∧ (k == 2) = false ∧ (k == 3) = false ∧ (k == 4) = true ∧ (k == 5) = false ∧ (x == [98, 114, 101, 97, 107]) = true ∧ E = true) ∨
    ((k == 1) = false ∧ (k == 2) = false ∧ (k == 3) = false ∧ (k == 4) = true ∧ (k == 5) = false ∧ (x == [98, 114, 101, 97, 107]) = false ∧ (x == [99, 111, 110, 116, 105, 110, 117, 101]) = true ∧ E = true) ∨
    ((k == 1) = false ∧ (k == 2) = false ∧ (k == 3) = false ∧ (k == 4) = true ∧ (k == 5) = false ∧ (x == [98, 114, 101, 97, 107]) = false ∧ (x == [99, 111, 110, 116, 105, 110, 117, 101]) = false ∧ (x == [114, 101, 116, 117, 114, 110]) = E) ∨
    ((k == 1) = false ∧ (k == 2) = false ∧ (k == 3) = false ∧ (k == 4) = false ∧ (k == 5) = true ∧ (x == [43, 43]) = true ∧ E = true) ∨
    ((k == 1) = false ∧ (k == 2) = false ∧ (k == 3) = false ∧ (k == 4) = false ∧ (k == 5) = true ∧ (x == [43, 43]) = false ∧ (x == [45, 45]) = true ∧ E = true) ∨
    ((k == 1) = false ∧ (k == 2) = false ∧ (k == 3) = false ∧ (k == 4) = false ∧ (k == 5) = true ∧ (x == [43, 43]) = false ∧ (x == [45, 45]) = false ∧ (x == [41]) = true ∧ E = true) ∨
    ((k == 1) = false ∧ (k == 2) = false ∧ (k == 3) = false ∧ (k == 4) = false ∧ (k == 5) = true ∧ (x == [43, 43]) = false ∧ (x == [45, 45]) = false ∧ (x == [41]) = false ∧ (x == [93]) = true ∧ E = true) ∨
    ((k == 1) = false ∧ (k == 2) = false ∧ (k == 3) = false ∧ (k == 4) = false ∧ (k == 5) = true ∧ (x == [43, 43]) = false ∧ (x == [45, 45]) = false ∧ (x == [41]) = false ∧ (x == [93]) = false ∧ (x == [125]) = E)
theorem tst (k : Int) (x : List UInt8) : Tst k x (endsZ k x) := by
  unfold endsZ
  have one : ∀ a b : Int, a ≠ b → (k == a) = true → (k == b) = false := fun a b h e => by
    rw [eq_of_beq e]; simpa using h
  cases h1 : k == 1
  · cases h2 : k == 2
    · cases h3 : k == 3
      · cases h4 : k == 4
        · cases h5 : k == 5
          · exact ⟨.inr (.inr (.inr (.inl ⟨h1, h2, h3, h4, h5, rfl⟩)))⟩
          · cases x1 : x == [43, 43]
            · cases x2 : x == [45, 45]
              · cases x3 : x == [41]
                · cases x4 : x == [93]
                  · exact ⟨.inr (.inr (.inr (.inr (.inr (.inr (.inr (.inr (.inr (.inr (.inr ⟨h1, h2, h3, h4, h5, x1, x2, x3, x4, by simp⟩))))))))))⟩
                  · exact ⟨.inr (.inr (.inr (.inr (.inr (.inr (.inr (.inr (.inr (.inr (.inl ⟨h1, h2, h3, h4, h5, x1, x2, x3, x4, by simp⟩))))))))))⟩
                · exact ⟨.inr (.inr (.inr (.inr (.inr (.inr (.inr (.inr (.inr (.inl ⟨h1, h2, h3, h4, h5, x1, x2, x3, by simp⟩)))))))))⟩
              · exact ⟨.inr (.inr (.inr (.inr (.inr (.inr (.inr (.inr (.inl ⟨h1, h2, h3, h4, h5, x1, x2, by simp⟩))))))))⟩
            · exact ⟨.inr (.inr (.inr (.inr (.inr (.inr (.inr (.inl ⟨h1, h2, h3, h4, h5, x1, by simp⟩)))))))⟩
        · have h5 := one 4 5 (by decide) h4
          cases x1 : x == [98, 114, 101, 97, 107]
          · cases x2 : x == [99, 111, 110, 116, 105, 110, 117, 101]
            · exact ⟨.inr (.inr (.inr (.inr (.inr (.inr (.inl ⟨h1, h2, h3, h4, h5, x1, x2, by simp [h5]⟩))))))⟩
            · exact ⟨.inr (.inr (.inr (.inr (.inr (.inl ⟨h1, h2, h3, h4, h5, x1, x2, by simp⟩)))))⟩
          · exact ⟨.inr (.inr (.inr (.inr (.inl ⟨h1, h2, h3, h4, h5, x1, by simp⟩))))⟩
      · exact ⟨.inr (.inr (.inl ⟨h1, h2, h3, one 3 4 (by decide) h3, one 3 5 (by decide) h3, by simp⟩))⟩
    · exact ⟨.inr (.inl ⟨h1, h2, one 2 4 (by decide) h2, one 2 5 (by decide) h2, by simp⟩)⟩
  · exact ⟨.inl ⟨h1, one 1 4 (by decide) h1, one 1 5 (by decide) h1, by simp⟩⟩
set_option maxRecDepth 100000 in
set_option maxHeartbeats 4000000 in
theorem rline_last (w : World) (base R : Nat) (S : ByteArray) (i : Nat) (l : List Tk) (t : Tk) (rems : List (Nat × Nat)) (c a : Nat) (h : Sc w base R S i ⟨l ++ [t], rems⟩ c a) (p : Nat) (hl : l.length ≤ 1000000) :
    Calls Tryd.prog 36 #[.pointer (some ⟨R, 0, none⟩), .int .i64 p] w (ScP w base R S i ⟨eol p (l ++ [t]), rems⟩ c a) := by
  have hlt := h.lt
  have hle := h.le
  have f2 := h.frz 2
  obtain ⟨tv, c2, hne, hown, hput⟩ := h.open2
  have HH : Hid (Sc w base R S i ⟨l ++ [t], rems⟩ c a) := h
  obtain ⟨g, cap, rfl, hg, hcap, d0, d1, d2, d3⟩ := last_cells hown
  have HO : Hid (w.ownsRow base 38 4 (.slice (some ⟨g, 0, none⟩) (l.length + 1) cap) (l ++ [t]).length (flT (l ++ [t]))) := hown
  have HPut : Hid _ := @hput
  have HL : Hid ((l ++ [t]).length = l.length + 1) := (List.length_append : (l ++ [t]).length = l.length + [t].length)
  have he : endsZ (t.kind : Int) (bsL t.text).toList = ends t := by rw [← endsZ_nat]; congr 1; exact Lib.toList_data _
  have hT := tst (t.kind : Int) (bsL t.text).toList
  rw [he] at hT
  have HY : Hid (ends t = true → eol p (l ++ [t]) = l ++ [t] ++ [⟨6, p, p, [10]⟩]) := fun h => eol_yes h
  have HNo : Hid (ends t = false → eol p (l ++ [t]) = l ++ [t]) := fun h => eol_no h
  obtain ⟨i38, i1, i2, i3, i4⟩ := info38_ex
  have HI : Hid (Tryd.prog.info? 38 = some i38 ∧ i38.zero = some (.agg #[.int .i64 0, .int .i64 0, .int .i64 0, .string ⟨#[]⟩]) ∧ i38.size = 4 ∧ i38.bytes = 40) := ⟨i1, i2, i3, i4⟩
  have HTT : Hid (Tst (t.kind : Int) (bsL t.text).toList (ends t)) := hT
  clear h hown hput i1 i2 i3 i4 he hT
  generalize hN : l.length = N at *
  have z0 : IntKind.i64.wrap (((N + 1 : Nat) : Int) - 1) = (N : Int) := by rw [wrap_small _ (by omega) (by omega)]; omega
  have z1 : ((((N + 1 : Nat) : Int)) == 0) = false := by simp; omega
  generalize ends t = E at *
  go_enter Tryd.func36, Tryd.ntmps36
  go_wp2
  go_region
  have hT := HTT.out.ex
  clear HTT
  have HB1 : Hid (Below w.heap.size w (w.alloc (.cells #[.int .i64 t.kind, .int .i64 t.lo, .int .i64 t.hi, .string (bsL t.text)] 38)).drew) := ((Below.refl _ w).alloc (Nat.le_refl _) _).drew
  have hA : (w.alloc (.cells #[.int .i64 t.kind, .int .i64 t.lo, .int .i64 t.hi, .string (bsL t.text)] 38)).drew.heap[w.heap.size]? = some (.cells #[.int .i64 t.kind, .int .i64 t.lo, .int .i64 t.hi, .string (bsL t.text)] 38 (0, 0)) := heap_alloc_new w _
  have g0 : (w.alloc (.cells #[.int .i64 t.kind, .int .i64 t.lo, .int .i64 t.hi, .string (bsL t.text)] 38)).drew.cell? ⟨w.heap.size, 0, none⟩ = some (.int .i64 t.kind) := cell_of hA _
  have g3 : (w.alloc (.cells #[.int .i64 t.kind, .int .i64 t.lo, .int .i64 t.hi, .string (bsL t.text)] 38)).drew.cell? ⟨w.heap.size, 3, none⟩ = some (.string (bsL t.text)) := cell_of hA _
  have c2' : (w.alloc (.cells #[.int .i64 t.kind, .int .i64 t.lo, .int .i64 t.hi, .string (bsL t.text)] 38)).drew.cell? ⟨R, 2, none⟩ = some (.slice (some ⟨g, 0, none⟩) (N + 1) cap) := (HB1.out.cell hlt).trans c2
  have f2' : (w.alloc (.cells #[.int .i64 t.kind, .int .i64 t.lo, .int .i64 t.hi, .string (bsL t.text)] 38)).drew.frozen? ⟨R, 2, none⟩ = false := (HB1.out.frozen hlt).trans f2
  have hz : w.heap.size < (w.alloc (.cells #[.int .i64 t.kind, .int .i64 t.lo, .int .i64 t.hi, .string (bsL t.text)] 38)).drew.heap.size := (Array.getElem?_eq_some_iff.1 hA).1
  clear hA c2 f2 d0 d1 d2 d3
  generalize (w.alloc (.cells #[.int .i64 t.kind, .int .i64 t.lo, .int .i64 t.hi, .string (bsL t.text)] 38)).drew = w1 at *
  generalize (t.kind : Int) = K at *
  generalize bsL t.text = X at *
  cases E
  · have HNo2 : Hid (eol p (l ++ [t]) = l ++ [t]) := HNo.out rfl
    clear HY HNo
    simp only [Bool.false_eq_true, and_false, false_or] at hT
    rcases hT with ⟨q1, q2, q3, q4, q5⟩ | ⟨q1, q2, q3, q4, q5, q6, q7, q8⟩ | ⟨q1, q2, q3, q4, q5, q6, q7, q8, q9, q10⟩
    all_goals
      go_wp2
      refine bodyPost_end (results_none rfl _ _ _) rfl ?_
      rw [HNo2.out]
      exact ⟨rfl, HH.out.below HB1.out, HB1.out.mono (by omega)⟩
  · have HY2 : Hid (eol p (l ++ [t]) = l ++ [t] ++ [⟨6, p, p, [10]⟩]) := HY.out rfl
    clear HY HNo
    simp only [Bool.true_eq_false, and_false, false_or, and_true] at hT
    rcases hT with ⟨q1, q2, q3⟩ | ⟨q1, q2, q3, q4⟩ | ⟨q1, q2, q3, q4, q5⟩ | ⟨q1, q2, q3, q4, q5, q6⟩ | ⟨q1, q2, q3, q4, q5, q6, q7⟩ | ⟨q1, q2, q3, q4, q5, q6, q7, q8⟩ | ⟨q1, q2, q3, q4, q5, q6⟩ | ⟨q1, q2, q3, q4, q5, q6, q7⟩ | ⟨q1, q2, q3, q4, q5, q6, q7, q8⟩ | ⟨q1, q2, q3, q4, q5, q6, q7, q8, q9⟩ | ⟨q1, q2, q3, q4, q5, q6, q7, q8, q9, q10⟩
    all_goals
      go_wp2_with (at_builtin; refine wpList_append_lies _ (by rfl) _ _ _ (by rfl) base 38 i38 _ 4 40 Tryd.underlying23 HI.out.1 HI.out.2.1 HI.out.2.2.1 HI.out.2.2.2 rfl (by omega) (.slice (some ⟨g, 0, none⟩) (N + 1) cap) (l ++ [t]).length (flT (l ++ [t])) (by rfl) ((HO.out.below HB1.out).alloc _) ⟨w1.heap.size, 0, none⟩ 1 1 [.int .i64 6, .int .i64 p, .int .i64 p, .string ⟨#[10]⟩] (by rfl) (by rfl) (World.news_of_block (heap_alloc_new w1 _)) (by simp [Value.oneCell']) (by omega) (by have := HL.out; unfold maxLen; omega) (by have := HL.out; omega) (by simp; omega) (w1.heap.size + 1) (by simp) ?_; intro gg cap2 w2 hown1 hgrow hat hlt1; have HO1 : Hid _ := hown1; have HG1 : Hid _ := hgrow; have k1 : w2.cell? ⟨R, 2, none⟩ = some (.slice (some ⟨g, 0, none⟩) (N + 1) cap) := (by rw [hgrow.cell_far ⟨R, 2, none⟩ (by simp; omega) (Ne.symm hne), World.cell?_alloc_lt _ _ _ (by show R < w1.heap.size; omega)]; exact c2'); have k2 : w2.frozen? ⟨R, 2, none⟩ = false := (by rw [hgrow.frozen_far ⟨R, 2, none⟩ (by simp; omega) (Ne.symm hne), World.frozen?_alloc_old _ _ _ (by show R ≠ w1.heap.size; omega)]; exact f2'); clear hown1 hgrow hat)
      refine bodyPost_end (results_none rfl _ _ _) rfl ?_
      have q := HPut.out (t := ⟨6, p, p, [10]⟩) (HB1.out.alloc (by omega) _) HG1.out HO1.out
      rw [show (St.mk (l ++ [t]) rems).toks.length = N + 1 from HL.out] at q
      rw [HY2.out]
      exact ⟨rfl, q.1, q.2⟩
theorem rline_any (w : World) (base R : Nat) (S : ByteArray) (i : Nat) (s : St) (c a : Nat) (h : Sc w base R S i s c a) (p : Nat) (hl : s.toks.length ≤ 1000000) :
    Calls Tryd.prog 36 #[.pointer (some ⟨R, 0, none⟩), .int .i64 p] w (ScP w base R S i ⟨eol p s.toks, s.rems⟩ c a) := by
  obtain ⟨toks, rems⟩ := s
  rcases List.eq_nil_or_concat toks with h0 | ⟨l, t, h0⟩
  · subst h0; exact rline_empty w base R S i rems c a h p
  · rw [List.concat_eq_append] at h0
    subst h0
    exact rline_last w base R S i l t rems c a h p (by simp at hl; omega)
end Go.Proofs.YtmfdfkbcommjfaaDoor
