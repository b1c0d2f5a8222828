/-
  add and endLine of the reader, walked.
-/
import Derived.Test.YtmfdfkbcommjfaaDoorWalkB
namespace Go.Proofs.YtmfdfkbcommjfaaDoor
open Go.RowKit
attribute [local go_sem ↓] Go.wp_at_zero Go.wp_at_succ
structure AddP (w : World) (base R : Nat) (S : ByteArray) (s : St) (r : Value) (e : Ending) (w' : World) : Prop where
  ret : e = .returned r
  rd : Rd w' base R S s
  bl : Below base w w'
  ot : Oth R w w'
theorem _root_.Go.World.ownsRow.below {w w' : World} {base n size : Nat} {e : TypeId} {v : Value} {xs : List Value} (h : w.ownsRow base e size v n xs) (hb : Below w.heap.size w w') : w'.ownsRow base e size v n xs :=
  own_far h fun k hk => hb.block k (h.lt k hk).2
theorem ext_list (S : ByteArray) (lo hi : Nat) : S.extract lo hi = bsL ((S.data.toList.take hi).drop lo) := by
  apply ByteArray.ext
  rw [ByteArray.data_extract]
  apply Array.ext'
  simp [bsL, List.take_drop]
  rcases Nat.lt_or_ge hi lo with h | h
  · rw [Nat.sub_eq_zero_of_le (by omega)]
    simp
    omega
  · rw [Nat.add_sub_cancel' h]
set_option maxRecDepth 100000 in
set_option maxHeartbeats 1000000 in
theorem add_any (w : World) (base R : Nat) (S : ByteArray) (s : St) (h : Rd w base R S s) (kd lo hi : Nat) (h1 : lo ≤ hi) (h2 : hi ≤ S.size) (hl : s.toks.length ≤ 1000000) :
    Calls Tryd.prog 50 #[.pointer (some ⟨R, 0, none⟩), .int .i64 kd, .int .i64 lo, .int .i64 hi] w (AddP w base R S ⟨s.toks ++ [⟨kd, lo, hi, (S.data.toList.take hi).drop lo⟩], s.rems⟩ (.int .i64 hi)) := by
  obtain ⟨hle, tv, rv, hR, ht, hr⟩ := h
  have c0 : w.cell? ⟨R, 0, none⟩ = some (.string S) := by simp [World.cell?, hR]
  have c1 : w.cell? ⟨R, 1, none⟩ = some tv := by simp [World.cell?, hR]
  have hlt : R < w.heap.size := (Array.getElem?_eq_some_iff.1 hR).1
  have hne : tv.ownBlock ≠ some R := own_ne ht hR (by decide)
  have z1 : (0 : Int) ≤ (lo : Int) := by omega
  have z2 : (lo : Int) ≤ (hi : Int) := by omega
  have z3 : (hi : Int) ≤ (S.size : Int) := by omega
  obtain ⟨i38, i1, i2, i3, i4⟩ := info38_ex
  have HI : Hid (Tryd.prog.info? 38 = some i38 ∧ i38.zero = some (.agg #[.int .i64 0, .int .i64 0, .int .i64 0, .string ⟨#[]⟩]) ∧ i38.size = 4 ∧ i38.bytes = 40) := ⟨i1, i2, i3, i4⟩
  have HR : Hid (w.heap[R]? = some (.cells #[.string S, tv, rv] 60 (0, 0))) := hR
  have HT : Hid (w.ownsRow base 38 4 tv s.toks.length (flT s.toks)) := ht
  have HS : Hid (w.ownsRow base 33 2 rv s.rems.length (flS s.rems)) := hr
  have HX : Hid (S.extract lo hi = bsL ((S.data.toList.take hi).drop lo)) := ext_list S lo hi
  clear i1 i2 i3 i4 hR ht hr
  have f1 : w.frozen? ⟨R, 1, none⟩ = false := by simp [World.frozen?, HR.out]
  go_enter Tryd.func50, Tryd.ntmps50
  go_wp2
  go_region_law
    ((refine step_append_lies _ (by rfl) _ _ _ (by rfl) base 38 i38 _ 4 40 Tryd.underlying23 HI.out.1 HI.out.2.1 HI.out.2.2.1 HI.out.2.2.2 rfl (by omega) tv s.toks.length (flT s.toks) (by rfl) ((HT.out.drew).alloc _)
            ⟨w.heap.size, 0, none⟩ 1 1 [.int .i64 kd, .int .i64 lo, .int .i64 hi, .string (S.extract lo hi)] (by rfl) (by rfl) (World.news_of_block (heap_alloc_new w.drew _)) (by simp [Value.oneCell'])
            (by omega) (by unfold maxLen; omega) (by omega) (by simp; omega) (w.heap.size + 1) (by simp) ?_; intro gg cap w1 hown1 hgrow hat hlt1; have k1 := hgrow.cell_far ⟨R, 1, none⟩ (by simp; omega) (Ne.symm hne); have k2 := hgrow.frozen_far ⟨R, 1, none⟩ (by simp; omega) (Ne.symm hne)))
  all_goals
   go_wp2
   go_ret
   have q := rd_tok (t := ⟨kd, lo, hi, (S.data.toList.take hi).drop lo⟩) hle HR.out HT.out HS.out (((Below.refl _ w).alloc (Nat.le_refl _) _).drew) hgrow (by have k3 := hown1; rw [HX.out] at k3; exact k3)
   exact ⟨rfl, q.1, q.2.1, q.2.2⟩
theorem flT_len (l : List Tk) : (flT l).length = l.length * 4 := by
  induction l with
  | nil => rfl
  | cons t l ih => show (tkC t ++ flT l).length = _; rw [List.length_append, ih]; simp [tkC]; omega
theorem flT_last (l : List Tk) (t : Tk) (i : Nat) (hi : i < 4) : (flT (l ++ [t]))[l.length * 4 + i]? = (tkC t)[i]? := by
  rw [flT_snoc, List.getElem?_append_right (by rw [flT_len]; omega), flT_len]
  congr 1
  omega
/-- the cells of the last token -/
theorem last_cells {w : World} {base : Nat} {tv : Value} {l : List Tk} {t : Tk} (h : w.ownsRow base 38 4 tv (l ++ [t]).length (flT (l ++ [t]))) :
    ∃ g cap, tv = .slice (some ⟨g, 0, none⟩) (l.length + 1) cap ∧ g < w.heap.size ∧ l.length + 1 ≤ cap ∧ w.cell? ⟨g, l.length * 4, none⟩ = some (.int .i64 t.kind) ∧ w.cell? ⟨g, l.length * 4 + 1, none⟩ = some (.int .i64 t.lo) ∧ w.cell? ⟨g, l.length * 4 + 2, none⟩ = some (.int .i64 t.hi) ∧ w.cell? ⟨g, l.length * 4 + 3, none⟩ = some (.string (bsL t.text)) := by
  obtain ⟨g, cap, hv, hb, hlt⟩ := h.form (by simp)
  rw [List.length_append] at hv
  have hc := h.cells (g := g) (by rw [hv]; rfl)
  have hf := fun i hi => flT_last l t i hi
  have hcap : l.length + 1 ≤ cap := by
    rcases h.2 with ⟨h', _⟩ | ⟨g', cap', cur, hv', h1, h2, h3, _⟩
    · rw [hv] at h'; cases h'
    · rw [hv] at hv'
      injection hv' with _ _ h6
      rw [h6]; simpa using h3
  refine ⟨g, cap, hv, hlt, hcap, ?_, ?_, ?_, ?_⟩
  · have := hc (l.length * 4 + 0) _ (hf 0 (by omega)); rw [Go.WideShapes.add_plain] at this; simpa using this
  · have := hc (l.length * 4 + 1) _ (hf 1 (by omega)); rw [Go.WideShapes.add_plain] at this; simpa using this
  · have := hc (l.length * 4 + 2) _ (hf 2 (by omega)); rw [Go.WideShapes.add_plain] at this; simpa using this
  · have := hc (l.length * 4 + 3) _ (hf 3 (by omega)); rw [Go.WideShapes.add_plain] at this; simpa using this
theorem eol_nil (p : Nat) : eol p [] = [] := rfl
theorem eol_yes {p : Nat} {l : List Tk} {t : Tk} (h : ends t = true) : eol p (l ++ [t]) = l ++ [t] ++ [⟨6, p, p, [10]⟩] := by simp [eol, h]
theorem eol_no {p : Nat} {l : List Tk} {t : Tk} (h : ends t = false) : eol p (l ++ [t]) = l ++ [t] := by simp [eol, h]
set_option maxRecDepth 100000 in
set_option maxHeartbeats 1000000 in
theorem eol_empty (w : World) (base R : Nat) (S : ByteArray) (s : St) (h : Rd w base R S s) (p : Nat) (h0 : s.toks = []) :
    Calls Tryd.prog 49 #[.pointer (some ⟨R, 0, none⟩), .int .i64 p] w (AddP w base R S ⟨eol p s.toks, s.rems⟩ (.tuple #[])) := by
  have hh := h
  obtain ⟨hle, tv, rv, hR, ht, hr⟩ := h
  obtain ⟨toks, rems⟩ := s
  simp only at h0
  subst h0
  have c1 : w.cell? ⟨R, 1, none⟩ = some tv := by simp [World.cell?, hR]
  have htv : tv = .slice none 0 0 ∨ ∃ g cap, tv = .slice (some ⟨g, 0, none⟩) 0 cap := by
    rcases ht.2 with ⟨h', _⟩ | ⟨g', cap', cur, hv', _⟩
    · exact .inl h'
    · exact .inr ⟨g', cap', hv'⟩
  have HH : Hid (Rd w base R S ⟨[], rems⟩) := hh
  clear hh hR ht hr
  rcases htv with rfl | ⟨g, cap, rfl⟩
  all_goals
   go_enter Tryd.func49, Tryd.ntmps49
   go_wp2
   refine bodyPost_end (results_none rfl _ _ _) rfl ?_
   exact ⟨rfl, HH.out, Below.refl _ _, Oth.refl _ _⟩
set_option maxRecDepth 100000 in
set_option maxHeartbeats 1000000 in
theorem eol_last (w : World) (base R : Nat) (S : ByteArray) (l : List Tk) (t : Tk) (rems : List (Nat × Nat)) (h : Rd w base R S ⟨l ++ [t], rems⟩) (p : Nat) (hl : l.length ≤ 1000000) :
    Calls Tryd.prog 49 #[.pointer (some ⟨R, 0, none⟩), .int .i64 p] w (AddP w base R S ⟨eol p (l ++ [t]), rems⟩ (.tuple #[])) := by
  have hh := h
  obtain ⟨hle, tv, rv, hR, ht, hr⟩ := h
  obtain ⟨g, cap, rfl, hg, hcap, d0, d1, d2, d3⟩ := last_cells ht
  have c1 : w.cell? ⟨R, 1, none⟩ = some (.slice (some ⟨g, 0, none⟩) (l.length + 1) cap) := by simp [World.cell?, hR]
  have HH : Hid (Rd w base R S ⟨l ++ [t], rems⟩) := hh
  have h63 := ends_any t.kind t.lo t.hi (bsL t.text)
  have he : endsZ (t.kind : Int) (bsL t.text).toList = ends t := by rw [← endsZ_nat]; congr 1; exact Lib.toList_data _
  rw [he] at h63
  clear he
  have HY : Hid (∀ p, ends t = true → eol p (l ++ [t]) = l ++ [t] ++ [⟨6, p, p, [10]⟩]) := fun p h => eol_yes h
  have HNo : Hid (∀ p, ends t = false → eol p (l ++ [t]) = l ++ [t]) := fun p h => eol_no h
  generalize ends t = E at *
  cases E
  · have HNo2 : Hid (eol p (l ++ [t]) = l ++ [t]) := HNo.out p rfl
    clear HNo HY
    go_enter Tryd.func49, Tryd.ntmps49
    go_wp2_with (go_at_call 63; refine (h63 _).mono ?_; rintro e w1 ⟨rfl, rfl⟩)
    refine bodyPost_end (results_none rfl _ _ _) rfl ?_
    have hb := (Below.refl w.heap.size w).alloc (Nat.le_refl _) (.cells #[.int .i64 t.kind, .int .i64 t.lo, .int .i64 t.hi, .string (bsL t.text)] 38)
    rw [HNo2.out]
    exact ⟨rfl, HH.out.below hb, hb.mono (by have := (Array.getElem?_eq_some_iff.1 hR).1; omega), Oth.below hb⟩
  · have HY2 : Hid (eol p (l ++ [t]) = l ++ [t] ++ [⟨6, p, p, [10]⟩]) := HY.out p rfl
    clear HNo HY
    obtain ⟨i38, i1, i2, i3, i4⟩ := info38_ex
    have HI : Hid (Tryd.prog.info? 38 = some i38 ∧ i38.zero = some (.agg #[.int .i64 0, .int .i64 0, .int .i64 0, .string ⟨#[]⟩]) ∧ i38.size = 4 ∧ i38.bytes = 40) := ⟨i1, i2, i3, i4⟩
    have hlt : R < w.heap.size := (Array.getElem?_eq_some_iff.1 hR).1
    have hne : (Value.slice (some ⟨g, 0, none⟩) (l.length + 1) cap).ownBlock ≠ some R := own_ne ht hR (by decide)
    have HR : Hid (w.heap[R]? = some (.cells #[.string S, .slice (some ⟨g, 0, none⟩) (l.length + 1) cap, rv] 60 (0, 0))) := hR
    have HT : Hid (w.ownsRow base 38 4 (.slice (some ⟨g, 0, none⟩) (l.length + 1) cap) (l ++ [t]).length (flT (l ++ [t]))) := ht
    have HS : Hid (w.ownsRow base 33 2 rv rems.length (flS rems)) := hr
    have HL : Hid ((l ++ [t]).length = l.length + 1) := (List.length_append : (l ++ [t]).length = l.length + [t].length)
    have f1 : w.frozen? ⟨R, 1, none⟩ = false := by simp [World.frozen?, hR]
    have HB : Hid (∀ o, Below w.heap.size w (w.alloc o)) := fun o => (Below.refl w.heap.size w).alloc (Nat.le_refl _) o
    clear i1 i2 i3 i4 hR ht hr hh
    generalize hN : l.length = N at *
    go_enter Tryd.func49, Tryd.ntmps49
    go_wp2_with (first
      | (go_at_call 63; refine (h63 _).mono ?_; rintro e w1 ⟨rfl, hw1⟩; have HB1 : Hid (Below w.heap.size w w1) := (by rw [hw1]; exact HB.out _); have c1' : w1.cell? ⟨R, 1, none⟩ = some (.slice (some ⟨g, 0, none⟩) (N + 1) cap) := (by rw [HB1.out.cell hlt]; exact c1); have f1' : w1.frozen? ⟨R, 1, none⟩ = false := (by rw [HB1.out.frozen hlt]; exact f1); have hz : w.heap.size ≤ w1.heap.size := HB1.out.size; clear hw1)
      | (at_builtin; refine wpList_append_lies _ (by rfl) _ _ _ (by rfl) base 38 i38 _ 4 40 Tryd.underlying23 HI.out.1 HI.out.2.1 HI.out.2.2.1 HI.out.2.2.2 rfl (by omega) (.slice (some ⟨g, 0, none⟩) (N + 1) cap) (l ++ [t]).length (flT (l ++ [t])) (by rfl) ((HT.out.below HB1.out).alloc _) ⟨w1.heap.size, 0, none⟩ 1 1 [.int .i64 6, .int .i64 p, .int .i64 p, .string ⟨#[10]⟩] (by rfl) (by rfl) (World.news_of_block (heap_alloc_new w1 _)) (by simp [Value.oneCell']) (by omega) (by have := HL.out; unfold maxLen; omega) (by have := HL.out; omega) (by simp; omega) (w1.heap.size + 1) (by simp) ?_; intro gg cap2 w2 hown1 hgrow hat hlt1; have HO1 : Hid _ := hown1; have HG1 : Hid _ := hgrow; have k1 : w2.cell? ⟨R, 1, none⟩ = some (.slice (some ⟨g, 0, none⟩) (N + 1) cap) := (by rw [hgrow.cell_far ⟨R, 1, none⟩ (by simp; omega) (Ne.symm hne), World.cell?_alloc_lt _ _ _ (by show R < w1.heap.size; omega)]; exact c1'); have k2 : w2.frozen? ⟨R, 1, none⟩ = false := (by rw [hgrow.frozen_far ⟨R, 1, none⟩ (by simp; omega) (Ne.symm hne), World.frozen?_alloc_old _ _ _ (by show R ≠ w1.heap.size; omega)]; exact f1'); clear hown1 hgrow hat))
    all_goals
      refine bodyPost_end (results_none rfl _ _ _) rfl ?_
      have q := rd_tok (t := ⟨6, p, p, [10]⟩) (s := ⟨l ++ [t], rems⟩) hle HR.out HT.out HS.out (HB1.out.alloc hz _) HG1.out HO1.out
      rw [show (St.mk (l ++ [t]) rems).toks.length = N + 1 from HL.out] at q
      rw [HY2.out]
      exact ⟨rfl, q.1, q.2.1, q.2.2⟩
theorem eol_any (w : World) (base R : Nat) (S : ByteArray) (s : St) (h : Rd w base R S s) (p : Nat) (hl : s.toks.length ≤ 1000000) :
    Calls Tryd.prog 49 #[.pointer (some ⟨R, 0, none⟩), .int .i64 p] w (AddP w base R S ⟨eol p s.toks, s.rems⟩ (.tuple #[])) := by
  rcases List.eq_nil_or_concat s.toks with h0 | ⟨l, t, h0⟩
  · exact eol_empty w base R S s h p h0
  · obtain ⟨toks, rems⟩ := s
    simp only at h0 hl
    rw [List.concat_eq_append] at h0
    subst h0
    exact eol_last w base R S l t rems h p (by simp at hl; omega)
end Go.Proofs.YtmfdfkbcommjfaaDoor
