/-
  shortRemark and longRemark of the reader, walked.
-/
import Derived.Test.YtmfdfkbcommjfaaDoorWalkF
import Derived.Lib.CutLaws
namespace Go.Proofs.YtmfdfkbcommjfaaDoor
open Go.RowKit
attribute [local go_sem ↓] Go.wp_at_zero Go.wp_at_succ
theorem run_index (l : List UInt8) : (Lib.indexByte l 10 = -1 ∧ run notNl l = l.length) ∨ (Lib.indexByte l 10 = (run notNl l : Nat)) := by
  induction l with
  | nil => exact .inl ⟨rfl, rfl⟩
  | cons b t ih =>
    by_cases hb : b = 10
    · subst hb; right; simp [Lib.indexByte, run, notNl]
    · have h1 : (b == 10) = false := by simpa using hb
      have h2 : notNl b = true := by simp [notNl, hb]
      simp only [Lib.indexByte, run, h1, h2, if_true, Bool.false_eq_true, if_false, List.length_cons]
      rcases ih with ⟨h3, h4⟩ | h3
      · left; rw [h3, h4]; simp
      · right; rw [h3]; split
        · rename_i h5; simp at h5
        · omega
theorem has_index (l : List UInt8) : decide (0 ≤ Lib.indexByte l 10) = l.contains 10 := by
  induction l with
  | nil => rfl
  | cons b t ih =>
    by_cases hb : b = 10
    · subst hb; simp [Lib.indexByte]
    · have h1 : (b == 10) = false := by simpa using hb
      have h3 : ((10 : UInt8) == b) = false := by
        rw [Bool.eq_false_iff]; intro h; exact hb (eq_of_beq h).symm
      simp only [Lib.indexByte, h1, Bool.false_eq_true, if_false, List.contains_cons, h3, Bool.false_or]
      rw [← ih]
      have hge := Lib.indexByte_ge t 10
      split
      · rename_i h5; rw [eq_of_beq h5]
      · rename_i h5
        have h6 : ¬ Lib.indexByte t 10 = -1 := by simpa using h5
        rw [decide_eq_true (by omega), decide_eq_true (by omega)]
theorem endOf_index (l : List UInt8) : (Lib.index l [42, 47] = -1 ∧ endOf l = none) ∨ (∃ k : Nat, Lib.index l [42, 47] = k ∧ endOf l = some k) := by
  induction l with
  | nil => exact .inl ⟨rfl, rfl⟩
  | cons b t ih =>
    by_cases hb : b = 42 ∧ t.head? = some 47
    · right
      refine ⟨0, ?_, by simp [endOf, hb]⟩
      obtain ⟨rfl, h2⟩ := hb
      cases t with
      | nil => simp at h2
      | cons c t2 => simp at h2; subst h2; simp [Lib.index]
    · have h1 : ([42, 47] : List UInt8).isPrefixOf (b :: t) = false := by
        rw [Bool.eq_false_iff]
        intro h
        apply hb
        cases t with
        | nil => simp [List.isPrefixOf] at h
        | cons c t2 =>
          simp [List.isPrefixOf] at h
          exact ⟨h.1.symm, by simp [h.2.symm]⟩
      simp only [Lib.index, h1, Bool.false_eq_true, if_false, endOf, hb]
      rcases ih with ⟨h3, h4⟩ | ⟨k, h3, h4⟩
      · left; rw [h3, h4]; simp
      · right
        refine ⟨k + 1, ?_, by rw [h4]; rfl⟩
        rw [h3]
        split
        · rename_i h5; simp at h5
        · omega
theorem cut_none {l : List UInt8} (h : endOf l = none) : Lib.cut l [42, 47] = (l, [], false) := by
  rcases endOf_index l with ⟨h1, _⟩ | ⟨k, _, h2⟩
  · simp [Lib.cut, h1]
  · rw [h] at h2; cases h2
theorem cut_some {l : List UInt8} {k : Nat} (h : endOf l = some k) : Lib.cut l [42, 47] = (l.take k, l.drop (k + 2), true) := by
  rcases endOf_index l with ⟨_, h2⟩ | ⟨k', h1, h2⟩
  · rw [h] at h2; cases h2
  · rw [h] at h2
    have := Option.some.inj h2
    subst this
    have h0 : (0 : Int) ≤ (k : Nat) := by omega
    simp [Lib.cut, h1]
theorem endOf_le {l : List UInt8} {k : Nat} (h : endOf l = some k) : k + 2 ≤ l.length := by
  induction l generalizing k with
  | nil => cases h
  | cons b t ih =>
    simp only [endOf] at h
    split at h
    · rename_i hb
      have := Option.some.inj h
      cases t with
      | nil => simp at hb
      | cons c t2 => simp; omega
    · cases h3 : endOf t with
      | none => rw [h3] at h; cases h
      | some j => rw [h3] at h; have h4 : j + 1 = k := Option.some.inj h; have := ih h3; simp; omega
theorem Rd.open2 {w : World} {base R : Nat} {S : ByteArray} {s : St} (h : Rd w base R S s) : ∃ rv, w.cell? ⟨R, 2, none⟩ = some rv ∧ w.frozen? ⟨R, 2, none⟩ = false ∧ rv.ownBlock ≠ some R ∧ w.ownsRow base 33 2 rv s.rems.length (flS s.rems) ∧
    (∀ {W w1 : World} {g cap : Nat} {t : Nat × Nat}, Below w.heap.size w W → W.grownBy w1 rv.ownBlock → w1.ownsRow base 33 2 (.slice (some ⟨g, 0, none⟩) (s.rems.length + 1) cap) (s.rems.length + 1) (flS s.rems ++ spC t) →
      Rd (w1.setCell ⟨R, 2, none⟩ (.slice (some ⟨g, 0, none⟩) (s.rems.length + 1) cap)) base R S ⟨s.toks, s.rems ++ [t]⟩ ∧ Below base w (w1.setCell ⟨R, 2, none⟩ (.slice (some ⟨g, 0, none⟩) (s.rems.length + 1) cap)) ∧ Oth R w (w1.setCell ⟨R, 2, none⟩ (.slice (some ⟨g, 0, none⟩) (s.rems.length + 1) cap))) := by
  obtain ⟨hle, tv, rv, hR, ht, hr⟩ := h
  exact ⟨rv, by simp [World.cell?, hR], by simp [World.frozen?, hR], own_ne hr hR (by decide), hr, fun hb hg ho => rd_rem hle hR ht hr hb hg ho⟩
set_option maxRecDepth 100000 in
set_option maxHeartbeats 1000000 in
theorem short_any (w : World) (base R : Nat) (S : ByteArray) (s : St) (h : Rd w base R S s) (p : Nat) (hp : p < S.size) (hS : S.size ≤ 65536) (hl : s.rems.length ≤ 1000000) :
    Calls Tryd.prog 59 #[.pointer (some ⟨R, 0, none⟩), .int .i64 p] w (AddP w base R S (stp p s (.rmk (run notNl (S.data.toList.drop p)) false)) (.int .i64 ((p + run notNl (S.data.toList.drop p) : Nat) : Int))) := by
  have c0 := h.cell0
  have hlt := h.lt
  have hle := h.le
  obtain ⟨rv, c2, f2, hne, hown, hput⟩ := h.open2
  have h67 := fun w => Tryd.strings_Index_one (S.extract p S.size) 10 w
  rw [ext_drop] at h67
  have hix := run_index (S.data.toList.drop p)
  rw [List.length_drop, bal] at hix
  have hrl := run_le notNl (S.data.toList.drop p)
  rw [List.length_drop, bal] at hrl
  obtain ⟨i33, i1, i2, i3, i4⟩ := info33_ex
  have HI : Hid (Tryd.prog.info? 33 = some i33 ∧ i33.zero = some (.agg #[.int .i64 0, .int .i64 0]) ∧ i33.size = 2 ∧ i33.bytes = 16) := ⟨i1, i2, i3, i4⟩
  have HO : Hid (w.ownsRow base 33 2 rv s.rems.length (flS s.rems)) := hown
  have HPut : Hid _ := @hput
  generalize run notNl (S.data.toList.drop p) = n at *
  generalize Lib.indexByte (S.data.toList.drop p) 10 = I at *
  have z1 : (0 : Int) ≤ (p : Int) := by omega
  have z2 : (p : Int) ≤ (S.size : Int) := by omega
  have z5 : IntKind.i64.wrap ((p : Int) + (n : Int)) = (p : Int) + (n : Int) := wrap_small _ (by omega) (by omega)
  have HP : Hid (((p + n : Nat) : Int) = (p : Int) + (n : Int)) := (by omega : ((p + n : Nat) : Int) = (p : Int) + (n : Int))
  have HX : Hid (flS s.rems ++ spC (p, p + n) = flS s.rems ++ [.int .i64 (p : Int), .int .i64 ((p : Int) + (n : Int))]) := (by simp [spC] : flS s.rems ++ spC (p, p + n) = flS s.rems ++ [.int .i64 (p : Int), .int .i64 ((p : Int) + (n : Int))])
  clear i1 i2 i3 i4 h hown hput
  generalize hN : s.rems.length = N at *
  rcases hix with ⟨rfl, hn⟩ | rfl
  · have z6 : IntKind.i64.wrap ((S.size : Int) - (p : Int)) = (n : Int) := by rw [wrap_small _ (by omega) (by omega)]; omega
    clear hrl hn
    go_enter Tryd.func59, Tryd.ntmps59
    go_wp2_with (first
      | (go_at_call 67; refine (h67 _).mono ?_; rintro e w1 ⟨rfl, hw1⟩; obtain rfl := hw1.symm)
      | (at_builtin; refine wpList_append_lies _ (by rfl) _ _ _ (by rfl) base 33 i33 _ 2 16 Tryd.underlying30 HI.out.1 HI.out.2.1 HI.out.2.2.1 HI.out.2.2.2 rfl (by omega) rv N (flS s.rems) (by rfl) (HO.out.alloc _) ⟨w.heap.size, 0, none⟩ 1 1 [.int .i64 p, .int .i64 ((p : Int) + (n : Int))] (by rfl) (by rfl) (World.news_of_block (heap_alloc_new w _)) (by simp [Value.oneCell']) (by omega) (by unfold maxLen; omega) (by omega) (by simp; omega) (w.heap.size + 1) (by simp) ?_; intro gg cap2 w2 hown1 hgrow hat hlt1; have HO1 : Hid _ := hown1; have HG1 : Hid _ := hgrow; have k1 : w2.cell? ⟨R, 2, none⟩ = some rv := (by rw [hgrow.cell_far ⟨R, 2, none⟩ (by simp; omega) (Ne.symm hne), World.cell?_alloc_lt _ _ _ hlt]; exact c2); have k2 : w2.frozen? ⟨R, 2, none⟩ = false := (by rw [hgrow.frozen_far ⟨R, 2, none⟩ (by simp; omega) (Ne.symm hne), World.frozen?_alloc_old _ _ _ (by show R ≠ w.heap.size; omega)]; exact f2); clear hown1 hgrow hat))
    go_ret
    have q := HPut.out ((Below.refl _ w).alloc (Nat.le_refl _) _) HG1.out (by rw [HX.out]; exact HO1.out)
    exact ⟨rfl, q.1, q.2.1, q.2.2⟩
  · have z7 : ¬ (n : Int) < 0 := by omega
    clear hrl
    go_enter Tryd.func59, Tryd.ntmps59
    go_wp2_with (first
      | (go_at_call 67; refine (h67 _).mono ?_; rintro e w1 ⟨rfl, hw1⟩; obtain rfl := hw1.symm)
      | (at_builtin; refine wpList_append_lies _ (by rfl) _ _ _ (by rfl) base 33 i33 _ 2 16 Tryd.underlying30 HI.out.1 HI.out.2.1 HI.out.2.2.1 HI.out.2.2.2 rfl (by omega) rv N (flS s.rems) (by rfl) (HO.out.alloc _) ⟨w.heap.size, 0, none⟩ 1 1 [.int .i64 p, .int .i64 ((p : Int) + (n : Int))] (by rfl) (by rfl) (World.news_of_block (heap_alloc_new w _)) (by simp [Value.oneCell']) (by omega) (by unfold maxLen; omega) (by omega) (by simp; omega) (w.heap.size + 1) (by simp) ?_; intro gg cap2 w2 hown1 hgrow hat hlt1; have HO1 : Hid _ := hown1; have HG1 : Hid _ := hgrow; have k1 : w2.cell? ⟨R, 2, none⟩ = some rv := (by rw [hgrow.cell_far ⟨R, 2, none⟩ (by simp; omega) (Ne.symm hne), World.cell?_alloc_lt _ _ _ hlt]; exact c2); have k2 : w2.frozen? ⟨R, 2, none⟩ = false := (by rw [hgrow.frozen_far ⟨R, 2, none⟩ (by simp; omega) (Ne.symm hne), World.frozen?_alloc_old _ _ _ (by show R ≠ w.heap.size; omega)]; exact f2); clear hown1 hgrow hat))
    go_ret
    have q := HPut.out ((Below.refl _ w).alloc (Nat.le_refl _) _) HG1.out (by rw [HX.out]; exact HO1.out)
    exact ⟨rfl, q.1, q.2.1, q.2.2⟩
end Go.Proofs.YtmfdfkbcommjfaaDoor
