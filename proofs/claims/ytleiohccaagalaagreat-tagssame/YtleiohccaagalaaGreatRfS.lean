/-
  The document's has and Sorted, walked.
-/
import Derived.Test.YtleiohccaagalaaGreatSu
import Derived.Test.YtleiohccaagalaaGreatLaw
import Derived.Laws.Cover1
namespace Go.Proofs.YtleiohccaagalaaGreat
open Go.RowKit Go.Sort
attribute [local go_sem ↓] Go.wp_at_zero Go.wp_at_succ
set_option maxRecDepth 100000 in
set_option maxHeartbeats 2000000 in
theorem has_any {w : World} {a : Option Addr} {n c : Nat} {l : List Bs} (h : TxV w a n c l) (hn : n ≤ 9223372036854775807) (s : Bs) : Calls Tryz.prog 32 #[.slice a n c, .string (bs s)] w fun e w' => e = .returned (.bool (l.contains s)) ∧ w' = w := by
  have hl := h.len
  have HT : Hid (TxV w a n c l) := h
  have HL : Hid (n = l.length) := hl
  clear h hl
  go_enter Tryz.func32, Tryz.ntmps32
  go_wp2_with fail
  go_loopg [5] n (fun g u5 wr => ∃ i : Nat, i ≤ n ∧ n - i ≤ g ∧ u5 = .int .i64 i ∧ wr = w ∧ Hid (∀ j, j < i → ∀ h : j < l.length, l[j] ≠ s))
  case atStart => exact ⟨0, Nat.zero_le _, Nat.le_refl _, rfl, rfl, fun j hj => by omega⟩
  case round =>
    obtain ⟨i, hi, hg, rfl, hw, HX⟩ := hrel
    obtain rfl := hw.symm
    clear hw
    by_cases hlt : i < n
    · have z1 : (i : Int) < (n : Int) := by omega
      have z0 : (0 : Int) ≤ (i : Int) := by omega
      have b1 : i < l.length := by rw [← HL.out]; exact hlt
      obtain ⟨g1, o1, rfl, ht1⟩ := HT.out.cell b1
      generalize hx : l[i] = x at *
      have HXI : Hid (l[i] = x) := hx
      clear hx
      by_cases he : x = s
      · have k2 := str_eq he
        go_wp2_with fail
        go_ret
        refine ⟨ret_bool ?_, rfl⟩
        symm
        rw [List.contains_iff_mem, ← he, ← HXI.out]
        exact List.getElem_mem _
      · have k2 := str_ne he
        have HX2 : Hid (∀ j, j < i + 1 → ∀ h : j < l.length, l[j] ≠ s) := fun j hj h => by
          rcases Nat.lt_or_ge j i with h1 | h1
          · exact HX.out j h1 h
          · have : j = i := by omega
            subst this
            rw [HXI.out]; exact he
        clear he HX
        go_wp2_with fail
        go_roundg (n - (i + 1))
        case measure => omega
        case rel => exact ⟨i + 1, by omega, Nat.le_refl _, by go_num, rfl, HX2.out⟩
    · have z1 : ¬ (i : Int) < (n : Int) := by omega
      go_wp2_with fail
      go_ret
      refine ⟨ret_bool ?_, rfl⟩
      symm
      rw [Bool.eq_false_iff]
      intro hc
      have hc : s ∈ l := by simpa using hc
      obtain ⟨j, hj, e⟩ := List.getElem_of_mem hc
      have := HL.out
      exact HX.out j (by omega) hj e
theorem SRow.stored {w : World} {base g cap : Nat} {l : List Bs} (h : SRow w base (.slice (some ⟨g, 0, none⟩) l.length cap) l) (j : Nat) (t : Bs) : SRow (w.setCell ⟨g, j, none⟩ (.string (bs t))) base (.slice (some ⟨g, 0, none⟩) l.length cap) (l.set j t) := by
  have := (World.ownsRow.stored h j (.string (bs t))).1
  have e : sv (l.set j t) = (sv l).set j (.string (bs t)) := by simp [sv, List.map_set]
  simp only [SRow, e, List.length_set]
  exact this
theorem SRow.get {w : World} {base g cap : Nat} {l : List Bs} (h : SRow w base (.slice (some ⟨g, 0, none⟩) l.length cap) l) {j : Nat} (hj : j < l.length) : w.cell? ⟨g, j, none⟩ = some (.string (bs l[j])) ∧ w.frozen? ⟨g, j, none⟩ = false := by
  constructor
  · rw [World.ownsRow.cellAt h j (by omega)]
    simp [sv, hj]
  · exact World.ownsRow.frozenAt h j
/-- the row while x goes down to its place -/
structure InS (w wr : World) (g cap n : Nat) (A B : List Bs) (x : Bs) : Prop where
  row : SRow wr w.heap.size (.slice (some ⟨g, 0, none⟩) n cap) (A ++ x :: B)
  bl : Below w.heap.size w wr
  su : SU (A ++ B)
  gt : ∀ b ∈ B, x < b
  not : x ∉ A ++ B
  len : n = A.length + 1 + B.length
theorem set_step (A B : List Bs) (x y : Bs) : ((A ++ [y] ++ x :: B).set (A.length + 1) y).set A.length x = A ++ x :: y :: B := by
  simp
theorem gtr_eq (a b : Bs) : (!(Op.bytesLess (bs a).toList (bs b).toList || (bs a).toList == (bs b).toList)) = decide (b < a) := by
  rw [bytesLess_eq, bs_toList, bs_toList]
  by_cases h : b < a
  · rw [decide_eq_true h, decide_eq_false (fun h2 => blt_irrefl a (blt_trans h2 h))]
    have : (a == b) = false := by rw [beq_eq_false_iff_ne]; rintro rfl; exact blt_irrefl _ h
    rw [this]; rfl
  · rw [decide_eq_false h]
    rcases ble_lt.1 (List.not_lt.1 h) with h1 | h1
    · rw [decide_eq_true h1]; rfl
    · subst h1; simp
set_option maxRecDepth 100000 in
set_option maxHeartbeats 4000000 in
theorem rsorted_any {w : World} {a : Option Addr} {n c : Nat} {l : List Bs} (h : TxV w a n c l) (hn : n ≤ 8796093021952) : Calls Tryz.prog 20 #[.slice a n c] w (EoQ w (eo l)) := by
  have hl := h.len
  have HT : Hid (TxV w a n c l) := h
  have HL : Hid (n = l.length) := hl
  clear h hl
  go_enter Tryz.func20, Tryz.ntmps20
  go_wp2_with fail
  go_loopg [3, 4, 5, 6] n (fun g u3 u4 u5 u6 wr => ∃ (i : Nat) (out : List Bs) (b : Option Addr) (d : Nat), i ≤ n ∧ n - i ≤ g ∧ u4 = .int .i64 i ∧ u3 = .slice b out.length d ∧ out.length ≤ i ∧ Hid (SRow wr w.heap.size (.slice b out.length d) out ∧ Below w.heap.size w wr ∧ SU out ∧ ∀ x, x ∈ out ↔ x ∈ l.take i))
  case atStart => exact ⟨0, [], none, 0, Nat.zero_le _, Nat.le_refl _, rfl, rfl, by simp, SRow.nil _ _, Below.refl _ _, by simp [SU], by simp⟩
  case round =>
    obtain ⟨i, out, b, d, hi, hg, rfl, rfl, hol, HX⟩ := hrel
    by_cases hlt : i < n
    · have z1 : (i : Int) < (n : Int) := by omega
      have z0 : (0 : Int) ≤ (i : Int) := by omega
      have b1 : i < l.length := by rw [← HL.out]; exact hlt
      have hTr : TxV wr a n c l := HT.out.kept fun y v hv => kept_cell HX.out.2.1 hv
      obtain ⟨g1, o1, rfl, ht1⟩ := hTr.cell b1
      have hsz := HX.out.2.1.size
      have HTK : Hid (∀ y, y ∈ l.take (i + 1) ↔ y ∈ l.take i ∨ y = l[i]) := fun y => by
        rw [List.take_succ_eq_append_getElem b1, List.mem_append, List.mem_singleton]
      generalize l[i] = x at *
      have hh := has_any HX.out.1.txv (by omega) x
      clear hTr
      by_cases hin : x ∈ out
      · have hc : out.contains x = true := by simpa using hin
        rw [hc] at hh
        have HX2 : Hid (∀ y, y ∈ out ↔ y ∈ l.take (i + 1)) := fun y => by
          rw [HTK.out y, ← HX.out.2.2.2 y]
          constructor
          · exact .inl
          · rintro (h | rfl)
            · exact h
            · exact hin
        clear hc hin
        go_wp2_with (go_at_call 32; refine hh.mono ?_; rintro e w1 ⟨rfl, hw1⟩; obtain rfl := hw1.symm; clear hh)
        go_roundg (n - (i + 1))
        case measure => omega
        case rel => exact ⟨i + 1, out, b, d, by omega, Nat.le_refl _, by go_num, rfl, by omega, HX.out.1, HX.out.2.1, HX.out.2.2.1, HX2.out⟩
      · have hc : out.contains x = false := by rw [Bool.eq_false_iff]; simpa using hin
        rw [hc] at hh
        have HIN : Hid (x ∉ out) := hin
        clear hc hin
        go_wp2_with (first
          | (go_at_call 32; refine hh.mono ?_; rintro e w1 ⟨rfl, hw1⟩; obtain rfl := hw1.symm; clear hh)
          | (at_builtin; refine wp_app1 (by rfl) _ _ (by rfl) w.heap.size (.slice b out.length d) out x wr.heap.size (by rfl) (HX.out.1.alloc _) (by rfl) (cell_new _ _ _) (by omega) (by simp; omega) ?_; intro gg cap w9 hown1 hgrow hlt9; have HI9 : Hid (InS w w9 gg cap (out.length + 1) out [] x) := ⟨hown1, (HX.out.2.1.alloc (by omega) _).grown hgrow (by simp; omega) (fun b hb => (HX.out.1.blk hb).1), by rw [List.append_nil]; exact HX.out.2.2.1, (fun b hb => by cases hb), by rw [List.append_nil]; exact HIN.out, by simp⟩; clear hown1 hgrow))
        obtain ⟨N, hN⟩ : ∃ N, N = out.length + 1 := ⟨_, rfl⟩
        rw [← hN] at HI9 ⊢
        have HN : Hid (N = out.length + 1) := hN
        have hNb : N ≤ 8796093021953 := by omega
        clear hN
        go_loopg [5, 6] N (fun g u5 u6 wr => ∃ (A B : List Bs), A.length ≤ g ∧ u5 = .int .i64 A.length ∧ A.length < N ∧ Hid (A ++ B = out ∧ InS w wr gg cap N A B x))
        case atStart => exact ⟨out, [], by have := HN.out; omega, by go_num, by have := HN.out; omega, by simp, HI9.out⟩
        case round =>
          obtain ⟨A, B, hga, rfl, hal, HY⟩ := hrel
          by_cases hA : A = []
          · subst hA
            simp only [List.length_nil] at *
            have k0 : decide ((0 : Int) < 0) = false := by decide
            have k00 : decide ((0 : Nat) < 0) = false := by decide
            go_wp2_with fail
            first | go_quiet (fail) | go_big_quiet (fail)
            go_wp2_with fail
            go_roundg (n - (i + 1))
            case measure => omega
            case rel =>
              obtain ⟨he, hI⟩ := HY.out
              have hal2 := congrArg List.length he
              rw [List.nil_append] at hal2
              refine ⟨i + 1, x :: B, some ⟨gg, 0, none⟩, cap, by omega, Nat.le_refl _, by go_num, by rw [List.length_cons, hal2, HN.out], by rw [List.length_cons]; omega, ?_, hI.bl.trans (below_draws _ _ _), ?_, fun y => ?_⟩
              · have := hI.row
                rw [List.nil_append] at this
                rw [List.length_cons, hal2, ← HN.out]
                exact this
              · exact su_ins (A := []) hI.su (by intro a ha; cases ha) hI.gt
              · rw [HTK.out y, ← HX.out.2.2.2 y, ← he]
                simp only [List.nil_append, List.mem_cons]
                constructor
                · rintro (h | h) <;> simp [h]
                · rintro (h | h) <;> simp [h]
          · obtain ⟨A', y, rfl⟩ : ∃ A' y, A = A' ++ [y] := by
              rcases List.eq_nil_or_concat A with h | ⟨A', y, h⟩
              · exact absurd h hA
              · exact ⟨A', y, by rw [h, List.concat_eq_append]⟩
            obtain ⟨K, hK⟩ : ∃ K, K = A'.length := ⟨_, rfl⟩
            have hk : (A' ++ [y]).length = K + 1 := by rw [hK]; simp
            obtain ⟨k, hk3⟩ : ∃ k, k = K + 1 := ⟨_, rfl⟩
            rw [← hk3] at hk
            rw [hk] at hga hal ⊢
            have HK : Hid (K = A'.length ∧ k = K + 1) := ⟨hK, hk3⟩
            have k1 : (0 : Int) < (k : Int) := by omega
            have k1n : 0 < k := by omega
            have kd : decide ((0 : Int) < (k : Int)) = true := decide_eq_true k1
            have kdn : decide (0 < k) = true := decide_eq_true k1n
            have k2 : (k : Int) - 1 = (K : Int) := by omega
            have k5 : (0 : Int) ≤ (K : Int) := by omega
            have k6 : (K : Int) < (N : Int) := by omega
            have k7 : (k : Int) < (N : Int) := by omega
            have k8 : (0 : Int) ≤ (k : Int) := by omega
            have hKN : K < N := by omega
            have hkN : k < N := by omega
            have hNl : N = (A' ++ [y] ++ x :: B).length := by have := HY.out.2.len; simp at this ⊢; omega
            have hrow : SRow wr w.heap.size (.slice (some ⟨gg, 0, none⟩) (A' ++ [y] ++ x :: B).length cap) (A' ++ [y] ++ x :: B) := by rw [← hNl]; exact HY.out.2.row
            have hK1 : K < (A' ++ [y] ++ x :: B).length := by rw [← hNl]; omega
            have hK2 : k < (A' ++ [y] ++ x :: B).length := by rw [← hNl]; omega
            have g1 := hrow.get hK1
            have g2 := hrow.get hK2
            have e1 : (A' ++ [y] ++ x :: B)[K]'hK1 = y := by
              subst hK; simp
            have e2 : (A' ++ [y] ++ x :: B)[k]'hK2 = x := by
              subst hk3 hK; simp
            rw [e1] at g1
            rw [e2] at g2
            obtain ⟨ct1, cf1⟩ := g1
            obtain ⟨ct2, cf2⟩ := g2
            have hgt := gtr_eq y x
            have hne : y ≠ x := fun e => HY.out.2.not (by simp [e])
            have HROW : Hid (SRow wr w.heap.size (.slice (some ⟨gg, 0, none⟩) (A' ++ [y] ++ x :: B).length cap) (A' ++ [y] ++ x :: B)) := hrow
            have HNL : Hid (N = (A' ++ [y] ++ x :: B).length) := hNl
            have hggz := (hrow.blk (k := gg) rfl).2
            clear hrow e1 e2 hA hk hK hk3 hNl hK1 hK2
            by_cases hxy : x < y
            · rw [decide_eq_true hxy] at hgt
              go_wp2_with fail
              go_big_quiet (fail)
              go_wp2_with fail
              go_roundg K
              case measure => omega
              case rel =>
                obtain ⟨he, hI⟩ := HY.out
                obtain ⟨hK, hk3⟩ := HK.out
                have hr1 : SRow (wr.drewN nq) w.heap.size (.slice (some ⟨gg, 0, none⟩) (A' ++ [y] ++ x :: B).length cap) (A' ++ [y] ++ x :: B) := HROW.out
                have hr2 := hr1.stored k y
                have hl2 : ((A' ++ [y] ++ x :: B).set k y).length = (A' ++ [y] ++ x :: B).length := by simp
                rw [← hl2] at hr2
                have hr3 := hr2.stored K x
                have hl3 : (((A' ++ [y] ++ x :: B).set k y).set K x).length = N := by rw [HNL.out]; simp
                rw [hl2, ← HNL.out, hk3, hK, set_step] at hr3
                have hbg := (HROW.out.blk (k := gg) rfl).1
                refine ⟨A', y :: B, by omega, by rw [hK], by omega, by rw [← he]; simp, ?_, ?_, ?_, ?_, ?_, ?_⟩
                · rw [hk3, hK]; exact hr3
                · exact ((hI.bl.trans (below_draws _ _ _)).setCell hbg _).setCell hbg _
                · have := hI.su; simpa using this
                · intro b hb
                  rcases List.mem_cons.1 hb with rfl | hb
                  · exact hxy
                  · exact hI.gt b hb
                · have := hI.not; simpa using this
                · have := HNL.out; simp at this ⊢; omega
            · rw [decide_eq_false hxy] at hgt
              have hyx : y < x := by
                rcases ble_lt.1 (List.not_lt.1 hxy) with h | h
                · exact h
                · exact absurd h hne
              go_wp2_with fail
              go_big_quiet (fail)
              go_wp2_with fail
              go_roundg (n - (i + 1))
              case measure => omega
              case rel =>
                obtain ⟨he, hI⟩ := HY.out
                have hal2 := congrArg List.length he
                rw [List.length_append] at hal2
                have hNo := HN.out
                have hle := HNL.out
                refine ⟨i + 1, A' ++ [y] ++ x :: B, some ⟨gg, 0, none⟩, cap, by omega, Nat.le_refl _, by go_num, by rw [← hle], by omega, ?_, hI.bl.trans (below_draws _ _ _), ?_, fun z => ?_⟩
                · exact HROW.out
                · exact su_ins hI.su (su_last (List.pairwise_append.1 hI.su).1 hyx) hI.gt
                · rw [HTK.out z, ← HX.out.2.2.2 z, ← he]
                  simp only [List.mem_append, List.mem_cons, List.not_mem_nil, or_false]
                  constructor
                  · rintro ((h | h) | h | h)
                    · exact .inl (.inl (.inl h))
                    · exact .inl (.inl (.inr h))
                    · exact .inr h
                    · exact .inl (.inr h)
                  · rintro (((h | h) | h) | h)
                    · exact .inl (.inl h)
                    · exact .inl (.inr h)
                    · exact .inr (.inr h)
                    · exact .inr (.inl h)
    · have z1 : ¬ (i : Int) < (n : Int) := by omega
      go_wp2_with fail
      go_ret
      have e : eo l = out := eo_of HX.out.2.2.1 (fun x => by
        rw [HX.out.2.2.2, List.take_of_length_le (by have := HL.out; omega)])
      rw [e]
      exact ⟨HX.out.2.1, b, d, rfl, HX.out.1⟩
end Go.Proofs.YtleiohccaagalaaGreat
