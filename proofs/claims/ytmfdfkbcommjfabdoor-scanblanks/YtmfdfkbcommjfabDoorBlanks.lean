/-
  ScanBlanks, called in memory that holds Go's tables of UTF-8 and any MaxLen: it returns true and leaves all that lay there as it was.
-/
import Derived.Test.YtmfdfkbcommjfabDoorJoins
namespace Go.Proofs.YtmfdfkbcommjfabDoor
open Go.RowKit
attribute [local go_sem ↓] Go.wp_at_zero Go.wp_at_succ
def insB : ByteArray := ⟨#[32, 47, 42, 32, 120, 32, 42, 47, 9]⟩
theorem RemQ.ok {w : World} {s : St} {e : Ending} {w' : World} (h : RemQ w (.ok s) e w') : Below w.heap.size w w' ∧ ∃ a cap, e = .returned (.slice a s.rems.length cap) ∧ w'.ownsRow w.heap.size 33 2 (.slice a s.rems.length cap) s.rems.length (flS s.rems) := by
  obtain ⟨hb, a, cap, he, ho⟩ := h
  exact ⟨hb, a, cap, he, ho⟩
theorem ext_take (S : ByteArray) (n : Nat) : (S.extract 0 n).data.toList = S.data.toList.take n := by
  rw [ext_list]; simp [bsL]
theorem read_ins {S : ByteArray} {s : St} (h : readOf S = .ok s) (hl : S.size ≤ 4000) {t : Tk} (ht : t ∈ s.toks) :
    t.lo ≤ S.size ∧ ∃ s2, readOf (S.extract 0 t.lo ++ ⟨#[32, 47, 42, 32, 120, 32, 42, 47, 9]⟩ ++ S.extract t.lo S.size) = .ok s2 ∧ Als 9 s.toks s2.toks := by
  obtain ⟨_, h2, h3⟩ := readOf_ok.1 h
  rw [okT_iff] at h2
  obtain ⟨hlo, s2, h4, h5⟩ := scn_ins h3 ht
  rw [bal] at hlo
  have e : (S.extract 0 t.lo ++ ⟨#[32, 47, 42, 32, 120, 32, 42, 47, 9]⟩ ++ S.extract t.lo S.size : ByteArray).data.toList = S.data.toList.take t.lo ++ (insL ++ S.data.toList.drop t.lo) := by
    have e1 : ∀ a b : ByteArray, (a ++ b).data.toList = a.data.toList ++ b.data.toList := fun a b => by simp [ByteArray.data_append]
    rw [e1, e1, ext_take, ext_drop, List.append_assoc]
    rfl
  refine ⟨hlo, s2, readOf_ok.2 ⟨?_, ?_, by rw [e]; exact h4⟩, h5⟩
  · have : (⟨#[32, 47, 42, 32, 120, 32, 42, 47, 9]⟩ : ByteArray).size = 9 := rfl
    simp only [ByteArray.size_append, ByteArray.size_extract]
    omega
  · rw [okT_iff, e]
    refine ⟨valid_ins h3 ht h2.1, fun c hc => ?_⟩
    rcases List.mem_append.1 hc with hc | hc
    · exact h2.2 c (List.mem_of_mem_take hc)
    · rcases List.mem_append.1 hc with hc | hc
      · have : ∀ c ∈ insL, c ≠ 0 := by decide
        exact this c hc
      · exact h2.2 c (List.mem_of_mem_drop hc)
set_option maxRecDepth 100000 in
set_option maxHeartbeats 2000000 in
theorem blanks_great (S : ByteArray) (K : Int) (w : World) (hM : Mem w) (h : 4000 < S.size) : Calls Tryd.prog 3 #[.string S, .int .i64 K] w fun e w' => e = .returned (.bool true) ∧ Below w.heap.size w w' := by
  have g6 := awake_any w hM
  have z1 : (4000 : Int) < (S.size : Int) := by omega
  clear hM
  go_enter Tryd.func3, Tryd.ntmps3
  go_wp2_with (go_at_call 6; refine g6.mono ?_; rintro e w1 ⟨rfl, hb1⟩; have HB1 : Hid (Below w.heap.size w w1) := hb1; clear hb1)
  go_ret
  exact ⟨rfl, HB1.out⟩
set_option maxRecDepth 100000 in
set_option maxHeartbeats 2000000 in
theorem blanks_bad (S : ByteArray) (K : Int) (w : World) (hM : Mem w) (h : ¬ 4000 < S.size) (hc : roC (readOf S) ≠ 0) : Calls Tryd.prog 3 #[.string S, .int .i64 K] w fun e w' => e = .returned (.bool true) ∧ Below w.heap.size w w' := by
  have g6 := fun W (hb : Below w.heap.size w W) => awake_any W (hM.below hb)
  have g7 := tokens_q S w hM
  have z1 : ¬ (4000 : Int) < (S.size : Int) := by omega
  have k1 : (((roC (readOf S) : Int)) != 0) = true := by simp; omega
  clear hM hc
  generalize readOf S = r at *
  obtain ⟨C1, hC1⟩ : ∃ C : Int, (roC r : Int) = C := ⟨_, rfl⟩
  rw [hC1] at k1
  have HC1 : Hid (fltV (roC r) (roA r) = .agg #[.int .i64 C1, .string ⟨#[]⟩, .int .i64 (roA r)]) := by show _ = _; rw [fltV, hC1]
  clear hC1
  go_enter Tryd.func3, Tryd.ntmps3
  go_wp2_with (first
    | (go_at_call 7; refine g7.mono ?_; clear g7; rintro e w1 ⟨hb1, a1, d1, rfl, _⟩; rw [HC1.out]; have HB1 : Hid (Below w.heap.size w w1) := hb1; have hz1 := hb1.size; clear hb1)
    | (go_at_call 6; refine (g6 _ (HB1.out.alloc (by omega) _)).mono ?_; rintro e w3 ⟨rfl, hb3⟩; have HB3 : Hid (Below w.heap.size w w3) := (HB1.out.alloc (by omega) _).trans (hb3.mono (by simp; omega)); clear hb3))
  go_ret
  exact ⟨rfl, HB3.out⟩
set_option maxRecDepth 100000 in
set_option maxHeartbeats 4000000 in
theorem blanks_ok (S : ByteArray) (K : Int) (w : World) (hM : Mem w) (h : ¬ 4000 < S.size) (s : St) (hs : readOf S = .ok s) : Calls Tryd.prog 3 #[.string S, .int .i64 K] w fun e w' => e = .returned (.bool true) ∧ Below w.heap.size w w' := by
  have g6 := fun W (hb : Below w.heap.size w W) => awake_any W (hM.below hb)
  have g7 := tokens_q S w hM
  have g8 := fun W (hb : Below w.heap.size w W) => comments_q S W (hM.below hb)
  have hlen := readOf_len S
  rw [hs] at g7 g8 hlen
  have hl1 : s.toks.length ≤ 70000 := hlen.1
  have hl2 : s.rems.length ≤ 70000 := hlen.2
  have hsl : 1 ≤ s.toks.length := by
    obtain ⟨_, _, h3⟩ := readOf_ok.1 hs
    obtain ⟨s', _, h4⟩ := scn_line [] S.data.toList.length S.data.toList 0 ⟨[], []⟩ s (Nat.le_refl _) h3
    rw [h4]
    simp
  obtain ⟨N, hN⟩ : ∃ N, s.toks.length = N := ⟨_, rfl⟩
  have hNb : N ≤ 70000 := by omega
  have hkk : (K.tmod (N : Int)).natAbs < N := by
    have := Int.natAbs_tmod K (N : Int)
    rw [this, Int.natAbs_natCast]
    exact Nat.mod_lt _ (by omega)
  obtain ⟨t, ht⟩ : ∃ t, s.toks[(K.tmod (N : Int)).natAbs]? = some t := ⟨_, List.getElem?_eq_getElem (by omega)⟩
  obtain ⟨hlo, s2, hs2, hals⟩ := read_ins hs (by omega) (List.mem_of_getElem? ht)
  have g7b := fun W (hb : Below w.heap.size w W) => tokens_q (S.extract 0 t.lo ++ ⟨#[32, 47, 42, 32, 120, 32, 42, 47, 9]⟩ ++ S.extract t.lo S.size) W (hM.below hb)
  rw [hs2] at g7b
  have HALS : Hid (Als 9 s.toks s2.toks) := hals
  have HLO : Hid (∀ u ∈ s.toks, u.lo ≤ S.size) := fun u hu => (read_ins hs (by omega) hu).1
  have hN2 : s2.toks.length = N := by rw [← hals.len, hN]
  have z1 : ¬ (4000 : Int) < (S.size : Int) := by omega
  clear hM hs2 hs hlen hals
  have k2 : ((N : Int) == 0) = false := by simp; omega
  have k3 : ¬ (N : Int) = 0 := by omega
  obtain ⟨kk, hkk2⟩ : ∃ kk, (K.tmod (N : Int)).natAbs = kk := ⟨_, rfl⟩
  rw [hkk2] at hkk ht
  have hsgn : K.tmod (N : Int) = (kk : Int) ∨ (K.tmod (N : Int) = -(kk : Int) ∧ 0 < kk) := by omega
  have q1 : (kk : Int) < (N : Int) := by omega
  have q2 : (0 : Int) ≤ (kk : Int) := by omega
  have HT : Hid (s.toks[kk]? = some t) := ht
  clear hkk2 ht
  have y1 : (0 : Int) ≤ (t.lo : Int) := by omega
  have y2 : (t.lo : Int) ≤ (S.size : Int) := by omega
  rcases hsgn with hm | ⟨hm, hk0⟩
  all_goals
    have k4 : decide ((kk : Int) < 0) = false := decide_eq_false (by omega)
    go_enter Tryd.func3, Tryd.ntmps3
    go_wp2_with (first
      | (go_at_call 7; refine g7.mono ?_; clear g7; intro e w1 h1; obtain ⟨hb1, a1, d1, rfl, ho1⟩ := h1.ok; rw [hN] at ho1 ⊢; have HB1 : Hid (Below w.heap.size w w1) := hb1; have hz1 := hb1.size; have HO1 : Hid (w1.ownsRow w.heap.size 29 4 (.slice a1 N d1) N (flT s.toks)) := ho1; obtain ⟨g1, c1, e1, hc1, x0, x1, x2, x3⟩ := (tok_open (l := s.toks) (by rw [hN]; exact HO1.out)).2 kk t HT.out; rw [Value.slice.injEq] at e1; obtain ⟨rfl, hh1, rfl⟩ := e1; clear hh1; rw [hN] at hc1; have hg1 : g1 < w1.heap.size := World.block_lt_of_cell? w1 ⟨g1, kk * 4, none⟩ x0; clear hb1 ho1 h1)
      | (go_at_call 8; refine (g8 _ (HB1.out.alloc (by omega) _)).mono ?_; clear g8; intro e w2 h2; obtain ⟨hb2, a2, d2, rfl, ho2⟩ := RemQ.ok h2; have HB2 : Hid (Below w.heap.size w w2) := (HB1.out.alloc (by omega) _).trans (hb2.mono (by simp; omega)); have HB12 : Hid (Below w1.heap.size w1 w2) := ((Below.refl _ _).alloc (Nat.le_refl _) _).trans (hb2.mono (by simp)); have hz2 : w1.heap.size < w2.heap.size := (by have := hb2.size; simp at this; omega); have HO2 : Hid (w2.ownsRow w.heap.size 33 2 (.slice a2 s.rems.length d2) s.rems.length (flS s.rems)) := own_base ho2 (by simp; omega); clear hb2 ho2))
    have HSP : Hid _ := (span_open HO2.out).2
    have HNR : Hid (s.rems.length ≤ 70000) := hl2
    generalize hNr : s.rems.length = Nr at *
    go_loopw [9] (fun u wr => ∃ i : Nat, i ≤ Nr ∧ u = .int .i64 i ∧ wr = w2) (fun u _ => Nr - (intOf u).toNat)
    case atStart => exact ⟨0, Nat.zero_le _, rfl, rfl⟩
    case round =>
      obtain ⟨i, hi, rfl, hw2⟩ := hrel
      obtain rfl := hw2.symm
      clear hw2
      by_cases hil : i < Nr
      · have r1 : (i : Int) < (Nr : Int) := by omega
        have r2 : (0 : Int) ≤ (i : Int) := by omega
        obtain ⟨x, hx⟩ : ∃ x, s.rems[i]? = some x := ⟨_, List.getElem?_eq_getElem (by omega)⟩
        obtain ⟨g2, c2, e2, hc2, v0, v1⟩ := HSP.out i x hx
        rw [Value.slice.injEq] at e2
        obtain ⟨rfl, hh2, rfl⟩ := e2
        clear hh2 hNr g7b hN2 hx
        clear q1 q2 y1 y2 hm k2 k3 k4 x0 x1 x2 x3 hz1 hz2 hg1 hc1 h hl1 hsl hN hkk
        obtain ⟨f1, f2⟩ := x
        simp only at v0 v1
        by_cases p3 : t.lo = f2
        · subst p3
          by_cases p4 : 0 < t.lo
          · have k8 : (0 : Int) < (t.lo : Int) := by omega
            have k9 : IntKind.i64.wrap ((t.lo : Int) - 1) = ((t.lo - 1 : Nat) : Int) := by rw [IntKind.wrap_i64]; omega
            obtain ⟨q, hq⟩ : ∃ q, t.lo - 1 = q := ⟨_, rfl⟩
            rw [hq] at k9
            have hlt2 : q < S.size := by omega
            have k10 : (q : Int) < (S.size : Int) := by omega
            have k11 : (0 : Int) ≤ (q : Int) := by omega
            clear hq p4
            go_wp2_with (go_at_call 6; refine (g6 _ HB2.out).mono ?_; rintro e w4 ⟨rfl, hb4⟩; have HB4 : Hid (Below w.heap.size w w4) := HB2.out.trans (hb4.mono HB2.out.size); clear hb4)
            all_goals first
              | exact ⟨⟨i + 1, by omega, by go_num, trivial⟩, by simp [intOf]; omega⟩
              | (go_ret; exact ⟨rfl, HB4.out⟩)
              | (exfalso; omega)
          · have k8 : ¬ (0 : Int) < (t.lo : Int) := by omega
            clear p4
            go_wp2_with (go_at_call 6; refine (g6 _ HB2.out).mono ?_; rintro e w4 ⟨rfl, hb4⟩; have HB4 : Hid (Below w.heap.size w w4) := HB2.out.trans (hb4.mono HB2.out.size); clear hb4)
            all_goals first
              | exact ⟨⟨i + 1, by omega, by go_num, trivial⟩, by simp [intOf]; omega⟩
              | (go_ret; exact ⟨rfl, HB4.out⟩)
              | (exfalso; omega)
        · have k7 : ((t.lo : Int) == (f2 : Int)) = false := nat_bne p3
          clear p3
          go_wp2_with (go_at_call 6; refine (g6 _ HB2.out).mono ?_; rintro e w4 ⟨rfl, hb4⟩; have HB4 : Hid (Below w.heap.size w w4) := HB2.out.trans (hb4.mono HB2.out.size); clear hb4)
          all_goals first
            | exact ⟨⟨i + 1, by omega, by go_num, trivial⟩, by simp [intOf]; omega⟩
            | (go_ret; exact ⟨rfl, HB4.out⟩)
            | (exfalso; omega)
      · have r1 : ¬ (i : Int) < (Nr : Int) := by omega
        clear hNr HSP HNR
        obtain ⟨X1, hX1⟩ : ∃ X, S.extract 0 t.lo = X := ⟨_, rfl⟩
        obtain ⟨X2, hX2⟩ : ∃ X, S.extract t.lo S.size = X := ⟨_, rfl⟩
        have hs1 : X1.size ≤ S.size := by rw [← hX1]; simp; omega
        have hs2 : X2.size ≤ S.size := by rw [← hX2]; simp
        rw [hX1, hX2] at g7b
        have y5 : ¬ 9223372036854775807 < X1.size + 9 := by omega
        have y6 : ¬ 9223372036854775807 < X1.size + 9 + X2.size := by omega
        clear hs1 hs2
        go_wp2_with fail
        go_region_with (first
          | (go_at_call 7; refine (g7b _ HB2.out.drew).mono ?_; intro e w3 h3; obtain ⟨hb3, a3, d3, rfl, ho3⟩ := h3.ok; rw [hN2] at ho3; rw [hN2]; have HB23 : Hid (Below w2.heap.size w2 w3) := ((Below.refl _ w2).drew).trans hb3; have HO3 : Hid (w3.ownsRow w.heap.size 29 4 (.slice a3 N d3) N (flT s2.toks)) := own_base ho3 HB2.out.size; have hz3 := hb3.size; clear hb3 ho3 h3)
          | (go_at_call 7; refine (g7b _ ((HB2.out.alloc HB2.out.size _).drew)).mono ?_; intro e w3 h3; obtain ⟨hb3, a3, d3, rfl, ho3⟩ := h3.ok; rw [hN2] at ho3; rw [hN2]; have HB23 : Hid (Below w2.heap.size w2 w3) := (((Below.refl _ w2).alloc (Nat.le_refl _) _).drew).trans (hb3.mono (by simp)); have HO3 : Hid (w3.ownsRow w.heap.size 29 4 (.slice a3 N d3) N (flT s2.toks)) := own_base ho3 (by have := HB2.out.size; simp; omega); have hB : w3.heap[w2.heap.size]? = some (.cells #[.int .i64 0, .string ⟨#[]⟩, .int .i64 0] 25 (0, 0)) := (hb3.block _ (by simp)).trans (heap_alloc_new w2 _); have u0 := cell_of hB 0; have u1 := cell_of hB 1; have u2 := cell_of hB 2; have u3 : w3.frozen? ⟨w2.heap.size, 0, none⟩ = false := (by simp [World.frozen?, hB]); have u4' : w3.frozen? ⟨w2.heap.size, 1, none⟩ = false := (by simp [World.frozen?, hB]); have u5 : w3.frozen? ⟨w2.heap.size, 2, none⟩ = false := (by simp [World.frozen?, hB]); have HHB : Hid _ := hB; clear hb3 ho3 h3 hB))
        · have hw2 := HB2.out.size
          have hw3 := HB23.out.size
          have HBl : Hid (Below w.heap.size w (w3.alloc (.cells #[.int .i64 0, .string ⟨#[]⟩, .int .i64 0] 25))) := (HB2.out.trans (HB23.out.mono hw2)).alloc (by omega) _
          have cG : (w3.alloc (.cells #[.int .i64 0, .string ⟨#[]⟩, .int .i64 0] 25)).cell? ⟨w3.heap.size, 0, none⟩ = some (.int .i64 0) := cell_of (heap_alloc_new w3 _) 0
          have HR1 : Hid ((w3.alloc (.cells #[.int .i64 0, .string ⟨#[]⟩, .int .i64 0] 25)).ownsRow w.heap.size 29 4 (.slice (some ⟨g1, 0, none⟩) N d1) N (flT s.toks)) := ((HO1.out.below HB12.out).below HB23.out).alloc _
          have HR3 : Hid ((w3.alloc (.cells #[.int .i64 0, .string ⟨#[]⟩, .int .i64 0] 25)).ownsRow w.heap.size 29 4 (.slice a3 N d3) N (flT s2.toks)) := HO3.out.alloc _
          generalize w3.alloc (.cells #[.int .i64 0, .string ⟨#[]⟩, .int .i64 0] 25) = Wl at *
          generalize w3.heap.size = bG at *
          clear hz3 hw3 hw2
          clear HO1 HO3 HB12 HB23 HB1 HB2 x0 x1 x2 x3 hg1 hc1 k2 k3 k4 hm q1 q2 y1 y2 y5 y6 r1 hX1 hX2
          go_wp2_with fail
          go_loopw [13] (fun u wr => ∃ i n : Nat, i ≤ N ∧ u = .int .i64 i ∧ wr = Wl.drewN n) (fun u _ => N - (intOf u).toNat)
          case atStart => exact ⟨0, 0, Nat.zero_le _, rfl, rfl⟩
          case round =>
            obtain ⟨i, n, hi, rfl, rfl⟩ := hrel
            by_cases hil : i < N
            · have r1 : (i : Int) < (N : Int) := by omega
              have r2 : (0 : Int) ≤ (i : Int) := by omega
              obtain ⟨u, hu⟩ : ∃ u, s.toks[i]? = some u := ⟨_, List.getElem?_eq_getElem (by omega)⟩
              obtain ⟨v, hv, hk, htx, hfr⟩ := HALS.out.get i u hu
              obtain ⟨g4, c4, e4, hc4, x0, x1, x2, x3⟩ := (tok_open (l := s.toks) (by rw [hN]; exact HR1.out)).2 i u hu
              rw [Value.slice.injEq] at e4
              obtain ⟨hg4, hh4, rfl⟩ := e4
              obtain rfl : g1 = g4 := by injection hg4 with q; injection q
              obtain ⟨g3, c3, e3, hc3, v0, v1, v2, v3⟩ := (tok_open (l := s2.toks) (by rw [hN2]; exact HR3.out)).2 i v hv
              rw [Value.slice.injEq] at e3
              obtain ⟨rfl, hh3, rfl⟩ := e3
              rw [hN] at hc4
              rw [hN2] at hc3
              rw [← hk] at v0
              rw [← htx] at v3
              have hul := HLO.out u (List.mem_of_getElem? hu)
              have w9 : IntKind.i64.wrap ((u.lo : Int) + 9) = (u.lo : Int) + 9 := wrap_small _ (by omega) (by omega)
              clear hh3 hh4 hg4 hu hv hk htx hN hN2 HALS HLO HR1 HR3
              rcases hfr with hfr | hfr
              · rw [hfr] at v1
                clear hfr
                go_wp2_with fail
                go_quiet (fail)
                go_wp2_with fail
                go_roundw
                case rel => exact ⟨i + 1, _, by omega, by go_num, by first | rfl | (rw [World.drewN_drewN])⟩
                case measure => simp [intOf]; omega
              · have f1 : ((v.lo : Int) != (u.lo : Int)) = true := by rw [hfr]; simp; omega
                have f2 : ((v.lo : Int) != (u.lo : Int) + 9) = false := by rw [hfr]; simp
                clear hfr
                go_wp2_with fail
                go_quiet (fail)
                go_wp2_with fail
                go_roundw
                case rel => exact ⟨i + 1, _, by omega, by go_num, by first | rfl | (rw [World.drewN_drewN])⟩
                case measure => simp [intOf]; omega
            · have r1 : ¬ (i : Int) < (N : Int) := by omega
              have hbd : Below w.heap.size w (Wl.drewN n) := HBl.out.trans (bl_drewN _ _ _)
              have g6' := g6 _ hbd
              have HBD : Hid (Below w.heap.size w (Wl.drewN n)) := hbd
              clear hbd
              go_wp2_with (go_at_call 6; refine g6'.mono ?_; rintro e w4 ⟨rfl, hb4⟩; have HB4 : Hid (Below w.heap.size w w4) := HBD.out.trans (hb4.mono HBD.out.size); clear hb4)
              go_ret
              exact ⟨rfl, HB4.out⟩
        · have hw2 := HB2.out.size
          have hw3 := HB23.out.size
          have HBl : Hid (Below w.heap.size w (put1 w3 w2.heap.size (.int .i64 0) (.string ⟨#[]⟩) (.int .i64 0))) := (HB2.out.trans (HB23.out.mono hw2)).trans (((Below.refl w2.heap.size w3) |> put1_below).mono hw2)
          have cG : (put1 w3 w2.heap.size (.int .i64 0) (.string ⟨#[]⟩) (.int .i64 0)).cell? ⟨w2.heap.size, 0, none⟩ = some (.int .i64 0) := cell_of (put1_cell HHB.out) 0
          have HR1 : Hid ((put1 w3 w2.heap.size (.int .i64 0) (.string ⟨#[]⟩) (.int .i64 0)).ownsRow w.heap.size 29 4 (.slice (some ⟨g1, 0, none⟩) N d1) N (flT s.toks)) := own_far ((HO1.out.below HB12.out).below HB23.out) (fun k hk => put1_far (by have := (HO1.out.lt k hk).2; have := HB12.out.size; omega))
          have HR3 : Hid ((put1 w3 w2.heap.size (.int .i64 0) (.string ⟨#[]⟩) (.int .i64 0)).ownsRow w.heap.size 29 4 (.slice a3 N d3) N (flT s2.toks)) := own_far HO3.out (fun k hk => put1_far (fun e => own_ne HO3.out HHB.out (by decide) (by rw [hk, e])))
          unfold put1 at HBl cG HR1 HR3
          clear u0 u1 u2 u3 u4' u5 HHB
          generalize ((w3.setCell ⟨w2.heap.size, 0, none⟩ (.int .i64 0)).setCell ⟨w2.heap.size, 1, none⟩ (.string ⟨#[]⟩)).setCell ⟨w2.heap.size, 2, none⟩ (.int .i64 0) = Wl at *
          generalize w2.heap.size = bG at *
          clear hw3 hw2
          clear HO1 HO3 HB12 HB23 HB1 HB2 x0 x1 x2 x3 hg1 hc1 k2 k3 k4 hm q1 q2 y1 y2 y5 y6 r1 hX1 hX2
          go_wp2_with fail
          go_loopw [13] (fun u wr => ∃ i n : Nat, i ≤ N ∧ u = .int .i64 i ∧ wr = Wl.drewN n) (fun u _ => N - (intOf u).toNat)
          case atStart => exact ⟨0, 0, Nat.zero_le _, rfl, rfl⟩
          case round =>
            obtain ⟨i, n, hi, rfl, rfl⟩ := hrel
            by_cases hil : i < N
            · have r1 : (i : Int) < (N : Int) := by omega
              have r2 : (0 : Int) ≤ (i : Int) := by omega
              obtain ⟨u, hu⟩ : ∃ u, s.toks[i]? = some u := ⟨_, List.getElem?_eq_getElem (by omega)⟩
              obtain ⟨v, hv, hk, htx, hfr⟩ := HALS.out.get i u hu
              obtain ⟨g4, c4, e4, hc4, x0, x1, x2, x3⟩ := (tok_open (l := s.toks) (by rw [hN]; exact HR1.out)).2 i u hu
              rw [Value.slice.injEq] at e4
              obtain ⟨hg4, hh4, rfl⟩ := e4
              obtain rfl : g1 = g4 := by injection hg4 with q; injection q
              obtain ⟨g3, c3, e3, hc3, v0, v1, v2, v3⟩ := (tok_open (l := s2.toks) (by rw [hN2]; exact HR3.out)).2 i v hv
              rw [Value.slice.injEq] at e3
              obtain ⟨rfl, hh3, rfl⟩ := e3
              rw [hN] at hc4
              rw [hN2] at hc3
              rw [← hk] at v0
              rw [← htx] at v3
              have hul := HLO.out u (List.mem_of_getElem? hu)
              have w9 : IntKind.i64.wrap ((u.lo : Int) + 9) = (u.lo : Int) + 9 := wrap_small _ (by omega) (by omega)
              clear hh3 hh4 hg4 hu hv hk htx hN hN2 HALS HLO HR1 HR3
              rcases hfr with hfr | hfr
              · rw [hfr] at v1
                clear hfr
                go_wp2_with fail
                go_quiet (fail)
                go_wp2_with fail
                go_roundw
                case rel => exact ⟨i + 1, _, by omega, by go_num, by first | rfl | (rw [World.drewN_drewN])⟩
                case measure => simp [intOf]; omega
              · have f1 : ((v.lo : Int) != (u.lo : Int)) = true := by rw [hfr]; simp; omega
                have f2 : ((v.lo : Int) != (u.lo : Int) + 9) = false := by rw [hfr]; simp
                clear hfr
                go_wp2_with fail
                go_quiet (fail)
                go_wp2_with fail
                go_roundw
                case rel => exact ⟨i + 1, _, by omega, by go_num, by first | rfl | (rw [World.drewN_drewN])⟩
                case measure => simp [intOf]; omega
            · have r1 : ¬ (i : Int) < (N : Int) := by omega
              have hbd : Below w.heap.size w (Wl.drewN n) := HBl.out.trans (bl_drewN _ _ _)
              have g6' := g6 _ hbd
              have HBD : Hid (Below w.heap.size w (Wl.drewN n)) := hbd
              clear hbd
              go_wp2_with (go_at_call 6; refine g6'.mono ?_; rintro e w4 ⟨rfl, hb4⟩; have HB4 : Hid (Below w.heap.size w w4) := HBD.out.trans (hb4.mono HBD.out.size); clear hb4)
              go_ret
              exact ⟨rfl, HB4.out⟩
theorem blanks_any (S : ByteArray) (K : Int) (w : World) (_hS : S.size ≤ maxLen) (_hk : (Lit.int .i64 K).wf = true) (hM : Mem w) : Calls Tryd.prog 3 #[.string S, .int .i64 K] w fun e w' => e = .returned (.bool true) ∧ Below w.heap.size w w' := by
  by_cases h : 4000 < S.size
  · exact blanks_great S K w hM h
  by_cases hc : roC (readOf S) = 0
  · obtain ⟨s, hs⟩ := readOf_code hc
    exact blanks_ok S K w hM h s hs
  · exact blanks_bad S K w hM h hc
end Go.Proofs.YtmfdfkbcommjfabDoor
