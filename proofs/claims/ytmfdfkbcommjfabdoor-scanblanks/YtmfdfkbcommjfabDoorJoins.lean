/-
  ScanJoins, called in memory that holds Go's tables of UTF-8 and any MaxLen: it returns true and leaves all that lay there as it was.
-/
import Derived.Test.YtmfdfkbcommjfabDoorAsk
namespace Go.Proofs.YtmfdfkbcommjfabDoor
open Go.RowKit
attribute [local go_sem ↓] Go.wp_at_zero Go.wp_at_succ
theorem idx0 (l : List UInt8) : (decide (Lib.indexByte l 0 < 0)) = decide (∀ x ∈ l, x ≠ 0) := by
  have hge := Lib.indexByte_ge l 0
  by_cases h : Lib.indexByte l 0 = -1
  · rw [h, decide_eq_true (by omega)]
    have := Lib.indexByte_none h
    refine (decide_eq_true ?_).symm
    intro x hx e
    obtain ⟨i, hi, hxi⟩ := List.getElem_of_mem hx
    exact this i (by rw [List.getElem?_eq_getElem hi, hxi, e])
  · obtain ⟨o, ho⟩ : ∃ o : Nat, Lib.indexByte l 0 = o := ⟨(Lib.indexByte l 0).toNat, by omega⟩
    have hs := (Lib.indexByte_some ho).1
    rw [decide_eq_false (by omega)]
    refine (decide_eq_false ?_).symm
    intro hall
    exact hall 0 (List.mem_of_getElem? hs) rfl
theorem okT_iff (S : ByteArray) : okT S = true ↔ Lib.validD S.data.toList = true ∧ ∀ x ∈ S.data.toList, x ≠ 0 := by
  unfold okT
  rw [idx0, Bool.and_eq_true, decide_eq_true_eq]
theorem readOf_ok {S : ByteArray} {s : St} : readOf S = .ok s ↔ S.size ≤ 65536 ∧ okT S = true ∧ scn S.data.toList 0 0 ⟨[], []⟩ = .ok s := by
  rw [readOf_eq]
  constructor
  · intro h
    split at h
    · cases h
    · rename_i h1
      split at h
      · cases h
      · rename_i h2
        refine ⟨by omega, by simpa using h2, ?_⟩
        cases hs : scn S.data.toList 0 0 ⟨[], []⟩ with
        | error o => rw [hs] at h; cases h
        | ok st => rw [hs] at h; injection h with h; rw [h]
  · rintro ⟨h1, h2, h3⟩
    rw [if_neg (by omega), h2, if_neg (by decide), h3]
    rfl
theorem readOf_code {S : ByteArray} (h : roC (readOf S) = 0) : ∃ s, readOf S = .ok s := by
  cases hr : readOf S with
  | ok s => exact ⟨s, rfl⟩
  | bad c a =>
    exfalso
    rw [hr] at h
    have hc : c = 0 := h
    subst hc
    rw [readOf_eq] at hr
    split at hr
    · injection hr with h1; cases h1
    · split at hr
      · injection hr with h1; cases h1
      · cases hs : scn S.data.toList 0 0 ⟨[], []⟩ with
        | error o => rw [hs] at hr; injection hr with h1; cases h1
        | ok st => rw [hs] at hr; cases hr
/-- two sources with an empty line between them, read -/
theorem read_join {a b : ByteArray} {x y : St} (ha : readOf a = .ok x) (hb : readOf b = .ok y) (hl : a.size + b.size ≤ 4000) :
    ∃ z pre t, readOf (a ++ ⟨#[10, 10]⟩ ++ b) = .ok z ∧ x.toks = pre ++ [t] ∧ Aft pre (a.size + 2) y.toks z.toks := by
  obtain ⟨_, a2, a3⟩ := readOf_ok.1 ha
  obtain ⟨_, b2, b3⟩ := readOf_ok.1 hb
  rw [okT_iff] at a2 b2
  obtain ⟨z, pre, t, h1, h2, h3⟩ := scn_join a3 b3
  have e : (a ++ ⟨#[10, 10]⟩ ++ b : ByteArray).data.toList = a.data.toList ++ 10 :: 10 :: b.data.toList := by
    simp [ByteArray.data_append]
  refine ⟨z, pre, t, readOf_ok.2 ⟨by simp [ByteArray.size_append] <;> (have : (⟨#[10, 10]⟩ : ByteArray).size = 2 := rfl; omega), ?_, by rw [e]; exact h1⟩, h2, by rw [bal] at h3; exact h3⟩
  rw [okT_iff, e]
  refine ⟨valid_append a2.1 ?_, fun c hc => ?_⟩
  · rw [Lib.validD_cons 10 _ (by decide), Lib.validD_cons 10 _ (by decide)]; exact b2.1
  · rcases List.mem_append.1 hc with hc | hc
    · exact a2.2 c hc
    · rcases List.mem_cons.1 hc with rfl | hc
      · decide
      · rcases List.mem_cons.1 hc with rfl | hc
        · decide
        · exact b2.2 c hc
set_option maxRecDepth 100000 in
set_option maxHeartbeats 2000000 in
theorem joins_great (a b : ByteArray) (w : World) (hM : Mem w) (Z : Int) (z0 : IntKind.i64.wrap ((a.size : Int) + (b.size : Int)) = Z) (z1 : 4000 < Z) : Calls Tryd.prog 5 #[.string a, .string b] w fun e w' => e = .returned (.bool true) ∧ Below w.heap.size w w' := by
  have g6 := fun W (hb : Below w.heap.size w W) => awake_any W (hM.below hb)
  clear hM
  go_enter Tryd.func5, Tryd.ntmps5
  go_wp2_with (go_at_call 6; refine (g6 _ (Below.refl _ _)).mono ?_; rintro e w1 ⟨rfl, hb1⟩; have HB1 : Hid (Below w.heap.size w w1) := hb1; clear hb1)
  go_ret
  exact ⟨rfl, HB1.out⟩
theorem TokQ.ok {w : World} {s : St} {e : Ending} {w' : World} (h : TokQ w (.ok s) e w') : Below w.heap.size w w' ∧ ∃ a cap, e = .returned (.tuple #[.slice a s.toks.length cap, .agg #[.int .i64 0, .string ⟨#[]⟩, .int .i64 0]]) ∧ w'.ownsRow w.heap.size 29 4 (.slice a s.toks.length cap) s.toks.length (flT s.toks) := by
  obtain ⟨hb, a, cap, he, ho⟩ := h
  exact ⟨hb, a, cap, he, ho⟩
/-- one of the two is refused -/
theorem fault_two {a b : ByteArray} (h : ¬ (roC (readOf a) = 0 ∧ roC (readOf b) = 0)) : (((roC (readOf a) : Int)) != 0) = true ∨ ((((roC (readOf a) : Int)) != 0) = false ∧ (((roC (readOf b) : Int)) != 0) = true) := by
  by_cases h1 : roC (readOf a) = 0
  · right; refine ⟨by rw [h1]; rfl, ?_⟩
    have : roC (readOf b) ≠ 0 := fun e => h ⟨h1, e⟩
    simp; omega
  · left; simp; omega
set_option maxRecDepth 100000 in
set_option maxHeartbeats 2000000 in
theorem joins_bad (a b : ByteArray) (w : World) (hM : Mem w) (Z : Int) (z0 : IntKind.i64.wrap ((a.size : Int) + (b.size : Int)) = Z) (z1 : ¬ 4000 < Z) (h : ¬ (roC (readOf a) = 0 ∧ roC (readOf b) = 0)) : Calls Tryd.prog 5 #[.string a, .string b] w fun e w' => e = .returned (.bool true) ∧ Below w.heap.size w w' := by
  have g6 := fun W (hb : Below w.heap.size w W) => awake_any W (hM.below hb)
  have g7a := tokens_q a w hM
  have g7b := fun W (hb : Below w.heap.size w W) => tokens_q b W (hM.below hb)
  have hf := fault_two h
  clear hM h
  generalize readOf a = ra at *
  generalize readOf b = rb at *
  obtain ⟨C1, hC1⟩ : ∃ C : Int, (roC ra : Int) = C := ⟨_, rfl⟩
  obtain ⟨C2, hC2⟩ : ∃ C : Int, (roC rb : Int) = C := ⟨_, rfl⟩
  rw [hC1, hC2] at hf
  have HC1 : Hid (fltV (roC ra) (roA ra) = .agg #[.int .i64 C1, .string ⟨#[]⟩, .int .i64 (roA ra)]) := by show _ = _; rw [fltV, hC1]
  have HC2 : Hid (fltV (roC rb) (roA rb) = .agg #[.int .i64 C2, .string ⟨#[]⟩, .int .i64 (roA rb)]) := by show _ = _; rw [fltV, hC2]
  clear hC1 hC2
  rcases hf with k1 | ⟨k1, k2⟩
  all_goals
    go_enter Tryd.func5, Tryd.ntmps5
    go_wp2_with (first
      | (go_at_call 7; refine g7a.mono ?_; clear g7a; rintro e w1 ⟨hb1, a1, d1, rfl, _⟩; rw [HC1.out]; have HB1 : Hid (Below w.heap.size w w1) := hb1; have hz1 := hb1.size; clear hb1)
      | (go_at_call 7; refine (g7b _ (HB1.out.alloc (by omega) _)).mono ?_; clear g7b; rintro e w2 ⟨hb2, a2, d2, rfl, _⟩; rw [HC2.out]; have HB2 : Hid (Below w.heap.size w w2) := (HB1.out.alloc (by omega) _).trans (hb2.mono (by simp; omega)); have hz2 : w1.heap.size < w2.heap.size := (by have := hb2.size; simp at this; omega); have e0 : w2.cell? ⟨w1.heap.size, 0, none⟩ = some (.int .i64 C1) := (by rw [hb2.cell (by simp)]; exact cell_of (heap_alloc_new w1 _) 0); clear hb2)
      | (go_at_call 6; refine (g6 _ (HB2.out.alloc (by omega) _)).mono ?_; rintro e w3 ⟨rfl, hb3⟩; have HB3 : Hid (Below w.heap.size w w3) := (HB2.out.alloc (by omega) _).trans (hb3.mono (by simp; omega)); clear hb3))
    go_ret
    exact ⟨rfl, HB3.out⟩
theorem al_at {pre l l2 : List Tk} {t : Tk} {d : Nat} (h : Aft pre d l l2) : l2.length + 1 = (pre ++ [t]).length + l.length ∧ (∀ (i : Nat) (u : Tk), i < pre.length → l2[i]? = some u → (pre ++ [t])[i]? = some u) ∧ (∀ (i : Nat) (u : Tk), pre.length ≤ i → l2[i]? = some u → ∃ v, l[i - pre.length]? = some v ∧ v.kind = u.kind ∧ v.text = u.text) := by
  obtain ⟨l', rfl, h⟩ := h
  have hl := h.len
  refine ⟨by simp; omega, fun i u hi hu => ?_, fun i u hi hu => ?_⟩
  · rw [List.getElem?_append_left hi] at hu ⊢; exact hu
  · rw [List.getElem?_append_right hi] at hu
    have hlt : i - pre.length < l.length := by have := (List.getElem?_eq_some_iff.1 hu).1; omega
    obtain ⟨b, h1, h2⟩ := h.get _ _ (List.getElem?_eq_getElem hlt)
    rw [hu] at h1
    obtain rfl := Option.some.inj h1
    exact ⟨_, List.getElem?_eq_getElem hlt, h2.1, h2.2.1⟩
set_option maxRecDepth 100000 in
set_option maxHeartbeats 4000000 in
theorem joins_ok (a b : ByteArray) (w : World) (hM : Mem w) (Z : Int) (z0 : IntKind.i64.wrap ((a.size : Int) + (b.size : Int)) = Z) (z1 : ¬ 4000 < Z) (x y : St) (hx : readOf a = .ok x) (hy : readOf b = .ok y) : Calls Tryd.prog 5 #[.string a, .string b] w fun e w' => e = .returned (.bool true) ∧ Below w.heap.size w w' := by
  have hsa := (readOf_ok.1 hx).1
  have hsb := (readOf_ok.1 hy).1
  rw [wrap_small _ (by omega) (by omega)] at z0
  have hla := (readOf_len a).1
  have hlb := (readOf_len b).1
  obtain ⟨z, pre, t, hz, hpx, haf⟩ := read_join hx hy (by omega)
  have hlz := (readOf_len (a ++ ⟨#[10, 10]⟩ ++ b)).1
  obtain ⟨hlen, hat1, hat2⟩ := al_at (t := t) haf
  rw [← hpx] at hlen hat1
  have hpl : pre.length + 1 = x.toks.length := by rw [hpx]; simp
  have g7c := fun W (hb : Below w.heap.size w W) => tokens_q (a ++ ⟨#[10, 10]⟩ ++ b) W (hM.below hb)
  have g7a := tokens_q a w hM
  have g7b := fun W (hb : Below w.heap.size w W) => tokens_q b W (hM.below hb)
  rw [hz] at g7c hlz
  rw [hx] at g7a hla
  rw [hy] at g7b hlb
  have g6 := fun W (hb : Below w.heap.size w W) => awake_any W (hM.below hb)
  have z0' : IntKind.i64.wrap ((a.size : Int) + (b.size : Int)) = (a.size : Int) + (b.size : Int) := wrap_small _ (by omega) (by omega)
  have z1' : ¬ (4000 : Int) < (a.size : Int) + (b.size : Int) := by omega
  have hla' : x.toks.length ≤ 70000 := hla
  have hlb' : y.toks.length ≤ 70000 := hlb
  have hlz' : z.toks.length ≤ 70000 := hlz
  have HAT1 : Hid (∀ (i : Nat) (u : Tk), i < pre.length → z.toks[i]? = some u → x.toks[i]? = some u) := hat1
  have HAT2 : Hid (∀ (i : Nat) (u : Tk), pre.length ≤ i → z.toks[i]? = some u → ∃ v, y.toks[i - pre.length]? = some v ∧ v.kind = u.kind ∧ v.text = u.text) := hat2
  have HZL : Hid (z.toks.length + 1 = x.toks.length + y.toks.length) := hlen
  have HPL : Hid (pre.length + 1 = x.toks.length) := hpl
  have hyl : 1 ≤ y.toks.length := by
    obtain ⟨_, _, h3⟩ := readOf_ok.1 hy
    obtain ⟨s', _, h4⟩ := scn_line [] b.data.toList.length b.data.toList 0 ⟨[], []⟩ y (Nat.le_refl _) h3
    rw [h4]
    simp
  clear hM hx hy hz hpx haf hat1 hat2 hla hlb hlz z0 z1 hlen hpl
  have hcat : (a ++ ⟨#[10, 10]⟩ : ByteArray) ++ b = a ++ ⟨#[10, 10]⟩ ++ b := rfl
  have y1 : ¬ 9223372036854775807 < a.size + 2 := by omega
  have y2 : ¬ 9223372036854775807 < a.size + 2 + b.size := by omega
  generalize hNx : x.toks.length = Nx at *
  generalize hNy : y.toks.length = Ny at *
  generalize hNz : z.toks.length = Nz at *
  have hzz := HZL.out
  have w1 : IntKind.i64.wrap ((Nx : Int) + (Ny : Int)) = (Nx : Int) + (Ny : Int) := wrap_small _ (by omega) (by omega)
  have w2 : IntKind.i64.wrap ((Nx : Int) + (Ny : Int) - 1) = (Nx : Int) + (Ny : Int) - 1 := wrap_small _ (by omega) (by omega)
  have w3 : ((Nz : Int) != (Nx : Int) + (Ny : Int) - 1) = false := by simp; omega
  have w4 : ((Nx : Int) == 0) = false := by have := HPL.out; simp; omega
  have w5 : ((Ny : Int) == 0) = false := by simp; omega
  have HNX : Hid (Nx ≤ 70000 ∧ Nz ≤ 70000) := ⟨hla', hlz'⟩
  clear hzz
  go_enter Tryd.func5, Tryd.ntmps5
  go_wp2_with (first
    | (go_at_call 7; refine g7a.mono ?_; clear g7a; intro e W1 h1; obtain ⟨hb1, a1, d1, rfl, ho1⟩ := h1.ok; rw [hNx] at ho1 ⊢; have HB1 : Hid (Below w.heap.size w W1) := hb1; have hz1 := hb1.size; have HO1 : Hid (W1.ownsRow w.heap.size 29 4 (.slice a1 Nx d1) Nx (flT x.toks)) := ho1; clear hb1 ho1 h1)
    | (go_at_call 7; refine (g7b _ (HB1.out.alloc (by omega) _)).mono ?_; clear g7b; intro e W2 h2; obtain ⟨hb2, a2, d2, rfl, ho2⟩ := h2.ok; rw [hNy] at ho2 ⊢; have HB12 : Hid (Below W1.heap.size W1 W2) := ((Below.refl _ _).alloc (Nat.le_refl _) _).trans (hb2.mono (by simp)); have hz2 : W1.heap.size < W2.heap.size := (by have := hb2.size; simp at this; omega); have e0 : W2.cell? ⟨W1.heap.size, 0, none⟩ = some (.int .i64 0) := (by rw [hb2.cell (by simp)]; exact cell_of (heap_alloc_new W1 _) 0); have HO2 : Hid (W2.ownsRow w.heap.size 29 4 (.slice a2 Ny d2) Ny (flT y.toks)) := own_base ho2 (by simp; omega); clear hb2 ho2 h2)
    | (go_at_call 7; refine (g7c _ ((HB1.out.trans (HB12.out.mono hz1)).alloc (by omega) _)).mono ?_; clear g7c; intro e W3 h3; obtain ⟨hb3, a3, d3, rfl, ho3⟩ := h3.ok; rw [hNz] at ho3 ⊢; have HB23 : Hid (Below W2.heap.size W2 W3) := ((Below.refl _ _).alloc (Nat.le_refl _) _).trans (hb3.mono (by simp)); have hz3 : W2.heap.size < W3.heap.size := (by have := hb3.size; simp at this; omega); have HO3 : Hid (W3.ownsRow w.heap.size 29 4 (.slice a3 Nz d3) Nz (flT z.toks)) := own_base ho3 (by simp; omega); clear hb3 ho3 h3))
  have HBl : Hid (Below w.heap.size w (W3.alloc (.cells #[.int .i64 0, .string ⟨#[]⟩, .int .i64 0] 25))) := ((HB1.out.trans (HB12.out.mono hz1)).trans (HB23.out.mono (by omega))).alloc (by omega) _
  have HR1 : Hid ((W3.alloc (.cells #[.int .i64 0, .string ⟨#[]⟩, .int .i64 0] 25)).ownsRow w.heap.size 29 4 (.slice a1 Nx d1) x.toks.length (flT x.toks)) := by
    show World.ownsRow _ _ _ _ _ _ _
    rw [hNx]; exact ((HO1.out.below HB12.out).below HB23.out).alloc _
  have HR2 : Hid ((W3.alloc (.cells #[.int .i64 0, .string ⟨#[]⟩, .int .i64 0] 25)).ownsRow w.heap.size 29 4 (.slice a2 Ny d2) y.toks.length (flT y.toks)) := by
    show World.ownsRow _ _ _ _ _ _ _
    rw [hNy]; exact (HO2.out.below HB23.out).alloc _
  have HR3 : Hid ((W3.alloc (.cells #[.int .i64 0, .string ⟨#[]⟩, .int .i64 0] 25)).ownsRow w.heap.size 29 4 (.slice a3 Nz d3) z.toks.length (flT z.toks)) := by
    show World.ownsRow _ _ _ _ _ _ _
    rw [hNz]; exact HO3.out.alloc _
  clear HO1 HO2 HO3 HB1 HB12 HB23 hz1 hz2 hz3 e0
  generalize W3.alloc (.cells #[.int .i64 0, .string ⟨#[]⟩, .int .i64 0] 25) = Wl at *
  go_loopw [11] (fun u wr => ∃ i : Nat, i ≤ Nz ∧ u = .int .i64 i ∧ Below Wl.heap.size Wl wr) (fun u _ => Nz - (intOf u).toNat)
  case atStart => exact ⟨0, Nat.zero_le _, rfl, Below.refl _ _⟩
  case round =>
    clear w1 w2 w3 w4 w5 y1 y2 hcat z0' z1' hla' hlb' hlz' hsa hsb hyl
    obtain ⟨i, hi, rfl, hbw⟩ := hrel
    have HBW : Hid (Below Wl.heap.size Wl wr) := hbw
    by_cases hil : i < Nz
    · have q1 : (i : Int) < (Nz : Int) := by omega
      have q2 : (0 : Int) ≤ (i : Int) := by omega
      obtain ⟨u, hu⟩ : ∃ u, z.toks[i]? = some u := ⟨_, List.getElem?_eq_getElem (by omega)⟩
      obtain ⟨g3, c3, e3, hc3, v0, v1, v2, v3⟩ := (tok_open (HR3.out.below hbw)).2 i u hu
      rw [Value.slice.injEq] at e3
      obtain ⟨rfl, hh3, rfl⟩ := e3
      clear hh3
      rw [hNz] at hc3
      have hg3 : g3 < wr.heap.size := World.block_lt_of_cell? wr ⟨g3, i * 4, none⟩ v0
      have hpl := HPL.out
      have hnx := HNX.out.1
      have hnz := HNX.out.2
      have q5 : IntKind.i64.wrap ((Nx : Int) - 1) = (Nx : Int) - 1 := wrap_small _ (by omega) (by omega)
      by_cases hip : i < pre.length
      · have q3 : (i : Int) < (Nx : Int) - 1 := by have := HPL.out; omega
        obtain ⟨g1, c1, e1, hc1, x0, x1, x2, x3⟩ := (tok_open (HR1.out.below hbw)).2 i u (HAT1.out i u hip hu)
        rw [Value.slice.injEq] at e1
        obtain ⟨rfl, hh1, rfl⟩ := e1
        clear hh1
        rw [hNx] at hc1
        have hg1 : g1 < wr.heap.size := World.block_lt_of_cell? wr ⟨g1, i * 4, none⟩ x0
        have q4 : (i : Int) < (Nx : Int) := by omega
        clear hbw hu hpl
        clear hNx hNy hNz g6 HR1 HR2 HR3 HAT1 HAT2 HZL HPL HNX
        go_wp2_with fail
        all_goals first | (exfalso; omega) | skip
        go_quiet (fail)
        go_wp2_with fail
        go_roundw
        case rel => exact ⟨i + 1, by omega, by go_num, (HBW.out.alloc HBW.out.size _).trans (bl_drewN _ _ _)⟩
        case measure => simp [intOf]; omega
      · have q3 : ¬ (i : Int) < (Nx : Int) - 1 := by omega
        obtain ⟨v, hv, hk, htx⟩ := HAT2.out i u (by omega) hu
        obtain ⟨g1, c1, e1, hc1, x0, x1, x2, x3⟩ := (tok_open (HR2.out.below hbw)).2 (i - pre.length) v hv
        rw [Value.slice.injEq] at e1
        obtain ⟨rfl, hh1, rfl⟩ := e1
        clear hh1
        have hvl := (List.getElem?_eq_some_iff.1 hv).1
        rw [hNy] at hc1 hvl
        have hg1 : g1 < wr.heap.size := World.block_lt_of_cell? wr ⟨g1, (i - pre.length) * 4, none⟩ x0
        obtain ⟨j, hj⟩ : ∃ j, i - pre.length = j := ⟨_, rfl⟩
        rw [hj] at x0 x1 x2 x3 hvl
        have q4 : (j : Int) < (Ny : Int) := by omega
        have hnz2 := HNX.out.2
        have q6 : IntKind.i64.wrap ((i : Int) - (Nx : Int)) = (i : Int) - (Nx : Int) := by rw [IntKind.wrap_i64]; omega
        have q7 : IntKind.i64.wrap ((i : Int) - (Nx : Int) + 1) = (j : Int) := (wrap_small _ (by omega) (by omega)).trans (by omega)
        have q8 : (0 : Int) ≤ (j : Int) := by omega
        rw [← hk] at v0
        rw [← htx] at v3
        clear hbw hu hv hk htx
        clear hNx hNy hNz g6 HR1 HR2 HR3 HAT1 HAT2 HZL HPL HNX
        go_wp2_with fail
        all_goals first | (exfalso; omega) | skip
        go_quiet (fail)
        go_wp2_with fail
        go_roundw
        case rel => exact ⟨i + 1, by omega, by go_num, (HBW.out.alloc HBW.out.size _).trans (bl_drewN _ _ _)⟩
        case measure => simp [intOf]; omega
    · have q1 : ¬ (i : Int) < (Nz : Int) := by omega
      have g6' := g6 wr (HBl.out.trans (hbw.mono HBl.out.size))
      clear hbw
      go_wp2_with (go_at_call 6; refine g6'.mono ?_; rintro e w4 ⟨rfl, hb4⟩; have HB4 : Hid (Below wr.heap.size wr w4) := hb4; clear hb4)
      go_ret
      exact ⟨rfl, (HBl.out.trans (HBW.out.mono HBl.out.size)).trans (HB4.out.mono (Nat.le_trans HBl.out.size HBW.out.size))⟩
theorem joins_any (a b : ByteArray) (w : World) (hM : Mem w) : Calls Tryd.prog 5 #[.string a, .string b] w fun e w' => e = .returned (.bool true) ∧ Below w.heap.size w w' := by
  by_cases h1 : 4000 < IntKind.i64.wrap ((a.size : Int) + (b.size : Int))
  · exact joins_great a b w hM _ rfl h1
  by_cases h2 : roC (readOf a) = 0 ∧ roC (readOf b) = 0
  · obtain ⟨x, hx⟩ := readOf_code h2.1
    obtain ⟨y, hy⟩ := readOf_code h2.2
    exact joins_ok a b w hM _ rfl h1 x y hx hy
  · exact joins_bad a b w hM _ rfl h1 h2
end Go.Proofs.YtmfdfkbcommjfabDoor
