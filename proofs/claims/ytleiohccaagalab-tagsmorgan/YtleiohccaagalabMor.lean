/-
  TagsMorgan, walked.
-/
import Derived.Test.YtleiohccaagalabTrn
import Derived.Laws.AppendOwnNone
namespace Go.Proofs.Ytleiohccaagalab
open Go.RowKit Go.Sort
attribute [local go_sem ↓] Go.wp_at_zero Go.wp_at_succ
theorem morgan (p q : Pt) (T : List Bs) (hT : T.length ≤ 10) : alike (.not (.both p q)) (.either (.not p) (.not q)) T = true := by
  unfold alike
  rw [decide_eq_true hT, Bool.true_and, List.all_eq_true]
  intro s _
  simp only [Pt.holds]
  cases p.holds s <;> cases q.holds s <;> rfl
theorem app_get (A B : ByteArray) (i : Nat) (h : i < (A ++ B).size) : (A ++ B)[i]'h ∈ A.data.toList ∨ (A ++ B)[i]'h ∈ B.data.toList := by
  have h1 := bget (A ++ B) i h
  have h2 := List.mem_of_getElem? h1
  rw [show (A ++ B).data = A.data ++ B.data by simp [ByteArray.data_append], Array.toList_append, List.mem_append] at h2
  exact h2
theorem app_nl (A B : ByteArray) (h : ∀ c ∈ (A ++ B).data.toList, c ≠ 10) : (∀ c ∈ A.data.toList, c ≠ 10) ∧ ∀ c ∈ B.data.toList, c ≠ 10 := by
  rw [show (A ++ B).data = A.data ++ B.data by simp [ByteArray.data_append], Array.toList_append] at h
  exact ⟨fun c hc => h c (List.mem_append_left _ hc), fun c hc => h c (List.mem_append_right _ hc)⟩
/-- the texts that are read -/
theorem mor_read1 {A : ByteArray} (hA : A.size ≤ 60) (hnl : ∀ c ∈ A.data.toList, c ≠ 10) (W : World) (hM : Mx W) : Calls Try.prog 6 #[.string (⟨#[47, 47, 98, 117, 105, 108, 100, 32]⟩ ++ A)] W (RulQ W (lineR A.data.toList)) := by
  have hlen := bal A
  have e : (⟨#[47, 47, 98, 117, 105, 108, 100, 32]⟩ ++ A : ByteArray) = bs (head8 ++ A.data.toList) := by
    conv => lhs; rw [← bs_of A]
    rw [lit8, bs_app]
  rw [e]
  have := Read_any (bs (head8 ++ A.data.toList)) W (by rw [bs_size, List.length_append, hlen]; show 8 + _ ≤ _; omega) hM
  rwa [bs_list, readR_head, (eol_none _ hnl []).2] at this
theorem mor_read2 {A B : ByteArray} (hA : A.size ≤ 60) (hB : B.size ≤ 60) (ha : ∀ c ∈ A.data.toList, c ≠ 10) (hb : ∀ c ∈ B.data.toList, c ≠ 10) {p q : Pt} (hp : lineR A.data.toList = some p) (hq : lineR B.data.toList = some q) (W : World) (hM : Mx W) :
    Calls Try.prog 6 #[.string (⟨#[47, 47, 98, 117, 105, 108, 100, 32, 33, 40, 40]⟩ ++ A ++ ⟨#[41, 32, 38, 38, 32, 40]⟩ ++ B ++ ⟨#[41, 41]⟩)] W (RulQ W (some (.not (.both p q)))) := by
  have la := bal A
  have lb := bal B
  have e : (⟨#[47, 47, 98, 117, 105, 108, 100, 32, 33, 40, 40]⟩ ++ A ++ ⟨#[41, 32, 38, 38, 32, 40]⟩ ++ B ++ ⟨#[41, 41]⟩ : ByteArray) = bs (head8 ++ (33 :: 40 :: 40 :: (A.data.toList ++ 41 :: 32 :: 38 :: 38 :: 32 :: 40 :: (B.data.toList ++ [41, 41])))) := by
    conv => lhs; rw [← bs_of A, ← bs_of B]
    rw [show (⟨#[47, 47, 98, 117, 105, 108, 100, 32, 33, 40, 40]⟩ : ByteArray) = bs (head8 ++ [33, 40, 40]) from rfl, show (⟨#[41, 32, 38, 38, 32, 40]⟩ : ByteArray) = bs [41, 32, 38, 38, 32, 40] from rfl, show (⟨#[41, 41]⟩ : ByteArray) = bs [41, 41] from rfl, bs_app, bs_app, bs_app, bs_app]
    simp
  rw [e]
  have := Read_any (bs (head8 ++ (33 :: 40 :: 40 :: (A.data.toList ++ 41 :: 32 :: 38 :: 38 :: 32 :: 40 :: (B.data.toList ++ [41, 41]))))) W (by rw [bs_size]; simp only [List.length_append, List.length_cons, List.length_nil, la, lb]; show 8 + _ ≤ _; omega) hM
  rwa [bs_list, readR_head, (eol_none _ (by
    intro c hc
    simp only [List.mem_cons, List.mem_append, List.not_mem_nil, or_false] at hc
    rcases hc with rfl | rfl | rfl | hc | rfl | rfl | rfl | rfl | rfl | rfl | hc | rfl | rfl <;> first | decide | exact ha c hc | exact hb c hc) []).2, (line_morgan hp hq (by omega) (by omega)).1] at this
theorem mor_read3 {A B : ByteArray} (hA : A.size ≤ 60) (hB : B.size ≤ 60) (ha : ∀ c ∈ A.data.toList, c ≠ 10) (hb : ∀ c ∈ B.data.toList, c ≠ 10) {p q : Pt} (hp : lineR A.data.toList = some p) (hq : lineR B.data.toList = some q) (W : World) (hM : Mx W) :
    Calls Try.prog 6 #[.string (⟨#[47, 47, 98, 117, 105, 108, 100, 32, 33, 40]⟩ ++ A ++ ⟨#[41, 32, 124, 124, 32, 33, 40]⟩ ++ B ++ ⟨#[41]⟩)] W (RulQ W (some (.either (.not p) (.not q)))) := by
  have la := bal A
  have lb := bal B
  have e : (⟨#[47, 47, 98, 117, 105, 108, 100, 32, 33, 40]⟩ ++ A ++ ⟨#[41, 32, 124, 124, 32, 33, 40]⟩ ++ B ++ ⟨#[41]⟩ : ByteArray) = bs (head8 ++ (33 :: 40 :: (A.data.toList ++ 41 :: 32 :: 124 :: 124 :: 32 :: 33 :: 40 :: (B.data.toList ++ [41])))) := by
    conv => lhs; rw [← bs_of A, ← bs_of B]
    rw [show (⟨#[47, 47, 98, 117, 105, 108, 100, 32, 33, 40]⟩ : ByteArray) = bs (head8 ++ [33, 40]) from rfl, show (⟨#[41, 32, 124, 124, 32, 33, 40]⟩ : ByteArray) = bs [41, 32, 124, 124, 32, 33, 40] from rfl, show (⟨#[41]⟩ : ByteArray) = bs [41] from rfl, bs_app, bs_app, bs_app, bs_app]
    simp
  rw [e]
  have := Read_any (bs (head8 ++ (33 :: 40 :: (A.data.toList ++ 41 :: 32 :: 124 :: 124 :: 32 :: 33 :: 40 :: (B.data.toList ++ [41]))))) W (by rw [bs_size]; simp only [List.length_append, List.length_cons, List.length_nil, la, lb]; show 8 + _ ≤ _; omega) hM
  rwa [bs_list, readR_head, (eol_none _ (by
    intro c hc
    simp only [List.mem_cons, List.mem_append, List.not_mem_nil, or_false] at hc
    rcases hc with rfl | rfl | hc | rfl | rfl | rfl | rfl | rfl | rfl | rfl | hc | rfl <;> first | decide | exact ha c hc | exact hb c hc) []).2, (line_morgan hp hq (by omega) (by omega)).2] at this
/-- two rows put together, wherever the second one lies -/
theorem wp_app3 {w : World} {ops : Array Oper} {rest : List Oper} {o : Oper} {a : Act} {Q : Exit → Act → World → Prop} (hgd : o.guard = none) (s x : Operand)
    (ho : o.op = .call { callee := .builtin .append, args := #[s, x], argTypes := #[29, 29] }) (base : Nat) (v u : Value) (l m : List Bs)
    (hs : a.eval s = v) (hown : SRow w base v l) (hx : a.eval x = u) (hu : SRow w base u m) (hl : l.length + m.length ≤ 1000000) (hbase : base ≤ w.heap.size)
    (h : ∀ v' w', SRow w' base v' (l ++ m) → w.grownBy w' v.ownBlock → wpList Try.prog ops Q rest (a.put o.dst v') w') : wpList Try.prog ops Q (o :: rest) a w := by
  obtain ⟨i0, i1, i2, i3, i4⟩ := info9_ex
  rcases hu.2 with ⟨hn, hz⟩ | ⟨g, cap, cur, hv, h1, h2, h3, h4, h5, h6⟩
  · have hm : m = [] := List.eq_nil_of_length_eq_zero hz
    subst hm
    refine wpList_append_own_none hgd s x 29 ho base 9 i0 1 Try.underlying29 i1 v l.length (sv l) hs hown (by rw [hx, hn]) ?_
    exact h v w (by rw [List.append_nil]; exact hown) ⟨rfl, rfl, rfl, Nat.le_refl _, fun _ _ _ => rfl⟩
  · refine wpList_append_own w hgd s x 29 ho base 9 i0 _ 1 16 Try.underlying29 i1 i2 i3 i4 rfl (by omega) v l.length (sv l) hs hown ⟨g, 0, none⟩ m.length cap (sv m) (by rw [hx, hv]) (by rw [sv_len]; omega) (fun j y hj => hu.cells (g := g) (by rw [hv]; rfl) j y hj) (by simp [sv, Value.oneCell']) (by unfold maxLen; omega) (by omega) hbase ?_
    intro v' w' hown' hgrow _
    refine h v' w' ?_ hgrow
    have e : sv (l ++ m) = sv l ++ sv m := by simp [sv]
    simp only [SRow, e, List.length_append]
    exact hown'
set_option maxRecDepth 100000 in
set_option maxHeartbeats 4000000 in
theorem morgan_in (A B : ByteArray) (w : World) (hA : A.size ≤ 60) (hB : B.size ≤ 60) (hM : Mx w) (hnl : ∀ c ∈ (A ++ B).data.toList, c ≠ 10) {p q : Pt} (hp : lineR A.data.toList = some p) (hq : lineR B.data.toList = some q) : Calls Try.prog 4 #[.string A, .string B] w fun e w' => e = .returned (.bool true) ∧ Below w.heap.size w w' := by
  have hnp := (rdd_line hp).names_le
  have hnq := (rdd_line hq).names_le
  obtain ⟨ha, hb⟩ := app_nl A B hnl
  have HM : Hid (∀ W, Below w.heap.size w W → Mx W) := fun W h => hM.below hM.lt h
  have HA : Hid (∀ W, Below w.heap.size w W → Calls Try.prog 5 #[] W fun e w' => e = .returned (.bool true) ∧ Below W.heap.size W w') := fun W h => awake_any W (HM.out W h)
  have HR1 : Hid (∀ W, Below w.heap.size w W → Calls Try.prog 6 #[.string (⟨#[47, 47, 98, 117, 105, 108, 100, 32]⟩ ++ A)] W (RulQ W (some p))) := fun W h => by have := mor_read1 hA ha W (HM.out W h); rwa [hp] at this
  have HR2 : Hid (∀ W, Below w.heap.size w W → Calls Try.prog 6 #[.string (⟨#[47, 47, 98, 117, 105, 108, 100, 32]⟩ ++ B)] W (RulQ W (some q))) := fun W h => by have := mor_read1 hB hb W (HM.out W h); rwa [hq] at this
  have HR3 : Hid (∀ W, Below w.heap.size w W → Calls Try.prog 6 #[.string (⟨#[47, 47, 98, 117, 105, 108, 100, 32, 33, 40, 40]⟩ ++ A ++ ⟨#[41, 32, 38, 38, 32, 40]⟩ ++ B ++ ⟨#[41, 41]⟩)] W (RulQ W (some (.not (.both p q))))) := fun W h => mor_read2 hA hB ha hb hp hq W (HM.out W h)
  have HR4 : Hid (∀ W, Below w.heap.size w W → Calls Try.prog 6 #[.string (⟨#[47, 47, 98, 117, 105, 108, 100, 32, 33, 40]⟩ ++ A ++ ⟨#[41, 32, 124, 124, 32, 33, 40]⟩ ++ B ++ ⟨#[41]⟩)] W (RulQ W (some (.either (.not p) (.not q))))) := fun W h => mor_read3 hA hB ha hb hp hq W (HM.out W h)
  have HG1 : Hid (∀ W v, RuleV W v p → Calls Try.prog 8 #[v] W (EoQ W (eo p.names))) := fun W v hr => Tags_any hr (by omega)
  have HG2 : Hid (∀ W v, RuleV W v q → Calls Try.prog 8 #[v] W (EoQ W (eo q.names))) := fun W v hr => Tags_any hr (by omega)
  have HE : Hid ((eo p.names).length ≤ 200 ∧ (eo q.names).length ≤ 200) := ⟨Nat.le_trans (eo_le _) hnp, Nat.le_trans (eo_le _) hnq⟩
  have HNL : Hid (∀ i (h : i < (A ++ B).size), (A ++ B)[i]'h ≠ 10) := fun i h => hnl _ (List.mem_of_getElem? (bget (A ++ B) i h))
  have HMG : Hid (∀ T : List Bs, T.length ≤ 10 → alike (.not (.both p q)) (.either (.not p) (.not q)) T = true) := morgan p q
  have k1 : ¬ (60 : Int) < (A.size : Int) := by omega
  have k2 : ¬ (60 : Int) < (B.size : Int) := by omega
  have hsz : (A ++ B).size = A.size + B.size := by simp
  clear hM hp hq hnl ha hb hnp hnq
  generalize eo p.names = T1 at *
  generalize eo q.names = T2 at *
  go_enter Try.func4, Try.ntmps4
  go_wp2_with fail
  go_loopg [5] (A.size + B.size) (fun g u5 wr => ∃ i : Nat, i ≤ A.size + B.size ∧ A.size + B.size - i ≤ g ∧ u5 = .int .i64 i ∧ wr = w)
  case atStart => exact ⟨0, Nat.zero_le _, Nat.le_refl _, rfl, rfl⟩
  case round =>
    obtain ⟨i, hi, hg, rfl, hw⟩ := hrel
    obtain rfl := hw.symm
    clear hw
    by_cases hlt : i < A.size + B.size
    · have z1 : (i : Int) < (A.size : Int) + (B.size : Int) := by omega
      have z0 : (0 : Int) ≤ (i : Int) := by omega
      have a10 : ((((A ++ B)[i]'(by omega)).toNat : Int) == 10) = false := u8_not (n := 10) (HNL.out i (by omega)) (by decide)
      go_wp2_with fail
      go_roundg (A.size + B.size - (i + 1))
      case measure => omega
      case rel => exact ⟨i + 1, by omega, Nat.le_refl _, by go_num, rfl⟩
    · have z1 : ¬ (i : Int) < (A.size : Int) + (B.size : Int) := by omega
      have h8 : ¬ (8 : Int) < (T1.length : Int) + (T2.length : Int) ∨ (8 : Int) < (T1.length : Int) + (T2.length : Int) := by omega
      rcases h8 with h8 | h8
      all_goals go_wp2_with (first
        | (go_at_call 6; refine (HR1.out _ (Below.refl _ _)).mono ?_; intro e w1 hq; obtain ⟨b1, rfl, hbz, hru⟩ := hq.yes _ rfl; have HB1 : Hid (Below w.heap.size w w1) := hq.bl; have HU1 : Hid (RuleV w1 (.pointer (some ⟨b1, 0, none⟩)) p) := .inr ⟨b1, rfl, hru⟩; have hz1 := hq.bl.size; clear hq hru hbz HR1)
        | (go_at_call 6; refine (HR2.out _ HB1.out).mono ?_; intro e w2 hq; obtain ⟨b2, rfl, hbz, hru⟩ := hq.yes _ rfl; have HB2 : Hid (Below w.heap.size w w2) := HB1.out.trans (hq.bl.mono hz1); have HV2 : Hid (RuleV w2 (.pointer (some ⟨b2, 0, none⟩)) q) := .inr ⟨b2, rfl, hru⟩; have HU2 : Hid (RuleV w2 (.pointer (some ⟨b1, 0, none⟩)) p) := RuleV.whole HU1.out hq.bl; have hz2 := HB2.out.size; clear hq hru hbz HR2)
        | (go_at_call 6; refine (HR3.out _ HB2.out).mono ?_; intro e w3 hq; obtain ⟨b3, rfl, hbz, hru⟩ := hq.yes _ rfl; have HB3 : Hid (Below w.heap.size w w3) := HB2.out.trans (hq.bl.mono hz2); have HX3 : Hid (RuleV w3 (.pointer (some ⟨b3, 0, none⟩)) (.not (.both p q))) := .inr ⟨b3, rfl, hru⟩; have HV3 : Hid (RuleV w3 (.pointer (some ⟨b2, 0, none⟩)) q) := RuleV.whole HV2.out hq.bl; have HU3 : Hid (RuleV w3 (.pointer (some ⟨b1, 0, none⟩)) p) := RuleV.whole HU2.out hq.bl; have hz3 := HB3.out.size; clear hq hru hbz HR3)
        | (go_at_call 6; refine (HR4.out _ HB3.out).mono ?_; intro e w4 hq; obtain ⟨b4, rfl, hbz, hru⟩ := hq.yes _ rfl; have HB4 : Hid (Below w.heap.size w w4) := HB3.out.trans (hq.bl.mono hz3); have HY4 : Hid (RuleV w4 (.pointer (some ⟨b4, 0, none⟩)) (.either (.not p) (.not q))) := .inr ⟨b4, rfl, hru⟩; have HX4 : Hid (RuleV w4 (.pointer (some ⟨b3, 0, none⟩)) (.not (.both p q))) := RuleV.whole HX3.out hq.bl; have HV4 : Hid (RuleV w4 (.pointer (some ⟨b2, 0, none⟩)) q) := RuleV.whole HV3.out hq.bl; have HU4 : Hid (RuleV w4 (.pointer (some ⟨b1, 0, none⟩)) p) := RuleV.whole HU3.out hq.bl; have hz4 := HB4.out.size; clear hq hru hbz HR4)
        | (go_at_call_of 8 (Value.pointer (some ⟨b1, 0, none⟩)); refine (HG1.out _ _ HU4.out).mono ?_; intro e w5 hq; obtain ⟨a5, c5, rfl, hr5⟩ := hq.ex; have HB5 : Hid (Below w.heap.size w w5) := HB4.out.trans (hq.bl.mono hz4); have HY5 : Hid (RuleV w5 (.pointer (some ⟨b4, 0, none⟩)) (.either (.not p) (.not q))) := RuleV.whole HY4.out hq.bl; have HX5 : Hid (RuleV w5 (.pointer (some ⟨b3, 0, none⟩)) (.not (.both p q))) := RuleV.whole HX4.out hq.bl; have HV5 : Hid (RuleV w5 (.pointer (some ⟨b2, 0, none⟩)) q) := RuleV.whole HV4.out hq.bl; have hz5 := HB5.out.size; have HR5 : Hid (SRow w5 w4.heap.size (.slice a5 T1.length c5) T1) := hr5; have hz45 := hq.bl.size; clear hq hr5)
        | (go_at_call_of 8 (Value.pointer (some ⟨b2, 0, none⟩)); refine (HG2.out _ _ HV5.out).mono ?_; intro e w6 hq; obtain ⟨a6, c6, rfl, hr6⟩ := hq.ex; have HB6 : Hid (Below w.heap.size w w6) := HB5.out.trans (hq.bl.mono hz5); have HY6 : Hid (RuleV w6 (.pointer (some ⟨b4, 0, none⟩)) (.either (.not p) (.not q))) := RuleV.whole HY5.out hq.bl; have HX6 : Hid (RuleV w6 (.pointer (some ⟨b3, 0, none⟩)) (.not (.both p q))) := RuleV.whole HX5.out hq.bl; have hz6 := HB6.out.size; have HR6 : Hid (SRow w6 w4.heap.size (.slice a6 T2.length c6) T2) := SRow.base hr6 hz45; have HS6 : Hid (SRow w6 w4.heap.size (.slice a5 T1.length c5) T1) := own_whole HR5.out hq.bl; have hz46 : w4.heap.size ≤ w6.heap.size := Nat.le_trans hz45 hq.bl.size; clear hq hr6)
        | (at_builtin; refine wp_app3 (by rfl) _ _ (by rfl) w4.heap.size (.slice a5 T1.length c5) (.slice a6 T2.length c6) T1 T2 (by rfl) HS6.out (by rfl) HR6.out (by have := HE.out; omega) hz46 ?_; intro v7 w7 hr7 hgrow; obtain ⟨a7, c7, rfl⟩ := own_slice hr7; have hb7 : Below w4.heap.size w6 w7 := (Below.refl _ _).grown hgrow hz46 (fun b hb => (HS6.out.blk hb).1); have HB7 : Hid (Below w.heap.size w w7) := HB6.out.trans (hb7.mono hz4); have HR7 : Hid (SRow w7 w4.heap.size (.slice a7 (T1 ++ T2).length c7) (T1 ++ T2)) := hr7; have HBW : Hid (Below w4.heap.size w6 w7) := hb7; have hz7 := HB7.out.size; clear hr7 hgrow hb7))
      · have hx : RuleV w7 (.pointer (some ⟨b3, 0, none⟩)) (.not (.both p q)) := RuleV.kt HX6.out HBW.out (fun b e => RuleV.lt HX4.out b e)
        have hy : RuleV w7 (.pointer (some ⟨b4, 0, none⟩)) (.either (.not p) (.not q)) := RuleV.kt HY6.out HBW.out (fun b e => RuleV.lt HY4.out b e)
        have hT : TxV w7 a7 (T1.length + T2.length) c7 (T1 ++ T2) := by have := HR7.out.txv; rwa [List.length_append] at this
        have hs := Same_any hx hy hT (by omega)
        have hel := eo_le (T1 ++ T2)
        rw [List.length_append] at hel
        rw [HMG.out _ (by omega)] at hs
        refine hs.mono ?_
        rintro e w8 ⟨rfl, hb8⟩
        have HB8 : Hid (Below w.heap.size w w8) := HB7.out.trans (hb8.mono hz7)
        have hz8 := HB8.out.size
        clear hb8 hs hT hx hy hel
        go_wp2_with fail
        refine (HA.out _ HB8.out).mono ?_
        rintro e w9 ⟨rfl, hb9⟩
        have HB9 : Hid (Below w.heap.size w w9) := HB8.out.trans (hb9.mono hz8)
        clear hb9
        go_wp2_with fail
        go_ret
        exact ⟨rfl, HB9.out⟩
      · refine (HA.out _ HB7.out).mono ?_
        rintro e w9 ⟨rfl, hb9⟩
        have HB9 : Hid (Below w.heap.size w w9) := HB7.out.trans (hb9.mono hz7)
        clear hb9
        go_wp2_with fail
        go_ret
        exact ⟨rfl, HB9.out⟩
set_option maxRecDepth 100000 in
set_option maxHeartbeats 4000000 in
theorem morgan_not (A B : ByteArray) (w : World) (hA : A.size ≤ 60) (hB : B.size ≤ 60) (hM : Mx w) (hnl : ∀ c ∈ (A ++ B).data.toList, c ≠ 10) (hn : lineR A.data.toList = none ∨ lineR B.data.toList = none) : Calls Try.prog 4 #[.string A, .string B] w fun e w' => e = .returned (.bool true) ∧ Below w.heap.size w w' := by
  obtain ⟨ha, hb⟩ := app_nl A B hnl
  have HM : Hid (∀ W, Below w.heap.size w W → Mx W) := fun W h => hM.below hM.lt h
  have HA : Hid (∀ W, Below w.heap.size w W → Calls Try.prog 5 #[] W fun e w' => e = .returned (.bool true) ∧ Below W.heap.size W w') := fun W h => awake_any W (HM.out W h)
  have HR1 : Hid (∀ W, Below w.heap.size w W → Calls Try.prog 6 #[.string (⟨#[47, 47, 98, 117, 105, 108, 100, 32]⟩ ++ A)] W (RulQ W (lineR A.data.toList))) := fun W h => mor_read1 hA ha W (HM.out W h)
  have HR2 : Hid (∀ W, Below w.heap.size w W → Calls Try.prog 6 #[.string (⟨#[47, 47, 98, 117, 105, 108, 100, 32]⟩ ++ B)] W (RulQ W (lineR B.data.toList))) := fun W h => mor_read1 hB hb W (HM.out W h)
  have HNL : Hid (∀ i (h : i < (A ++ B).size), (A ++ B)[i]'h ≠ 10) := fun i h => hnl _ (List.mem_of_getElem? (bget (A ++ B) i h))
  have HN : Hid (lineR A.data.toList = none ∨ lineR B.data.toList = none) := hn
  have k1 : ¬ (60 : Int) < (A.size : Int) := by omega
  have k2 : ¬ (60 : Int) < (B.size : Int) := by omega
  have hsz : (A ++ B).size = A.size + B.size := by simp
  clear hM hnl ha hb hn
  generalize lineR A.data.toList = RA at *
  generalize lineR B.data.toList = RB at *
  go_enter Try.func4, Try.ntmps4
  go_wp2_with fail
  go_loopg [5] (A.size + B.size) (fun g u5 wr => ∃ i : Nat, i ≤ A.size + B.size ∧ A.size + B.size - i ≤ g ∧ u5 = .int .i64 i ∧ wr = w)
  case atStart => exact ⟨0, Nat.zero_le _, Nat.le_refl _, rfl, rfl⟩
  case round =>
    obtain ⟨i, hi, hg, rfl, hw⟩ := hrel
    obtain rfl := hw.symm
    clear hw
    by_cases hlt : i < A.size + B.size
    · have z1 : (i : Int) < (A.size : Int) + (B.size : Int) := by omega
      have z0 : (0 : Int) ≤ (i : Int) := by omega
      have a10 : ((((A ++ B)[i]'(by omega)).toNat : Int) == 10) = false := u8_not (n := 10) (HNL.out i (by omega)) (by decide)
      go_wp2_with fail
      go_roundg (A.size + B.size - (i + 1))
      case measure => omega
      case rel => exact ⟨i + 1, by omega, Nat.le_refl _, by go_num, rfl⟩
    · have z1 : ¬ (i : Int) < (A.size : Int) + (B.size : Int) := by omega
      cases RA with
      | none =>
        cases RB
        all_goals
          go_wp2_with (first
            | (go_at_call 6; refine (HR1.out _ (Below.refl _ _)).mono ?_; intro e w1 hq; obtain rfl := hq.no rfl; have HB1 : Hid (Below w.heap.size w w1) := hq.bl; have hz1 := hq.bl.size; clear hq HR1)
            | (go_at_call 6; refine (HR2.out _ HB1.out).mono ?_; intro e w2 hq; (first | (obtain rfl := hq.no rfl) | (obtain ⟨b2, rfl, _, _⟩ := hq.yes _ rfl)); have HB2 : Hid (Below w.heap.size w w2) := HB1.out.trans (hq.bl.mono hz1); have hz2 := HB2.out.size; clear hq HR2)
            | (go_at_call 5; refine (HA.out _ HB2.out).mono ?_; rintro e w3 ⟨rfl, hb3⟩; have HB3 : Hid (Below w.heap.size w w3) := HB2.out.trans (hb3.mono hz2); clear hb3))
          go_ret
          exact ⟨rfl, HB3.out⟩
      | some p =>
        have hRB : RB = none := by rcases HN.out with h | h; cases h; exact h
        subst hRB
        go_wp2_with (first
          | (go_at_call 6; refine (HR1.out _ (Below.refl _ _)).mono ?_; intro e w1 hq; obtain ⟨b1, rfl, _, _⟩ := hq.yes _ rfl; have HB1 : Hid (Below w.heap.size w w1) := hq.bl; have hz1 := hq.bl.size; clear hq HR1)
          | (go_at_call 6; refine (HR2.out _ HB1.out).mono ?_; intro e w2 hq; obtain rfl := hq.no rfl; have HB2 : Hid (Below w.heap.size w w2) := HB1.out.trans (hq.bl.mono hz1); have hz2 := HB2.out.size; clear hq HR2)
          | (go_at_call 5; refine (HA.out _ HB2.out).mono ?_; rintro e w3 ⟨rfl, hb3⟩; have HB3 : Hid (Below w.heap.size w w3) := HB2.out.trans (hb3.mono hz2); clear hb3))
        go_ret
        exact ⟨rfl, HB3.out⟩
set_option maxRecDepth 100000 in
set_option maxHeartbeats 4000000 in
theorem morgan_any (A B : ByteArray) (w : World) (hM : Mx w) : Calls Try.prog 4 #[.string A, .string B] w fun e w' => e = .returned (.bool true) ∧ Below w.heap.size w w' := by
  have HM : Hid (∀ W, Below w.heap.size w W → Mx W) := fun W h => hM.below hM.lt h
  have HA : Hid (∀ W, Below w.heap.size w W → Calls Try.prog 5 #[] W fun e w' => e = .returned (.bool true) ∧ Below W.heap.size W w') := fun W h => awake_any W (HM.out W h)
  by_cases hA : A.size ≤ 60
  · have k1 : ¬ (60 : Int) < (A.size : Int) := by omega
    by_cases hB : B.size ≤ 60
    · have k2 : ¬ (60 : Int) < (B.size : Int) := by omega
      have hsz : (A ++ B).size = A.size + B.size := by simp
      rcases nl_or (A ++ B) with hnl | hnl
      · have HN : Hid (∃ i, ∃ h : i < (A ++ B).size, (A ++ B)[i]'h = 10) := hnl
        clear hnl hM
        go_enter Try.func4, Try.ntmps4
        go_wp2_with fail
        go_loopg [5] (A.size + B.size) (fun g u5 wr => ∃ i : Nat, i ≤ A.size + B.size ∧ A.size + B.size - i ≤ g ∧ u5 = .int .i64 i ∧ wr = w ∧ Hid (∃ j, i ≤ j ∧ ∃ h : j < (A ++ B).size, (A ++ B)[j]'h = 10))
        case atStart => exact ⟨0, Nat.zero_le _, Nat.le_refl _, rfl, rfl, by obtain ⟨j, h⟩ := HN.out; exact ⟨j, Nat.zero_le _, h⟩⟩
        case round =>
          obtain ⟨i, hi, hg, rfl, hw, HX⟩ := hrel
          obtain rfl := hw.symm
          clear hw
          have hlt : i < A.size + B.size := by obtain ⟨j, hj, h, _⟩ := HX.out; omega
          have z1 : (i : Int) < (A.size : Int) + (B.size : Int) := by omega
          have z0 : (0 : Int) ≤ (i : Int) := by omega
          by_cases h10 : (A ++ B)[i]'(by omega) = 10
          · have a10 : ((((A ++ B)[i]'(by omega)).toNat : Int) == 10) = true := u8_is (n := 10) h10 (by decide)
            go_wp2_with (go_at_call 5; refine (HA.out _ (Below.refl _ _)).mono ?_; rintro e w2 ⟨rfl, hb2⟩)
            go_ret
            exact ⟨rfl, hb2⟩
          · have a10 : ((((A ++ B)[i]'(by omega)).toNat : Int) == 10) = false := u8_not (n := 10) h10 (by decide)
            have HX2 : Hid (∃ j, i + 1 ≤ j ∧ ∃ h : j < (A ++ B).size, (A ++ B)[j]'h = 10) := by
              obtain ⟨j, hj, h, e⟩ := HX.out
              refine ⟨j, ?_, h, e⟩
              rcases Nat.lt_or_ge i j with h1 | h1
              · exact h1
              · have : j = i := by omega
                subst this
                exact absurd e h10
            clear h10 HX
            go_wp2_with fail
            go_roundg (A.size + B.size - (i + 1))
            case measure => omega
            case rel => exact ⟨i + 1, by omega, Nat.le_refl _, by go_num, rfl, HX2.out⟩
      · obtain ⟨ha, hb⟩ := app_nl A B hnl
        cases hp : lineR A.data.toList with
        | some p =>
          cases hq : lineR B.data.toList with
          | some q => exact morgan_in A B w hA hB hM hnl hp hq
          | none => exact morgan_not A B w hA hB hM hnl (.inr hq)
        | none => exact morgan_not A B w hA hB hM hnl (.inl hp)
    · have k2 : (60 : Int) < (B.size : Int) := by omega
      clear hM
      go_enter Try.func4, Try.ntmps4
      go_wp2_with (go_at_call 5; refine (HA.out _ (Below.refl _ _)).mono ?_; rintro e w2 ⟨rfl, hb2⟩)
      go_ret
      exact ⟨rfl, hb2⟩
  · have k1 : (60 : Int) < (A.size : Int) := by omega
    clear hM
    go_enter Try.func4, Try.ntmps4
    go_wp2_with (go_at_call 5; refine (HA.out _ (Below.refl _ _)).mono ?_; rintro e w2 ⟨rfl, hb2⟩)
    go_ret
    exact ⟨rfl, hb2⟩
end Go.Proofs.Ytleiohccaagalab
