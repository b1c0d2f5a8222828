/-
  trySets, walked.
-/
import Derived.Test.YtleiohccaagalaaGreatSts
namespace Go.Proofs.YtleiohccaagalaaGreat
open Go.RowKit Go.Sort
attribute [local go_sem ↓] Go.wp_at_zero Go.wp_at_succ
/-- below n nothing is changed, and no row of texts -/
structure Kt (n : Nat) (W W' : World) : Prop where
  os : W'.os = W.os
  tape : W'.tape = W.tape
  output : W'.output = W.output
  size : W.heap.size ≤ W'.heap.size
  block : ∀ b, b < n → W'.heap[b]? = W.heap[b]?
  txt : ∀ (b : Nat) cs fr, W.heap[b]? = some (.cells cs 9 fr) → W'.heap[b]? = some (.cells cs 9 fr)
theorem Kt.refl (n : Nat) (W : World) : Kt n W W := ⟨rfl, rfl, rfl, Nat.le_refl _, fun _ _ => rfl, fun _ _ _ h => h⟩
theorem Kt.trans {n : Nat} {A B C : World} (h : Kt n A B) (k : Kt n B C) : Kt n A C :=
  ⟨k.os.trans h.os, k.tape.trans h.tape, k.output.trans h.output, Nat.le_trans h.size k.size, fun b hb => (k.block b hb).trans (h.block b hb), fun b cs fr hb => k.txt b cs fr (h.txt b cs fr hb)⟩
theorem Kt.of {n : Nat} {A B : World} (h : Below A.heap.size A B) (hn : n ≤ A.heap.size) : Kt n A B :=
  ⟨h.os, h.tape, h.output, h.size, fun b hb => h.block b (by omega), fun b cs fr hb => (h.block b (Array.getElem?_eq_some_iff.1 hb).1).trans hb⟩
theorem Kt.below {n : Nat} {A B : World} (h : Kt n A B) : Below n A B := ⟨h.os, h.tape, h.output, h.size, h.block⟩
theorem SRow.kt {n : Nat} {A B : World} {b : Nat} {v : Value} {l : List Bs} (h : SRow A b v l) (k : Kt n A B) : SRow B b v l := by
  refine ⟨h.1, ?_⟩
  rcases h.2 with h' | ⟨g, cap, cur, hv, h1, h2, h3⟩
  · exact .inl h'
  · exact .inr ⟨g, cap, cur, hv, h1, k.txt _ _ _ h2, h3⟩
/-- where the loop of trySets stands -/
structure TryS (n : Nat) (w : World) (I : Nat → World → Prop) (T : List Bs) (a : Option Addr) (c m : Nat) (wr : World) : Prop where
  kt : Kt n w wr
  inv : I m wr
  row : SRow wr w.heap.size (.slice a T.length c) T
  size : w.heap.size ≤ wr.heap.size
structure TryQ (n : Nat) (w : World) (I : Nat → World → Prop) (J : World → Prop) (T : List Bs) (e : Ending) (w' : World) : Prop where
  kt : Kt n w w'
  few : T.length ≤ 10 → e = .returned (.bool true) ∧ (I (2 ^ T.length) w' ∨ J w')
  many : ¬ T.length ≤ 10 → e = .returned (.bool false) ∧ Below w.heap.size w w'
set_option maxRecDepth 100000 in
set_option maxHeartbeats 4000000 in
theorem trySets_any {w : World} {a : Option Addr} {n0 c : Nat} {l : List Bs} (hT : TxV w a n0 c l) (hn : n0 ≤ 8796093021952) (n : Nat) (hnw : n ≤ w.heap.size) (K : FuncId) (caps : Array Value) (hK : ∀ (args : Array Value) (w : World), (callFunc K args).run Tryz.prog w = .ok (.enter K args) w)
    (I : Nat → World → Prop) (J : World → Prop) (hI0 : ∀ W, Below w.heap.size w W → I 0 W) (hkeep : ∀ m W W', I m W → Below W.heap.size W W' → I m W')
    (hcall : ∀ m (W : World) a' c', (eo l).length ≤ 10 → m < 2 ^ (eo l).length → w.heap.size ≤ W.heap.size → I m W → SRow W w.heap.size (.slice a' (chs (eo l) m (eo l).length).length c') (chs (eo l) m (eo l).length) →
      Calls Tryz.prog K (#[.slice a' (chs (eo l) m (eo l).length).length c'] ++ caps) W fun e w' => ∃ b : Bool, e = .returned (.bool b) ∧ Kt n W w' ∧ (b = true → I (m + 1) w') ∧ (b = false → J w')) :
    Calls Tryz.prog 18 #[.slice a n0 c, .func (.func K) #[] caps] w (TryQ n w I J (eo l)) := by
  have h1 := eachOnce_any hT hn
  have hlen : (eo l).length ≤ n0 := by rw [hT.len]; exact eo_le l
  have HI0 : Hid (∀ W, Below w.heap.size w W → I 0 W) := hI0
  have HKP : Hid (∀ m W W', I m W → Below W.heap.size W W' → I m W') := hkeep
  have HC : Hid _ := hcall
  clear hT hI0 hkeep hcall
  generalize eo l = T at *
  by_cases h10 : T.length ≤ 10
  · have k1 : ¬ (10 : Int) < (T.length : Int) := by omega
    have hpow : 2 ^ T.length ≤ 1024 := Nat.pow_le_pow_right (by omega) h10 (n := 2)
    obtain ⟨P, hP⟩ : ∃ P, P = 2 ^ T.length := ⟨_, rfl⟩
    have hw : wrap64 (2 ^ T.length) = (P : Int) := by
      have e : ((2 : Int) ^ T.length) = (P : Int) := by rw [hP]; simp
      rw [e]; rw [← hP] at hpow; unfold wrap64; omega
    rw [← hP] at hpow
    have HP : Hid (P = 2 ^ T.length) := hP
    clear hP
    go_enter Tryz.func18, Tryz.ntmps18
    go_wp2_with (go_at_call 24; refine h1.mono ?_; intro e w1 hq; obtain ⟨a1, c1, rfl, hr1⟩ := hq.ex; have HR1 : Hid (SRow w1 w.heap.size (.slice a1 T.length c1) T) := hr1; have HB1 : Hid (Below w.heap.size w w1) := hq.bl; clear hq hr1 h1)
    rw [hw]
    clear hw
    go_loopg [5, 14] P (fun g u5 u14 wr => ∃ m : Nat, m ≤ P ∧ P - m ≤ g ∧ u14 = .int .i64 m ∧ Hid (TryS n w I T a1 c1 m wr))
    case atStart => exact ⟨0, Nat.zero_le _, Nat.le_refl _, rfl, Kt.of HB1.out hnw, HI0.out _ HB1.out, HR1.out, HB1.out.size⟩
    case round =>
      obtain ⟨m, hm, hg, rfl, HX⟩ := hrel
      by_cases hlt : m < P
      · have z1 : (m : Int) < (P : Int) := by omega
        have hch := chosen_any HX.out.row.txv h10 m (by omega)
        have hsz := HX.out.size
        go_wp2_with (go_at_call 31; refine hch.mono ?_; rintro e w2 ⟨v2, rfl, hr2, hb2⟩; obtain ⟨a2, c2, rfl⟩ := own_slice hr2; have HR2 : Hid (SRow w2 w.heap.size (.slice a2 (chs T m T.length).length c2) (chs T m T.length)) := SRow.base hr2 hsz; have HB2 : Hid (Below wr.heap.size wr w2) := hb2; have hz2 := hb2.size; clear hch hr2 hb2)
        refine (HC.out m w2 a2 c2 h10 (by rw [← HP.out]; exact hlt) (by omega) (HKP.out _ _ _ HX.out.inv HB2.out) HR2.out).mono ?_
        rintro e w3 ⟨b, rfl, kt3, hyes, hno⟩
        have HK3 : Hid (Kt n w w3) := (HX.out.kt.trans (Kt.of HB2.out (by omega))).trans kt3
        have HR3 : Hid (SRow w3 w.heap.size (.slice a1 T.length c1) T) := SRow.kt (own_whole HX.out.row HB2.out) kt3
        have HZ3 : Hid (w.heap.size ≤ w3.heap.size) := by have := kt3.size; show _ ≤ _; omega
        clear kt3
        cases b with
        | true =>
          have HY : Hid (I (m + 1) w3) := hyes rfl
          clear hyes hno
          go_wp2_with fail
          go_roundg (P - (m + 1))
          case measure => omega
          case rel => exact ⟨m + 1, by omega, Nat.le_refl _, by go_num, HK3.out, HY.out, HR3.out, HZ3.out⟩
        | false =>
          have HN : Hid (J w3) := hno rfl
          clear hyes hno
          go_wp2_with fail
          go_ret
          exact ⟨HK3.out, fun _ => ⟨rfl, .inr HN.out⟩, fun h => absurd h10 h⟩
      · have z1 : ¬ (m : Int) < (P : Int) := by omega
        go_wp2_with fail
        go_ret
        have e : m = 2 ^ T.length := by rw [← HP.out]; omega
        exact ⟨HX.out.kt, fun _ => ⟨rfl, .inl (by rw [← e]; exact HX.out.inv)⟩, fun h => absurd h10 h⟩
  · have k1 : (10 : Int) < (T.length : Int) := by omega
    go_enter Tryz.func18, Tryz.ntmps18
    go_wp2_with (go_at_call 24; refine h1.mono ?_; intro e w1 hq; obtain ⟨a1, c1, rfl, hr1⟩ := hq.ex; have HB1 : Hid (Below w.heap.size w w1) := hq.bl; clear hq hr1 h1)
    go_ret
    exact ⟨Kt.of HB1.out hnw, fun h => absurd h h10, fun _ => ⟨rfl, HB1.out⟩⟩
end Go.Proofs.YtleiohccaagalaaGreat
