/-
  tell, walked.
-/
import Derived.Test.YtifcikhgbafegabLin
namespace Go.Proofs.Ytifcikhgbafegab
open Go.RowKit
attribute [local go_sem ↓] Go.wp_at_zero Go.wp_at_succ
/-- types in a row, with a text between -/
def tellP (s : ByteArray) : List Addr → List ElQ
  | [] => []
  | a :: r => ty a :: r.flatMap fun b => [tx s, ty b]
theorem tellP_snoc (s : ByteArray) (l : List Addr) (a : Addr) : tellP s (l ++ [a]) = tellP s l ++ (if l = [] then [ty a] else [tx s, ty a]) := by
  cases l with
  | nil => simp [tellP]
  | cons b r => simp [tellP]
theorem tellP_len (s : ByteArray) (l : List Addr) : (tellP s l).length ≤ 2 * l.length := by
  cases l with
  | nil => simp [tellP]
  | cons b r =>
    have : (r.flatMap fun b => [tx s, ty b]).length = 2 * r.length := by
      induction r with
      | nil => rfl
      | cons x r ih => simp [ih]; omega
    simp [tellP, this]; omega
theorem kx_new {W : World} {o : Obj} {X : Nat → Prop} : Kx X W (W.alloc o) := Kx.of_whole (below_alloc W o)
theorem Ln.alloc {W : World} {L : Nat} {rb : Option Nat} {ps : List ElQ} (h : Ln W L rb ps) (o : Obj) : Ln (W.alloc o) L rb ps := h.kept (X := fun _ => False) (Kx.of_whole (below_alloc W o)) (fun h => h) (fun _ _ h => h)
/-- a text put down, with the block of its slice -/
theorem put_one {w : World} {L : Nat} {rb : Option Nat} {ps : List ElQ} (s : ByteArray) (h : Ln w L rb ps) (hm : ps.length + 1 ≤ 1000000) :
    Calls Try.prog 36 #[.pointer (some ⟨L, 0, none⟩), .slice (some ⟨w.heap.size, 0, none⟩) 1 1] (w.alloc (.cells #[.string s] 9)) fun e w' => (∃ u, e = .returned u) ∧ LQ w L rb (ps ++ [tx s]) w' := by
  have hL := h.lt
  have hr := h.row_lt
  have h1 := put_any (ts := [s]) (a := some ⟨w.heap.size, 0, none⟩) (n := 1) (c := 1) (h.alloc (.cells #[.string s] 9)) (.inr ⟨w.heap.size, 0, 1, rfl, by simp, by simp, ⟨by omega, fun e => by have := hr _ e; omega⟩, fun i x hx => by
    cases i with
    | zero => obtain rfl : s = x := by simpa using hx
              simp
    | succ i => simp at hx⟩) (by simpa using hm)
  refine h1.mono ?_
  rintro e w' ⟨he, hq⟩
  exact ⟨he, LQ.then (rb1 := rb) (fun _ h => .inl h) kx_new hq⟩
set_option maxRecDepth 100000 in
set_option maxHeartbeats 4000000 in
theorem tell_any {w : World} {L : Nat} {rb : Option Nat} {ps : List ElQ} (s : ByteArray) {a : Option Addr} {n c : Nat} {ts : List Addr} (h : Ln w L rb ps) (ht : PtV (fun b => b ≠ L ∧ rb ≠ some b) w (.slice a n c) ts) (hm : ps.length + 2 * ts.length ≤ 1000000) :
    Calls Try.prog 37 #[.pointer (some ⟨L, 0, none⟩), .string s, .slice a n c] w fun e w' => (∃ u, e = .returned u) ∧ LQ w L rb (ps ++ tellP s ts) w' := by
  obtain ⟨i0, hi, hz0, hz1, hz2⟩ := infoQ_ex
  have hl := ht.len
  have HT : Hid (PtV (fun b => b ≠ L ∧ rb ≠ some b) w (.slice a n c) ts) := ht
  have HL : Hid (n = ts.length) := hl
  have HLN : Hid (Ln w L rb ps) := h
  have hn : n ≤ 1000000 := by omega
  have HM : Hid (ps.length + 2 * ts.length ≤ 1000000) := hm
  clear h ht hl hm
  go_enter Try.func37, Try.ntmps37
  go_wp2_with fail
  go_loopg [10] n (fun g u10 wr => ∃ i : Nat, i ≤ n ∧ n - i ≤ g ∧ u10 = .int .i64 i ∧ Hid (LQ w L rb (ps ++ tellP s (ts.take i)) wr))
  case atStart => exact ⟨0, Nat.zero_le _, Nat.le_refl _, rfl, by show LQ _ _ _ _ _; simpa [tellP] using LQ.refl HLN.out⟩
  case round =>
    obtain ⟨i, hi9, hg, rfl, HX⟩ := hrel
    by_cases hlt : i < n
    · have z1 : (i : Int) < (n : Int) := by omega
      have z0 : (0 : Int) ≤ (i : Int) := by omega
      have b1 : i < ts.length := by rw [← HL.out]; exact hlt
      obtain ⟨rb1, hln, hrb⟩ := HX.out.ex
      have ht9 : PtV (fun b => b ≠ L ∧ rb ≠ some b) wr (.slice a n c) ts := HT.out.to HX.out.kx (fun _ _ h => h) (fun b _ h e => by rcases e with e | e; exact h.1 e; exact h.2 e)
      obtain ⟨g1, o1, rfl, ht1⟩ := ht9.get b1
      have hps : (ps ++ tellP s (ts.take i)).length + 2 ≤ 1000000 := by
        have h1 := tellP_len s (ts.take i)
        have := HM.out
        rw [List.length_append]
        simp at h1
        omega
      generalize hS : ts[i] = S at *
      have HS : Hid (ts[i] = S) := hS
      have hsn := tellP_snoc s (ts.take i) S
      rw [show ts.take i ++ [S] = ts.take (i + 1) by rw [List.take_add_one, List.getElem?_eq_getElem b1, hS]; simp] at hsn
      have HSN : Hid _ := hsn
      have HRB : Hid _ := hrb
      clear hS ht9 hrb hsn
      by_cases hz : i = 0
      · have hzI : ¬ (0 : Int) < (i : Int) := by omega
        have HZ : Hid (i = 0) := hz
        clear hz
        obtain ⟨v, hb, hr, rfl⟩ := hln.ex
        obtain ⟨N, hN⟩ : ∃ N, N = (ps ++ tellP s (ts.take i)).length := ⟨_, rfl⟩
        rw [← hN] at hr hps
        obtain ⟨va, vc, rfl⟩ : ∃ va vc, v = .slice va N vc := by
          rcases hr.2 with ⟨rfl, h0⟩ | ⟨g, cap, cur, rfl, _⟩
          · subst h0; exact ⟨_, _, rfl⟩
          · exact ⟨_, _, rfl⟩
        have c0 := cell_of hb 0
        simp only [List.getElem?_toArray, List.getElem?_cons_zero] at c0
        have hLlt := (Array.getElem?_eq_some_iff.1 hb).1
        have HRL : Hid _ := Ln.row_lt hln
        have HBK : Hid _ := hb
        have HRW : Hid (wr.ownsRow 0 49 2 (.slice va N vc) N ((ps ++ tellP s (ts.take i)).flatMap ecQ)) := hr
        have HNN : Hid (N = (ps ++ tellP s (ts.take i)).length) := hN
        clear hb hr hln hN
        go_wp2_with (at_builtin; refine wpList_append_lies _ rfl _ _ 50 rfl 0 49 i0 _ 2 24 Try.underlying50 hi hz0 hz1 hz2 rfl (by omega) (.slice va N vc) N _ rfl (HRW.out.alloc _) ⟨wr.heap.size, 0, none⟩ 1 1 [.string ⟨#[]⟩, pv S] rfl rfl (two_new _ _ _ _) (by simp [Value.oneCell']) (by omega) (by unfold maxLen; omega) (by omega) (Nat.zero_le _) (wr.heap.size + 1) (by simp) ?_; intro gg cap w9 hown hgrow hat hlt1; have HPU : Hid (LQ wr L (Value.slice va N vc).ownBlock ((ps ++ tellP s (ts.take i)) ++ [ty S]) (w9.setCell ⟨L, 0, none⟩ (.slice (some ⟨gg, 0, none⟩) (N + 1) cap))) := Ln.push HBK.out HRW.out HNN.out hown hgrow hat; have hb9 : Boxed w9 L 56 (.slice va N vc) := (Boxed.alloc (show Boxed wr L 56 (.slice va N vc) from HBK.out) _).kept hgrow (fun e => (HRL.out L e.symm).2 rfl); have d0 := hb9.cell; have f0 := hb9.frozen; clear hown hgrow hat hb9)
        go_roundg (n - (i + 1))
        case measure => omega
        case rel =>
          refine ⟨i + 1, by omega, Nat.le_refl _, by go_num, ?_⟩
          have := LQ.then HRB.out HX.out.kx HPU.out
          show LQ _ _ _ _ _
          rw [HSN.out, if_pos (by rw [HZ.out]; simp), ← List.append_assoc]
          exact this
      · have hzI : (0 : Int) < (i : Int) := by omega
        have hput := put_one s hln (by omega)
        clear hln
        go_wp2_with (first
          | (go_at_call 36; refine hput.mono ?_; rintro e w1 ⟨⟨u1, rfl⟩, hq1⟩; have HQ1 : Hid (LQ wr L rb1 (ps ++ tellP s (ts.take i) ++ [tx s]) w1) := hq1; obtain ⟨rb2, hln2, hrb2⟩ := hq1.ex; obtain ⟨v, hb, hr, rfl⟩ := hln2.ex; obtain ⟨N, hN⟩ : ∃ N, N = (ps ++ tellP s (ts.take i) ++ [tx s]).length := ⟨_, rfl⟩; have hNN : N + 1 ≤ 1000000 := (by rw [hN, List.length_append]; simp at hps ⊢; omega); rw [← hN] at hr; obtain ⟨va, vc, rfl⟩ : ∃ va vc, v = .slice va N vc := (by
            rcases hr.2 with ⟨rfl, h0⟩ | ⟨g, cap, cur, rfl, _⟩
            · subst h0; exact ⟨_, _, rfl⟩
            · exact ⟨_, _, rfl⟩); have c0 := cell_of hb 0; simp only [List.getElem?_toArray, List.getElem?_cons_zero] at c0; have hLlt := (Array.getElem?_eq_some_iff.1 hb).1; have HRL : Hid _ := Ln.row_lt hln2; have HBK : Hid _ := hb; have HRW : Hid (w1.ownsRow 0 49 2 (.slice va N vc) N ((ps ++ tellP s (ts.take i) ++ [tx s]).flatMap ecQ)) := hr; have HNN : Hid (N = (ps ++ tellP s (ts.take i) ++ [tx s]).length) := hN; have HRB2 : Hid _ := hrb2; clear hq1 hput hb hr hN hln2 hrb2 ht1)
          | (at_builtin; refine wpList_append_lies _ rfl _ _ 50 rfl 0 49 i0 _ 2 24 Try.underlying50 hi hz0 hz1 hz2 rfl (by omega) (.slice va N vc) N _ rfl (HRW.out.alloc _) ⟨w1.heap.size, 0, none⟩ 1 1 [.string ⟨#[]⟩, pv S] rfl rfl (two_new _ _ _ _) (by simp [Value.oneCell']) (by omega) (by unfold maxLen; omega) (by omega) (Nat.zero_le _) (w1.heap.size + 1) (by simp) ?_; intro gg cap w9 hown hgrow hat hlt1; have HPU : Hid (LQ w1 L (Value.slice va N vc).ownBlock ((ps ++ tellP s (ts.take i) ++ [tx s]) ++ [ty S]) (w9.setCell ⟨L, 0, none⟩ (.slice (some ⟨gg, 0, none⟩) (N + 1) cap))) := Ln.push HBK.out HRW.out HNN.out hown hgrow hat; have hb9 : Boxed w9 L 56 (.slice va N vc) := (Boxed.alloc (show Boxed w1 L 56 (.slice va N vc) from HBK.out) _).kept hgrow (fun e => (HRL.out L e.symm).2 rfl); have d0 := hb9.cell; have f0 := hb9.frozen; clear hown hgrow hat hb9))
        go_roundg (n - (i + 1))
        case measure => omega
        case rel =>
          refine ⟨i + 1, by omega, Nat.le_refl _, by go_num, ?_⟩
          have h2 := LQ.then HRB2.out HQ1.out.kx HPU.out
          have h3 := LQ.then HRB.out HX.out.kx h2
          show LQ _ _ _ _ _
          rw [HSN.out, if_neg (fun e => by have := congrArg List.length e; rw [List.length_take, List.length_nil] at this; omega), show [tx s, ty S] = [tx s] ++ [ty S] from rfl, ← List.append_assoc, ← List.append_assoc]
          exact h3
    · obtain rfl : i = n := by omega
      have z1 : ¬ (i : Int) < (i : Int) := by omega
      go_wp2_with fail
      go_end0
      refine ⟨⟨_, rfl⟩, ?_⟩
      have := HX.out
      rwa [HL.out, List.take_length] at this
end Go.Proofs.Ytifcikhgbafegab

