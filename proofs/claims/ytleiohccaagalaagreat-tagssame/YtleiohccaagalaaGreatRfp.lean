/-
  The document's word, Plain and is, walked.
-/
import Derived.Test.YtleiohccaagalaaGreatRlm
namespace Go.Proofs.YtleiohccaagalaaGreat
open Go.RowKit
attribute [local go_sem ↓] Go.wp_at_zero Go.wp_at_succ
theorem rword_any (s : ByteArray) (w : World) : Calls Tryz.prog 53 #[.string s] w fun e w' => e = .returned (.bool (word s.toList)) ∧ w' = w := by
  go_enter Tryz.func53, Tryz.ntmps53
  go_wp2
  all_goals first | (exfalso; simp_all; done) | (go_ret; refine ⟨ret_bool ?_, rfl⟩; simp_all [word, wordsL])
/-- a tag by the document -/
def plB (s : Bs) : Bool := decide (s.length ≤ 60) && !word s && (match s with | c :: _ => low c | [] => false) && decide (run inT s = s.length)
theorem run_each (p : UInt8 → Bool) (s : Bs) : run p s = s.length ↔ ∀ i (h : i < s.length), p s[i] = true := by
  induction s with
  | nil => simp [run]
  | cons c r ih =>
    simp only [run]
    by_cases hc : p c = true
    · rw [if_pos hc]
      constructor
      · intro h i hi
        cases i with
        | zero => exact hc
        | succ i => exact ih.1 (by simp at h; exact h) i (by simpa using hi)
      · intro h
        have := ih.2 fun i hi => h (i + 1) (by simpa using hi)
        simp; exact this
    · rw [if_neg hc]
      constructor
      · intro h; simp at h
      · intro h; exact absurd (h 0 (by simp)) hc
/-- may this byte stand there? -/
def okc (i : Nat) (c : UInt8) : Bool := low c || (dgt c && decide (0 < i))
theorem low_dgt (c : UInt8) : inT c = (low c || dgt c) := by simp only [inT, low, dgt]; simp [UInt8.le_iff_toNat_le]
theorem plB_iff {s : Bs} (h1 : s ≠ []) (h2 : s.length ≤ 60) (h3 : word s = false) : plB s = true ↔ ∀ i (h : i < s.length), okc i s[i] = true := by
  unfold plB
  cases s with
  | nil => exact absurd rfl h1
  | cons c r =>
    simp only [h2, h3, decide_true, Bool.not_false, Bool.true_and, Bool.and_eq_true, decide_eq_true_eq, run_each]
    constructor
    · rintro ⟨ha, hb⟩ i hi
      cases i with
      | zero => simp [okc, ha]
      | succ i =>
        have := hb (i + 1) hi
        rw [low_dgt] at this
        simpa [okc] using this
    · intro h
      refine ⟨by have := h 0 (by simp); simpa [okc] using this, fun i hi => ?_⟩
      have := h i hi
      rw [low_dgt]
      simp only [okc, Bool.or_eq_true, Bool.and_eq_true] at this ⊢
      rcases this with h | h
      · exact .inl h
      · exact .inr h.1
set_option maxRecDepth 100000 in
set_option maxHeartbeats 2000000 in
theorem plain_any (s : Bs) (w : World) : Calls Tryz.prog 42 #[.string (bs s)] w fun e w' => e = .returned (.bool (plB s)) ∧ w' = w := by
  have hw := rword_any (bs s)
  rw [bs_toList] at hw
  have HZ : Hid ((bs s).size = s.length) := bs_size s
  by_cases h1 : s = []
  · have e1 : (bs s).toList.isEmpty = true := by rw [bs_toList, h1]; rfl
    rw [show plB s = false by rw [h1]; rfl]
    clear h1 HZ hw
    generalize bs s = S at *
    go_enter Tryz.func42, Tryz.ntmps42
    go_wp2_with fail
    go_ret
    exact ⟨rfl, rfl⟩
  · have e1 : (bs s).toList.isEmpty = false := by rw [bs_toList]; cases s with | nil => exact absurd rfl h1 | cons _ _ => rfl
    by_cases h2 : s.length ≤ 60
    · cases h3 : word s with
      | true =>
        rw [h3] at hw
        rw [show plB s = false by simp [plB, h3]]
        have q1 : ¬ (60 : Int) < ((bs s).size : Int) := by have := HZ.out; omega
        clear h1 h2 h3 HZ
        generalize bs s = S at *
        go_enter Tryz.func42, Tryz.ntmps42
        go_wp2_with (go_at_call 53; refine (hw _).mono ?_; rintro e w1 ⟨rfl, hw1⟩; obtain rfl := hw1.symm)
        go_ret
        exact ⟨rfl, rfl⟩
      | false =>
        rw [h3] at hw
        have q1 : ¬ (60 : Int) < ((bs s).size : Int) := by have := HZ.out; omega
        have HP : Hid (plB s = true ↔ ∀ i (h : i < s.length), okc i s[i] = true) := plB_iff h1 h2 h3
        generalize plB s = R at *
        have HG : Hid (∀ i (h : i < (bs s).size), ∃ h' : i < s.length, (bs s)[i]'h = s[i]) := fun i h => ⟨by have := HZ.out; omega, by simp [bs, ByteArray.getElem_eq_getElem_data]⟩
        have h60 : (bs s).size ≤ 60 := by have := HZ.out; omega
        clear h1 h2 h3
        generalize bs s = S at *
        go_enter Tryz.func42, Tryz.ntmps42
        go_wp2_with (go_at_call 53; refine (hw _).mono ?_; rintro e w1 ⟨rfl, hw1⟩; obtain rfl := hw1.symm)
        clear hw
        go_loopg [3] S.size (fun g u3 wr => ∃ i : Nat, i ≤ S.size ∧ S.size - i ≤ g ∧ u3 = .int .i64 i ∧ wr = w ∧ Hid (∀ j, j < i → ∀ h : j < s.length, okc j s[j] = true))
        case atStart => exact ⟨0, Nat.zero_le _, Nat.le_refl _, rfl, rfl, fun j hj => by omega⟩
        case round =>
          obtain ⟨i, hi, hg, rfl, hw, HX⟩ := hrel
          obtain rfl := hw.symm
          clear hw
          by_cases hlt : i < S.size
          · have z1 : (i : Int) < (S.size : Int) := by omega
            have z0 : (0 : Int) ≤ (i : Int) := by omega
            obtain ⟨hi', hgi⟩ := HG.out i hlt
            have HO : Hid (okc i s[i] = ((decide (97 ≤ (S[i]'hlt).toNat) && decide ((S[i]'hlt).toNat ≤ 122)) || (decide (48 ≤ (S[i]'hlt).toNat) && decide ((S[i]'hlt).toNat ≤ 57) && decide (0 < i)))) := by
              show _ = _
              rw [hgi]; simp only [okc, low, dgt, UInt8.le_iff_toNat_le]; rfl
            clear hgi
            have done1 : okc i s[i] = false → Ending.returned (.bool false) = .returned (.bool R) := fun h => ret_bool (by
              symm; rw [Bool.eq_false_iff]; intro hr; have := HP.out.1 hr i hi'; rw [h] at this; cases this)
            have go1 : okc i s[i] = true → Hid (∀ j, j < i + 1 → ∀ h : j < s.length, okc j s[j] = true) := fun h => (fun j hj h' => by
              rcases Nat.lt_or_ge j i with h2 | h2
              · exact HX.out j h2 h'
              · have : j = i := by omega
                subst this; exact h)
            by_cases a1 : 97 ≤ (S[i]'hlt).toNat
            · by_cases a2 : (S[i]'hlt).toNat ≤ 122
              · have y0 : (97 : Int) ≤ ((S[i]'hlt).toNat : Int) := by omega
                have y1 : ((S[i]'hlt).toNat : Int) ≤ 122 := by omega
                have HOK : Hid (okc i s[i] = true) := by
                  show _ = _
                  rw [HO.out]
                  simp only [Bool.or_eq_true, Bool.and_eq_true, decide_eq_true_eq]; omega
                clear HO
                go_wp2_with fail
                go_roundg (S.size - (i + 1))
                case measure => omega
                case rel => exact ⟨i + 1, by omega, by omega, by go_num, rfl, go1 HOK.out⟩
              · have y0 : (97 : Int) ≤ ((S[i]'hlt).toNat : Int) := by omega
                have y1 : ¬ ((S[i]'hlt).toNat : Int) ≤ 122 := by omega
                have y2 : (48 : Int) ≤ ((S[i]'hlt).toNat : Int) := by omega
                have y3 : ¬ ((S[i]'hlt).toNat : Int) ≤ 57 := by omega
                have HOK : Hid (okc i s[i] = false) := by
                  show _ = _
                  rw [HO.out]
                  rw [Bool.eq_false_iff]; simp only [ne_eq, Bool.or_eq_true, Bool.and_eq_true, decide_eq_true_eq]; omega
                clear HO
                go_wp2_with fail
                go_ret
                exact ⟨done1 HOK.out, rfl⟩
            · by_cases a3 : 48 ≤ (S[i]'hlt).toNat
              · by_cases a4 : (S[i]'hlt).toNat ≤ 57
                · by_cases a5 : 0 < i
                  · have y0 : ¬ (97 : Int) ≤ ((S[i]'hlt).toNat : Int) := by omega
                    have y1 : (48 : Int) ≤ ((S[i]'hlt).toNat : Int) := by omega
                    have y2 : ((S[i]'hlt).toNat : Int) ≤ 57 := by omega
                    have y3 : (0 : Int) < (i : Int) := by omega
                    have HOK : Hid (okc i s[i] = true) := by
                      show _ = _
                      rw [HO.out]
                      simp only [Bool.or_eq_true, Bool.and_eq_true, decide_eq_true_eq]; omega
                    clear HO
                    go_wp2_with fail
                    go_roundg (S.size - (i + 1))
                    case measure => omega
                    case rel => exact ⟨i + 1, by omega, by omega, by go_num, rfl, go1 HOK.out⟩
                  · have y0 : ¬ (97 : Int) ≤ ((S[i]'hlt).toNat : Int) := by omega
                    have y1 : (48 : Int) ≤ ((S[i]'hlt).toNat : Int) := by omega
                    have y2 : ((S[i]'hlt).toNat : Int) ≤ 57 := by omega
                    have y3 : ¬ (0 : Int) < (i : Int) := by omega
                    have HOK : Hid (okc i s[i] = false) := by
                      show _ = _
                      rw [HO.out]
                      rw [Bool.eq_false_iff]; simp only [ne_eq, Bool.or_eq_true, Bool.and_eq_true, decide_eq_true_eq]; omega
                    clear HO
                    go_wp2_with fail
                    go_ret
                    exact ⟨done1 HOK.out, rfl⟩
                · have y0 : ¬ (97 : Int) ≤ ((S[i]'hlt).toNat : Int) := by omega
                  have y1 : (48 : Int) ≤ ((S[i]'hlt).toNat : Int) := by omega
                  have y2 : ¬ ((S[i]'hlt).toNat : Int) ≤ 57 := by omega
                  have HOK : Hid (okc i s[i] = false) := by
                    show _ = _
                    rw [HO.out]
                    rw [Bool.eq_false_iff]; simp only [ne_eq, Bool.or_eq_true, Bool.and_eq_true, decide_eq_true_eq]; omega
                  clear HO
                  go_wp2_with fail
                  go_ret
                  exact ⟨done1 HOK.out, rfl⟩
              · have y0 : ¬ (97 : Int) ≤ ((S[i]'hlt).toNat : Int) := by omega
                have y1 : ¬ (48 : Int) ≤ ((S[i]'hlt).toNat : Int) := by omega
                have HOK : Hid (okc i s[i] = false) := by
                  show _ = _
                  rw [HO.out]
                  rw [Bool.eq_false_iff]; simp only [ne_eq, Bool.or_eq_true, Bool.and_eq_true, decide_eq_true_eq]; omega
                clear HO
                go_wp2_with fail
                go_ret
                exact ⟨done1 HOK.out, rfl⟩
          · have z1 : ¬ (i : Int) < (S.size : Int) := by omega
            go_wp2_with fail
            go_ret
            exact ⟨ret_bool (by symm; rw [HP.out]; intro j hj; exact HX.out j (by have := HZ.out; omega) hj), rfl⟩
    · rw [show plB s = false by simp [plB, h2]]
      have q1 : (60 : Int) < ((bs s).size : Int) := by have := HZ.out; omega
      clear h1 h2 HZ hw
      generalize bs s = S at *
      go_enter Tryz.func42, Tryz.ntmps42
      go_wp2_with fail
      go_ret
      exact ⟨rfl, rfl⟩
/-- the document's reader at block B: its pieces, which one is next, whether it is wrong -/
structure Rq (B : Nat) (w : World) (ts : List Bs) (i : Nat) (bad : Bool) : Prop where
  ex : ∃ a n c, w.heap[B]? = some (.cells #[.slice a n c, .int .i64 i, .bool bad] 53 (0, 0)) ∧ RestV B w a n c ts
theorem bx3 {w : World} {B : Nat} {x y z : Value} {T : TypeId} (h : w.heap[B]? = some (.cells #[x, y, z] T (0, 0))) : w.cell? ⟨B, 0, none⟩ = some x ∧ w.cell? ⟨B, 1, none⟩ = some y ∧ w.cell? ⟨B, 2, none⟩ = some z ∧ w.frozen? ⟨B, 0, none⟩ = false ∧ w.frozen? ⟨B, 1, none⟩ = false ∧ w.frozen? ⟨B, 2, none⟩ = false := by
  simp [World.cell?, World.frozen?, h]
theorem Rq.lt {B : Nat} {w : World} {ts : List Bs} {i : Nat} {b : Bool} (h : Rq B w ts i b) : B < w.heap.size := by
  obtain ⟨a, n, c, hb, _⟩ := h.ex
  exact (Array.getElem?_eq_some_iff.1 hb).1
theorem Rq.whole {B : Nat} {w w' : World} {ts : List Bs} {i : Nat} {b : Bool} (h : Rq B w ts i b) (k : Below w.heap.size w w') : Rq B w' ts i b := by
  obtain ⟨a, n, c, hb, hr⟩ := h.ex
  exact ⟨a, n, c, (k.block B h.lt).trans hb, hr.kept (.of_whole k)⟩
def isB (ts : List Bs) (i : Nat) (s : Bs) : Bool := decide (ts[i]? = some s)
set_option maxRecDepth 100000 in
set_option maxHeartbeats 2000000 in
theorem is_any {B : Nat} {w : World} {ts : List Bs} {i : Nat} {bad : Bool} (h : Rq B w ts i bad) (s : Bs) : Calls Tryz.prog 30 #[.pointer (some ⟨B, 0, none⟩), .string (bs s)] w fun e w' => e = .returned (.bool (isB ts i s)) ∧ Below w.heap.size w w' := by
  obtain ⟨a, n, c, hb, hr⟩ := h.ex
  obtain ⟨c0, c1, c2, f0, f1, f2⟩ := bx3 hb
  clear hb
  have hn := hr.len
  by_cases hi : i < n
  · have hi2 : i < ts.length := by omega
    obtain ⟨g, o, rfl, hg, hc⟩ := hr.at_ (by intro e; rw [e] at hi2; simp at hi2)
    have ht := hc i ts[i] (List.getElem?_eq_getElem hi2)
    have z1 : (i : Int) < (n : Int) := by omega
    have z0 : (0 : Int) ≤ (i : Int) := by omega
    have z2 : decide ((i : Int) < (n : Int)) = true := decide_eq_true z1
    have z3 : decide (i < n) = true := decide_eq_true hi
    have e1 : isB ts i s = ((bs ts[i]).toList == (bs s).toList) := by
      unfold isB
      rw [List.getElem?_eq_getElem hi2]
      by_cases h : ts[i] = s
      · rw [str_eq h]; simp [h]
      · rw [str_ne h]; simp [h]
    rw [e1]
    clear hn hc hr h e1
    generalize ts[i] = t at *
    go_enter Tryz.func30, Tryz.ntmps30
    go_wp2_with fail
    go_quiet (fail)
    go_wp2_with fail
    go_ret
    exact ⟨rfl, below_dn _ _⟩
  · have z1 : ¬ (i : Int) < (n : Int) := by omega
    have z2 : decide ((i : Int) < (n : Int)) = false := decide_eq_false z1
    have z3 : decide (i < n) = false := decide_eq_false hi
    have e1 : isB ts i s = false := by
      unfold isB
      rw [List.getElem?_eq_none (by omega)]; rfl
    rw [e1]
    clear hn hr h e1
    go_enter Tryz.func30, Tryz.ntmps30
    go_wp2_with fail
    first | go_quiet (fail) | go_big_quiet (fail)
    go_wp2_with fail
    go_ret
    exact ⟨rfl, below_dn _ _⟩
end Go.Proofs.YtleiohccaagalaaGreat
