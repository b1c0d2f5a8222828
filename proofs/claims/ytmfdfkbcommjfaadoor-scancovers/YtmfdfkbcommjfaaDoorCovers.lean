/-
  ScanCovers, called in memory that holds Go's tables of UTF-8 and any MaxLen: it returns true and leaves all that lay there as it was.
-/
import Derived.Test.YtmfdfkbcommjfaaDoorTokens
import Derived.Test.YtmfdfkbcommjfaaDoorCov
import Derived.Deep.OwnRows
namespace Go.Proofs.YtmfdfkbcommjfaaDoor
open Go.RowKit
attribute [local go_sem ↓] Go.wp_at_zero Go.wp_at_succ
/-- a row of counts -/
def arr (n : Nat) (m : Nat → Nat) : Array Value := ((List.range n).map fun j => Value.int .i64 (m j : Int)).toArray
theorem arr_get (n : Nat) (m : Nat → Nat) (j : Nat) (h : j < n) : (arr n m)[j]? = some (.int .i64 (m j : Int)) := by simp [arr, h]
def upd (m : Nat → Nat) (j : Nat) : Nat → Nat := fun k => if k = j then m k + 1 else m k
theorem arr_set (n : Nat) (m : Nat → Nat) (j : Nat) : (arr n m).setIfInBounds j (.int .i64 ((m j : Int) + 1)) = arr n (upd m j) := by
  unfold arr
  rw [List.setIfInBounds_toArray]
  congr 1
  apply List.ext_getElem?
  intro i
  rw [List.getElem?_set]
  by_cases hij : j = i
  · subst hij
    by_cases hn : j < n
    · simp [hn, upd]
    · simp [hn]
  · have h2 : ¬ i = j := fun e => hij e.symm
    by_cases hn : i < n
    · simp [hij, hn, upd, h2]
    · simp [hij, hn]
/-- the counts in memory: block g of a world W, all else as W has it -/
structure MetR (W : World) (g n : Nat) (m : Nat → Nat) (wr : World) : Prop where
  bl : Below g W wr
  far : ∀ k, k ≠ g → wr.heap[k]? = W.heap[k]?
  mt : wr.heap[g]? = some (.cells (arr n m) 3 (0, 0))
theorem MetR.cell {W wr : World} {g n : Nat} {m : Nat → Nat} (h : MetR W g n m wr) {j : Nat} (hj : j < n) : wr.cell? ⟨g, j, none⟩ = some (.int .i64 (m j : Int)) := (cell_of h.mt j).trans (arr_get n m j hj)
theorem MetR.frz {W wr : World} {g n : Nat} {m : Nat → Nat} (h : MetR W g n m wr) (j : Nat) : wr.frozen? ⟨g, j, none⟩ = false := by simp [World.frozen?, h.mt]
theorem MetR.drewN {W wr : World} {g n : Nat} {m : Nat → Nat} (h : MetR W g n m wr) (q : Nat) : MetR W g n m (wr.drewN q) := ⟨h.bl.trans (bl_drewN _ _ q), h.far, h.mt⟩
theorem MetR.put {W wr : World} {g n : Nat} {m : Nat → Nat} (h : MetR W g n m wr) (j : Nat) : MetR W g n (upd m j) (wr.setCell ⟨g, j, none⟩ (.int .i64 ((m j : Int) + 1))) :=
  ⟨h.bl.setCell (p := ⟨g, j, none⟩) (Nat.le_refl _) _, fun k hk => (Below.heap_setCell _ _ _ _ hk).trans (h.far k hk), by rw [heap_set h.mt, arr_set]⟩
theorem MetR.own {W wr : World} {g n base sz k : Nat} {m : Nat → Nat} {e : TypeId} {v : Value} {xs : List Value} (h : MetR W g n m wr) (ho : W.ownsRow base e sz v k xs) (hne : v.ownBlock ≠ some g) : wr.ownsRow base e sz v k xs :=
  own_far ho (fun q hq => h.far q (fun e => hne (by rw [hq, e])))
theorem MetR.ext {W wr : World} {g n : Nat} {m m' : Nat → Nat} (h : MetR W g n m wr) (he : ∀ j, m j = m' j) : MetR W g n m' wr := by
  rw [show m' = m from funext fun j => (he j).symm]; exact h
theorem made_arr (n : Nat) : madeCells #[.int .i64 0] n = arr n (fun _ => 0) := by
  unfold madeCells arr
  apply Array.ext'
  simp
  intro a _
  have : a % 1 = 0 := by omega
  rw [this]
  rfl
theorem cv_nil (a j : Nat) : cv a a j = 0 := by unfold cv; rw [if_neg (by omega)]
theorem cv_le (a b j : Nat) : cv a b j ≤ 1 := by unfold cv; split <;> omega
theorem cntT_le (l : List Tk) (j : Nat) : cntT l j ≤ l.length := by
  induction l with
  | nil => exact Nat.le_refl _
  | cons t l ih => show cv t.lo t.hi j + cntT l j ≤ _; have := cv_le t.lo t.hi j; simp; omega
theorem cntR_le (l : List (Nat × Nat)) (j : Nat) : cntR l j ≤ l.length := by
  induction l with
  | nil => exact Nat.le_refl _
  | cons t l ih => show cv t.1 t.2 j + cntR l j ≤ _; have := cv_le t.1 t.2 j; simp; omega
theorem cv_next {a k : Nat} (h : a ≤ k) (j : Nat) : cv a (k + 1) j = if j = k then cv a k j + 1 else cv a k j := by
  unfold cv
  by_cases hj : j = k
  · subst hj; rw [if_pos (by omega), if_pos rfl, if_neg (by omega)]
  · rw [if_neg hj]
    by_cases hc : a ≤ j ∧ j < k
    · rw [if_pos hc, if_pos (by omega)]
    · rw [if_neg hc, if_neg (by omega)]
theorem upd_next (f : Nat → Nat) {a k : Nat} (h : a ≤ k) (j : Nat) : upd (fun j => f j + cv a k j) k j = f j + cv a (k + 1) j := by
  show (if j = k then f j + cv a k j + 1 else f j + cv a k j) = _
  rw [cv_next h]
  by_cases hj : j = k
  · rw [if_pos hj, if_pos hj]; omega
  · rw [if_neg hj, if_neg hj]
theorem TokQ.ok {w : World} {s : St} {e : Ending} {w' : World} (h : TokQ w (.ok s) e w') : Below w.heap.size w w' ∧ ∃ a cap, e = .returned (.tuple #[.slice a s.toks.length cap, .agg #[.int .i64 0, .string ⟨#[]⟩, .int .i64 0]]) ∧ w'.ownsRow w.heap.size 38 4 (.slice a s.toks.length cap) s.toks.length (flT s.toks) := by
  obtain ⟨hb, a, cap, he, ho⟩ := h
  exact ⟨hb, a, cap, he, ho⟩
theorem RemQ.ok {w : World} {s : St} {e : Ending} {w' : World} (h : RemQ w (.ok s) e w') : Below w.heap.size w w' ∧ ∃ a cap, e = .returned (.slice a s.rems.length cap) ∧ w'.ownsRow w.heap.size 33 2 (.slice a s.rems.length cap) s.rems.length (flS s.rems) := by
  obtain ⟨hb, a, cap, he, ho⟩ := h
  exact ⟨hb, a, cap, he, ho⟩
theorem Tryd.info3c : (Tryd.prog.info? 3).map (fun i => (i.zero, i.size, i.bytes)) = some (some (.int .i64 0), 1, 8) := by kernel_rfl
theorem readOf_ok' {S : ByteArray} {s : St} (h : readOf S = .ok s) : scn S.data.toList 0 0 ⟨[], []⟩ = .ok s := by
  rw [readOf_eq] at h
  split at h
  · cases h
  · split at h
    · cases h
    · cases hs : scn S.data.toList 0 0 ⟨[], []⟩ with
      | error o => rw [hs] at h; cases h
      | ok st => rw [hs] at h; injection h with h; rw [h]
set_option maxRecDepth 100000 in
set_option maxHeartbeats 4000000 in
theorem covers_ok (S : ByteArray) (w : World) (hM : Mem w) (h4 : ¬ 4000 < S.size) (s : St) (hs : readOf S = .ok s) : Calls Tryd.prog 7 #[.string S] w fun e w' => e = .returned (.bool true) ∧ Below w.heap.size w w' := by
  have z1 : ¬ (4000 : Int) < (S.size : Int) := by omega
  have HM : Hid (Mem w) := hM
  have g10 := tokens_q S w hM
  have g17 := fun W (hb : Below w.heap.size w W) => comments_q S W (hM.below hb)
  have hlen := readOf_len S
  rw [hs] at g10 g17 hlen
  obtain ⟨hcov, pre, hpre⟩ := cov_scn (readOf_ok' hs)
  rw [bal] at hcov hpre
  have HCV : Hid (Cov S.data.toList S.size s) := hcov
  have HPRE : Hid (s.toks = pre ++ [⟨7, S.size, S.size, []⟩]) := hpre
  have hl1 : s.toks.length ≤ 70000 := hlen.1
  have hl2 : s.rems.length ≤ 70000 := hlen.2
  have hmk := run_make_row' (P := Tryd.prog) 36 3 (.int .i64 0) 8 Tryd.underlying36 Tryd.info3c rfl .i64 .i64 S.size (by omega) (by omega)
  clear hM hs hcov hpre hlen
  obtain ⟨N, hN⟩ : ∃ N, s.toks.length = N := ⟨_, rfl⟩
  have hNb : N ≤ 70000 := by omega
  go_enter Tryd.func7, Tryd.ntmps7
  go_wp2_with (go_at_call 10; refine g10.mono ?_; clear g10; intro e w1 h1; obtain ⟨hb1, a1, c1, rfl, ho1⟩ := TokQ.ok h1; have HB1 : Hid (Below w.heap.size w w1) := hb1; have hz1 := hb1.size; have HO1 : Hid (w1.ownsRow w.heap.size 38 4 (.slice a1 s.toks.length c1) s.toks.length (flT s.toks)) := ho1; rw [hN]; clear hb1 ho1 h1)
  generalize hW : (World.alloc _ _) = W0
  have hA : W0.heap[w1.heap.size + 1]? = some (.cells (arr S.size (fun _ => 0)) 3 (0, 0)) := by
    rw [← hW, ← made_arr]
    have q := heap_alloc_new (w1.alloc (.cells #[.int .i64 0, .string ⟨#[]⟩, .int .i64 0] 25)) (.cells (madeCells #[.int .i64 0] S.size) 3)
    rw [show (w1.alloc (.cells #[.int .i64 0, .string ⟨#[]⟩, .int .i64 0] 25)).heap.size = w1.heap.size + 1 by simp] at q
    exact q
  have HBw : Hid (Below w.heap.size w W0) := by rw [← hW]; exact (HB1.out.alloc (by omega) _).alloc (by simp; omega) _
  have HR1 : Hid (W0.ownsRow w.heap.size 38 4 (.slice a1 s.toks.length c1) s.toks.length (flT s.toks)) := by rw [← hW]; exact (HO1.out.alloc _).alloc _
  have hne1 : (Value.slice a1 s.toks.length c1).ownBlock ≠ some (w1.heap.size + 1) := fun e => by have := (HO1.out.lt _ e).2; omega
  have HNE : Hid ((Value.slice a1 s.toks.length c1).ownBlock ≠ some (w1.heap.size + 1)) := hne1
  have HM0 : Hid (MetR W0 (w1.heap.size + 1) S.size (fun _ => 0) W0) := ⟨Below.refl _ _, fun _ _ => rfl, hA⟩
  have hgm : w.heap.size ≤ w1.heap.size + 1 := by omega
  clear hW hA HO1 HB1 hne1 hmk
  generalize w1.heap.size + 1 = gm at *
  go_loopw [6, 7] (fun ul ui wr => ∃ (i last : Nat), i ≤ N ∧ ui = .int .i64 i ∧ ul = .int .i64 last ∧ last = lst (s.toks.take i) 0 ∧ MetR W0 gm S.size (cntT (s.toks.take i)) wr) (fun _ ui _ => N - (intOf ui).toNat)
  case atStart => exact ⟨0, 0, Nat.zero_le _, rfl, rfl, rfl, HM0.out⟩
  case round =>
    clear HM0
    obtain ⟨i, last, hi, rfl, rfl, hla, hmet⟩ := hrel
    have HMT : Hid (MetR W0 gm S.size (cntT (s.toks.take i)) wr) := hmet
    have HLA : Hid (last = lst (s.toks.take i) 0) := hla
    clear hla hmet
    by_cases hil : i < N
    · have r1 : (i : Int) < (N : Int) := by omega
      have r2 : (0 : Int) ≤ (i : Int) := by omega
      obtain ⟨u, hu⟩ : ∃ u, s.toks[i]? = some u := ⟨_, List.getElem?_eq_getElem (by omega)⟩
      obtain ⟨g1, d1, e1, hc1, x0, x1, x2, x3⟩ := (tok_open (HMT.out.own HR1.out HNE.out)).2 i u hu
      rw [Value.slice.injEq] at e1
      obtain ⟨rfl, hh1, rfl⟩ := e1
      rw [hN] at hc1
      obtain ⟨b1, b2⟩ := HCV.out.tk u (List.mem_of_getElem? hu)
      have HLH : Hid (u.lo ≤ u.hi ∧ u.hi ≤ S.size) := ⟨b1, b2⟩
      have HU : Hid (s.toks[i]? = some u) := hu
      have t1 : decide ((u.lo : Int) < 0) = false := decide_eq_false (by omega)
      have t2 : decide ((u.hi : Int) < (u.lo : Int)) = false := decide_eq_false (by omega)
      have t3 : decide ((S.size : Int) < (u.hi : Int)) = false := decide_eq_false (by omega)
      have t6 : decide (u.hi < u.lo) = false := decide_eq_false (by omega)
      have t7 : decide (S.size < u.hi) = false := decide_eq_false (by omega)
      have HTK : Hid (s.toks.take (i + 1) = s.toks.take i ++ [u]) := by show _ = _; rw [List.take_add_one, hu]; rfl
      have hod := HCV.out.od i u hu
      rw [← HLA.out] at hod
      clear hu hh1
      have hk6 : ((u.kind : Int) != 6) = false ∨ (((u.kind : Int) != 6) = true ∧ decide ((u.lo : Int) < (last : Int)) = false ∧ decide (u.lo < last) = false) := by
        by_cases k6 : u.kind = 6
        · left; rw [k6]; rfl
        · right; have := hod k6; exact ⟨by simp; omega, decide_eq_false (by omega), decide_eq_false (by omega)⟩
      clear hod
      rcases hk6 with t4 | ⟨t4, t5, t8⟩
      all_goals
        go_wp2_with fail
        clear b1 b2
        go_big_quiet (fail)
        have HM1 : Hid (MetR W0 gm S.size (cntT (s.toks.take i)) (wr.drewN nq)) := HMT.out.drewN nq
        have y0 : (wr.drewN nq).cell? ⟨g1, i * 4, none⟩ = some (.int .i64 u.kind) := x0
        have y1 : (wr.drewN nq).cell? ⟨g1, i * 4 + 1, none⟩ = some (.int .i64 u.lo) := x1
        have y2 : (wr.drewN nq).cell? ⟨g1, i * 4 + 2, none⟩ = some (.int .i64 u.hi) := x2
        clear x0 x1 x2 x3 HMT t1 t2 t3 t4 t6 t7
        generalize wr.drewN nq = W1 at *
        go_wp2_with fail
        go_loopw [8] (fun uk wk => ∃ k : Nat, u.lo ≤ k ∧ k ≤ u.hi ∧ uk = .int .i64 k ∧ MetR W0 gm S.size (fun j => cntT (s.toks.take i) j + cv u.lo k j) wk) (fun uk _ => u.hi - (intOf uk).toNat)
        case atStart => exact ⟨u.lo, Nat.le_refl _, HLH.out.1, rfl, HM1.out.ext (fun j => by rw [cv_nil]; rfl)⟩
        case round =>
          clear HM1 y0 y1 y2
          obtain ⟨k, hk1, hk2, rfl, hmk⟩ := hrel
          have HMK : Hid (MetR W0 gm S.size (fun j => cntT (s.toks.take i) j + cv u.lo k j) wr) := hmk
          obtain ⟨g9, d9, e9, hc9, x0, x1, x2, x3⟩ := (tok_open (hmk.own HR1.out HNE.out)).2 i u HU.out
          rw [Value.slice.injEq] at e9
          obtain ⟨hg9, hh9, rfl⟩ := e9
          obtain rfl : g1 = g9 := by injection hg9 with q; injection q
          clear hh9 hg9 hc9
          by_cases hkh : k < u.hi
          · have v1 : (k : Int) < (u.hi : Int) := by omega
            have hkS : k < S.size := by have := HLH.out.2; omega
            have v2 : (k : Int) < (S.size : Int) := by omega
            have v3 : (0 : Int) ≤ (k : Int) := by omega
            have hfrz := hmk.frz k
            have HPUT : Hid (MetR W0 gm S.size (upd (fun j => cntT (s.toks.take i) j + cv u.lo k j) k) (wr.setCell ⟨gm, k, none⟩ (.int .i64 (((cntT (s.toks.take i) k + cv u.lo k k : Nat) : Int) + 1)))) := hmk.put k
            have v4 : cntT (s.toks.take i) k + cv u.lo k k ≤ 70001 := by have := cntT_le (s.toks.take i) k; have := cv_le u.lo k k; have : (s.toks.take i).length ≤ s.toks.length := (by rw [List.length_take]; omega); omega
            have hcell : wr.cell? ⟨gm, k, none⟩ = some (.int .i64 ((cntT (s.toks.take i) k + cv u.lo k k : Nat) : Int)) := hmk.cell hkS
            have HUP : Hid (∀ M', M' = cntT (s.toks.take i) k + cv u.lo k k → MetR W0 gm S.size (fun j => cntT (s.toks.take i) j + cv u.lo (k + 1) j) (wr.setCell ⟨gm, k, none⟩ (.int .i64 ((M' : Int) + 1)))) := fun M' e => by rw [e]; exact HPUT.out.ext (fun j => upd_next (cntT (s.toks.take i)) hk1 j)
            have HMM : Hid (∃ M, M = cntT (s.toks.take i) k + cv u.lo k k) := ⟨_, rfl⟩
            obtain ⟨M, hM⟩ := HMM.out
            have HU2 : Hid (MetR W0 gm S.size (fun j => cntT (s.toks.take i) j + cv u.lo (k + 1) j) (wr.setCell ⟨gm, k, none⟩ (.int .i64 ((M : Int) + 1)))) := HUP.out M hM
            rw [← hM] at hcell v4
            clear hM HUP HPUT HMM
            have v5 : IntKind.i64.wrap ((M : Int) + 1) = (M : Int) + 1 := wrap_small _ (by omega) (by omega)
            clear hmk HMK
            go_wp2_with fail
            go_roundw
            case rel => exact ⟨k + 1, by omega, by omega, by go_num, HU2.out⟩
            case measure => simp [intOf]; omega
          · have v1 : ¬ (k : Int) < (u.hi : Int) := by omega
            have hkh2 : k = u.hi := by omega
            have HMX : Hid (MetR W0 gm S.size (cntT (s.toks.take (i + 1))) wr) := by
              refine hmk.ext (fun j => ?_)
              rw [HTK.out, cntT_snoc, hkh2]
            have HLX : Hid (lst (s.toks.take (i + 1)) 0 = if u.lo < u.hi then u.hi else last) := by
              show _ = _
              rw [HTK.out, lst_snoc, ← HLA.out]
            clear hmk HMK hkh2
            by_cases hlh : u.lo < u.hi
            · have v6 : (u.lo : Int) < (u.hi : Int) := by omega
              rw [if_pos hlh] at HLX
              go_wp2_with fail
              go_big_quiet (fail)
              have HMY : Hid (MetR W0 gm S.size (cntT (s.toks.take (i + 1))) (wr.drewN nq)) := HMX.out.drewN nq
              have y2 : (wr.drewN nq).cell? ⟨g1, i * 4 + 2, none⟩ = some (.int .i64 u.hi) := x2
              clear HMX x0 x1 x2 x3
              generalize wr.drewN nq = W2 at *
              go_wp2_with fail
              exact ⟨⟨i + 1, u.hi, by omega, by go_num, rfl, HLX.out.symm, HMY.out⟩, by simp [intOf]; omega⟩
            · have v6 : ¬ (u.lo : Int) < (u.hi : Int) := by omega
              rw [if_neg hlh] at HLX
              go_wp2_with fail
              go_big_quiet (fail)
              have HMY : Hid (MetR W0 gm S.size (cntT (s.toks.take (i + 1))) (wr.drewN nq)) := HMX.out.drewN nq
              clear HMX x0 x1 x2 x3
              generalize wr.drewN nq = W2 at *
              go_wp2_with fail
              exact ⟨⟨i + 1, last, by omega, by go_num, rfl, HLX.out.symm, HMY.out⟩, by simp [intOf]; omega⟩
    · have r1 : ¬ (i : Int) < (N : Int) := by omega
      have HMF : Hid (MetR W0 gm S.size (cntT s.toks) wr) := by have := HMT.out; rw [List.take_of_length_le (by omega)] at this; exact this
      have hbW : Below w.heap.size w wr := HBw.out.trans (HMT.out.bl.mono hgm)
      have HBW : Hid (Below w.heap.size w wr) := hbW
      have hszw := hbW.size
      have g17' := g17 wr hbW
      clear HMT HLA hbW g17
      go_wp2_with (go_at_call 17; refine g17'.mono ?_; clear g17'; intro e w2 h2; obtain ⟨hb2, a2, c2, rfl, ho2⟩ := RemQ.ok h2; have HB2 : Hid (Below wr.heap.size wr w2) := hb2; have hz2 := hb2.size; have HO2 : Hid (w2.ownsRow wr.heap.size 33 2 (.slice a2 s.rems.length c2) s.rems.length (flS s.rems)) := ho2; clear hb2 ho2 h2)
      have hgl : gm < wr.heap.size := (Array.getElem?_eq_some_iff.1 HMF.out.mt).1
      have HM2 : Hid (MetR w2 gm S.size (fun j => cntT s.toks j + cntR (s.rems.take 0) j) w2) := ⟨Below.refl _ _, fun _ _ => rfl, (HB2.out.block gm hgl).trans HMF.out.mt⟩
      have HR1' : Hid (w2.ownsRow w.heap.size 38 4 (.slice a1 s.toks.length c1) s.toks.length (flT s.toks)) := (HMF.out.own HR1.out HNE.out).below HB2.out
      have HNE2 : Hid ((Value.slice a2 s.rems.length c2).ownBlock ≠ some gm) := fun e => by have := (own_blk HO2.out e).1; omega
      have HBW2 : Hid (Below w.heap.size w w2) := HBW.out.trans (HB2.out.mono hszw)
      clear HMF HB2 HR1 HBw HBW
      obtain ⟨Nr, hNr⟩ : ∃ Nr, s.rems.length = Nr := ⟨_, rfl⟩
      have hNrb : Nr ≤ 70000 := by omega
      rw [hNr]
      go_loopw [10] (fun ui wr => ∃ i : Nat, i ≤ Nr ∧ ui = .int .i64 i ∧ MetR w2 gm S.size (fun j => cntT s.toks j + cntR (s.rems.take i) j) wr) (fun ui _ => Nr - (intOf ui).toNat)
      case atStart => exact ⟨0, Nat.zero_le _, rfl, HM2.out⟩
      case round =>
        clear HM2
        obtain ⟨i, hi, rfl, hmet⟩ := hrel
        have HMT : Hid (MetR w2 gm S.size (fun j => cntT s.toks j + cntR (s.rems.take i) j) wr) := hmet
        clear hmet
        by_cases hil : i < Nr
        · have r1 : (i : Int) < (Nr : Int) := by omega
          have r2 : (0 : Int) ≤ (i : Int) := by omega
          obtain ⟨u, hu⟩ : ∃ u, s.rems[i]? = some u := ⟨_, List.getElem?_eq_getElem (by omega)⟩
          obtain ⟨g2, d2, e2, hc2, x0, x1⟩ := (span_open (HMT.out.own HO2.out HNE2.out)).2 i u hu
          rw [Value.slice.injEq] at e2
          obtain ⟨rfl, hh2, rfl⟩ := e2
          rw [hNr] at hc2
          obtain ⟨b1, b2⟩ := HCV.out.rm u (List.mem_of_getElem? hu)
          obtain ⟨f, o⟩ := u
          simp only at x0 x1 b1 b2
          have HLH : Hid (f ≤ o ∧ o ≤ S.size) := ⟨b1, b2⟩
          have HU : Hid (s.rems[i]? = some (f, o)) := hu
          have HTK : Hid (s.rems.take (i + 1) = s.rems.take i ++ [(f, o)]) := by show _ = _; rw [List.take_add_one, hu]; rfl
          have t1 : decide ((f : Int) < 0) = false := decide_eq_false (by omega)
          have t2 : decide ((o : Int) < (f : Int)) = false := decide_eq_false (by omega)
          have t3 : decide ((S.size : Int) < (o : Int)) = false := decide_eq_false (by omega)
          have t6 : decide (o < f) = false := decide_eq_false (by omega)
          have t7 : decide (S.size < o) = false := decide_eq_false (by omega)
          clear hu hh2 b1 b2
          go_wp2_with fail
          go_big_quiet (fail)
          have HM1 : Hid (MetR w2 gm S.size (fun j => cntT s.toks j + cntR (s.rems.take i) j) (wr.drewN nq)) := HMT.out.drewN nq
          have y0 : (wr.drewN nq).cell? ⟨g2, i * 2, none⟩ = some (.int .i64 f) := x0
          have y1 : (wr.drewN nq).cell? ⟨g2, i * 2 + 1, none⟩ = some (.int .i64 o) := x1
          clear x0 x1 HMT t1 t2 t3 t6 t7
          generalize wr.drewN nq = W1 at *
          go_wp2_with fail
          go_loopw [11] (fun uk wk => ∃ k : Nat, f ≤ k ∧ k ≤ o ∧ uk = .int .i64 k ∧ MetR w2 gm S.size (fun j => (cntT s.toks j + cntR (s.rems.take i) j) + cv f k j) wk) (fun uk _ => o - (intOf uk).toNat)
          case atStart => exact ⟨f, Nat.le_refl _, HLH.out.1, rfl, HM1.out.ext (fun j => by rw [cv_nil]; rfl)⟩
          case round =>
            clear HM1 y0 y1
            obtain ⟨k, hk1, hk2, rfl, hmk⟩ := hrel
            obtain ⟨g9, d9, e9, hc9, x0, x1⟩ := (span_open (hmk.own HO2.out HNE2.out)).2 i (f, o) HU.out
            rw [Value.slice.injEq] at e9
            obtain ⟨hg9, hh9, rfl⟩ := e9
            obtain rfl : g2 = g9 := by injection hg9 with q; injection q
            simp only at x0 x1
            clear hh9 hg9 hc9
            by_cases hkh : k < o
            · have v1 : (k : Int) < (o : Int) := by omega
              have hkS : k < S.size := by have := HLH.out.2; omega
              have v2 : (k : Int) < (S.size : Int) := by omega
              have v3 : (0 : Int) ≤ (k : Int) := by omega
              have hfrz := hmk.frz k
              have HPUT : Hid (MetR w2 gm S.size (upd (fun j => (cntT s.toks j + cntR (s.rems.take i) j) + cv f k j) k) (wr.setCell ⟨gm, k, none⟩ (.int .i64 (((cntT s.toks k + cntR (s.rems.take i) k + cv f k k : Nat) : Int) + 1)))) := hmk.put k
              have v4 : cntT s.toks k + cntR (s.rems.take i) k + cv f k k ≤ 140001 := by have := cntT_le s.toks k; have := cntR_le (s.rems.take i) k; have := cv_le f k k; have : (s.rems.take i).length ≤ s.rems.length := (by rw [List.length_take]; omega); omega
              have hcell : wr.cell? ⟨gm, k, none⟩ = some (.int .i64 ((cntT s.toks k + cntR (s.rems.take i) k + cv f k k : Nat) : Int)) := hmk.cell hkS
              have HUP : Hid (∀ M', M' = cntT s.toks k + cntR (s.rems.take i) k + cv f k k → MetR w2 gm S.size (fun j => (cntT s.toks j + cntR (s.rems.take i) j) + cv f (k + 1) j) (wr.setCell ⟨gm, k, none⟩ (.int .i64 ((M' : Int) + 1)))) := fun M' e => by rw [e]; exact HPUT.out.ext (fun j => upd_next (fun j => cntT s.toks j + cntR (s.rems.take i) j) hk1 j)
              have HMM : Hid (∃ M, M = cntT s.toks k + cntR (s.rems.take i) k + cv f k k) := ⟨_, rfl⟩
              obtain ⟨M, hM⟩ := HMM.out
              have HU2 : Hid (MetR w2 gm S.size (fun j => (cntT s.toks j + cntR (s.rems.take i) j) + cv f (k + 1) j) (wr.setCell ⟨gm, k, none⟩ (.int .i64 ((M : Int) + 1)))) := HUP.out M hM
              rw [← hM] at hcell v4
              clear hM HUP HPUT HMM
              have v5 : IntKind.i64.wrap ((M : Int) + 1) = (M : Int) + 1 := wrap_small _ (by omega) (by omega)
              clear hmk
              go_wp2_with fail
              go_roundw
              case rel => exact ⟨k + 1, by omega, by omega, by go_num, HU2.out⟩
              case measure => simp [intOf]; omega
            · have v1 : ¬ (k : Int) < (o : Int) := by omega
              have hkh2 : k = o := by omega
              have HMX : Hid (MetR w2 gm S.size (fun j => cntT s.toks j + cntR (s.rems.take (i + 1)) j) wr) := by
                refine hmk.ext (fun j => ?_)
                rw [HTK.out, cntR_snoc, hkh2, Nat.add_assoc]
              clear hmk hkh2
              go_wp2_with fail
              exact ⟨⟨i + 1, by omega, by go_num, HMX.out⟩, by simp [intOf]; omega⟩
        · have r1 : ¬ (i : Int) < (Nr : Int) := by omega
          have HMG : Hid (MetR w2 gm S.size (fun j => cntT s.toks j + cntR s.rems j) wr) := by have := HMT.out; rw [List.take_of_length_le (by omega)] at this; exact this
          clear HMT HO2 HNE2
          go_wp2_with fail
          have HBB : Hid (∃ WB, WB = wr) := ⟨_, rfl⟩
          obtain ⟨WB, hWB⟩ := HBB.out
          subst hWB
          clear HBB
          have HCT : Hid (∀ j, j < S.size → cntT s.toks j + cntR s.rems j ≤ 1 ∧ (cntT s.toks j + cntR s.rems j = 0 → ∀ b, S.data.toList[j]? = some b → blk b = true)) := HCV.out.ct
          go_loopw [12] (fun ui wc => ∃ i n : Nat, i ≤ S.size ∧ ui = .int .i64 i ∧ wc = WB.drewN n) (fun ui _ => S.size - (intOf ui).toNat)
          case atStart => exact ⟨0, 0, Nat.zero_le _, rfl, rfl⟩
          case round =>
            obtain ⟨j, n, hj, rfl, rfl⟩ := hrel
            by_cases hjl : j < S.size
            · have r3 : (j : Int) < (S.size : Int) := by omega
              have r4 : (0 : Int) ≤ (j : Int) := by omega
              obtain ⟨m1, m2⟩ := HCT.out j hjl
              have m3 := fun h => m2 h _ (bget S j hjl)
              have hcell : (WB.drewN n).cell? ⟨gm, j, none⟩ = some (.int .i64 ((cntT s.toks j + cntR s.rems j : Nat) : Int)) := HMG.out.cell hjl
              generalize cntT s.toks j + cntR s.rems j = m at *
              clear m2 HCT HCV HPRE HM
              by_cases q32 : S[j]'hjl = 32
              · have k1 : (((S[j]'hjl).toNat : Int) == 32) = true := by rw [q32]; rfl
                clear q32 m3
                rcases (by omega : m = 1 ∨ m = 0) with rfl | rfl
                · go_wp2_with fail
                  exact ⟨⟨j + 1, n, by omega, by go_num, rfl⟩, by simp [intOf]; omega⟩
                · go_wp2_with fail
                  exact ⟨⟨j + 1, n, by omega, by go_num, rfl⟩, by simp [intOf]; omega⟩
              have k1 : (((S[j]'hjl).toNat : Int) == 32) = false := nat_bne (b := 32) (fun h => q32 (UInt8.toNat_inj.1 h))
              by_cases q9 : S[j]'hjl = 9
              · have k2 : (((S[j]'hjl).toNat : Int) == 9) = true := by rw [q9]; rfl
                clear q32 q9 m3
                rcases (by omega : m = 1 ∨ m = 0) with rfl | rfl
                · go_wp2_with fail
                  exact ⟨⟨j + 1, n, by omega, by go_num, rfl⟩, by simp [intOf]; omega⟩
                · go_wp2_with fail
                  exact ⟨⟨j + 1, n, by omega, by go_num, rfl⟩, by simp [intOf]; omega⟩
              have k2 : (((S[j]'hjl).toNat : Int) == 9) = false := nat_bne (b := 9) (fun h => q9 (UInt8.toNat_inj.1 h))
              by_cases q13 : S[j]'hjl = 13
              · have k3 : (((S[j]'hjl).toNat : Int) == 13) = true := by rw [q13]; rfl
                clear q32 q9 q13 m3
                rcases (by omega : m = 1 ∨ m = 0) with rfl | rfl
                · go_wp2_with fail
                  exact ⟨⟨j + 1, n, by omega, by go_num, rfl⟩, by simp [intOf]; omega⟩
                · go_wp2_with fail
                  exact ⟨⟨j + 1, n, by omega, by go_num, rfl⟩, by simp [intOf]; omega⟩
              have k3 : (((S[j]'hjl).toNat : Int) == 13) = false := nat_bne (b := 13) (fun h => q13 (UInt8.toNat_inj.1 h))
              by_cases q10 : S[j]'hjl = 10
              · have k4 : (((S[j]'hjl).toNat : Int) == 10) = true := by rw [q10]; rfl
                clear q32 q9 q13 q10 m3
                rcases (by omega : m = 1 ∨ m = 0) with rfl | rfl
                · go_wp2_with fail
                  exact ⟨⟨j + 1, n, by omega, by go_num, rfl⟩, by simp [intOf]; omega⟩
                · go_wp2_with fail
                  exact ⟨⟨j + 1, n, by omega, by go_num, rfl⟩, by simp [intOf]; omega⟩
              have k4 : (((S[j]'hjl).toNat : Int) == 10) = false := nat_bne (b := 10) (fun h => q10 (UInt8.toNat_inj.1 h))
              have hm1 : m = 1 := by
                rcases (by omega : m = 1 ∨ m = 0) with h | h
                · exact h
                · have := m3 h
                  unfold blk at this
                  have ne : ∀ x : UInt8, S[j]'hjl ≠ x → (S[j]'hjl == x) = false := fun x hx => by simpa using hx
                  rw [ne 32 q32, ne 9 q9, ne 13 q13, ne 10 q10] at this
                  cases this
              subst hm1
              clear q32 q9 q13 q10 m3
              go_wp2_with fail
              exact ⟨⟨j + 1, n, by omega, by go_num, rfl⟩, by simp [intOf]; omega⟩
            · have r3 : ¬ (j : Int) < (S.size : Int) := by omega
              have hbd : Below w.heap.size w (WB.drewN n) := (HBW2.out.trans (HMG.out.bl.mono hgm)).trans (bl_drewN _ _ _)
              have g9 := awake_any (WB.drewN n) (HM.out.below hbd)
              have HBD : Hid (Below w.heap.size w (WB.drewN n)) := hbd
              have hNp : N = pre.length + 1 := by rw [← hN, HPRE.out]; simp
              obtain ⟨g1, d1, e1, hc1, x0, x1, x2, x3⟩ := (tok_open ((HMG.out.drewN n).own HR1'.out HNE.out)).2 pre.length ⟨7, S.size, S.size, []⟩ (by rw [HPRE.out]; simp)
              rw [Value.slice.injEq] at e1
              obtain ⟨rfl, hh1, rfl⟩ := e1
              rw [hN] at hc1
              have r5 : IntKind.i64.wrap ((N : Int) - 1) = (pre.length : Int) := by rw [IntKind.wrap_i64]; omega
              have r6 : (0 : Int) < (N : Int) := by omega
              have r7 : (pre.length : Int) < (N : Int) := by omega
              have r8 : (0 : Int) ≤ (pre.length : Int) := by omega
              generalize pre.length = P at *
              clear hbd hh1 hNp HCT HCV HPRE
              go_wp2_with (go_at_call 9; refine g9.mono ?_; rintro e w4 ⟨rfl, hb4⟩; have HB4 : Hid (Below (WB.drewN n).heap.size (WB.drewN n) w4) := hb4; clear hb4)
              go_ret
              exact ⟨rfl, HBD.out.trans (HB4.out.mono HBD.out.size)⟩
set_option maxRecDepth 100000 in
set_option maxHeartbeats 2000000 in
theorem covers_great (S : ByteArray) (w : World) (hM : Mem w) (h : 4000 < S.size) : Calls Tryd.prog 7 #[.string S] w fun e w' => e = .returned (.bool true) ∧ Below w.heap.size w w' := by
  have g9 := awake_any w hM
  have z1 : (4000 : Int) < (S.size : Int) := by omega
  clear hM
  go_enter Tryd.func7, Tryd.ntmps7
  go_wp2_with (go_at_call 9; refine g9.mono ?_; rintro e w1 ⟨rfl, hb1⟩; have HB1 : Hid (Below w.heap.size w w1) := hb1; clear hb1)
  go_ret
  exact ⟨rfl, HB1.out⟩
set_option maxRecDepth 100000 in
set_option maxHeartbeats 2000000 in
theorem covers_bad (S : ByteArray) (w : World) (hM : Mem w) (h : ¬ 4000 < S.size) (c a : Nat) (hr : readOf S = .bad (c + 1) a) : Calls Tryd.prog 7 #[.string S] w fun e w' => e = .returned (.bool true) ∧ Below w.heap.size w w' := by
  have HM : Hid (Mem w) := hM
  have g10 := tokens_q S w hM
  have g17 := fun W (hb : Below w.heap.size w W) => comments_q S W (hM.below hb)
  rw [hr] at g10 g17
  have z1 : ¬ (4000 : Int) < (S.size : Int) := by omega
  obtain ⟨C, hC⟩ : ∃ C : Int, ((c + 1 : Nat) : Int) = C := ⟨_, rfl⟩
  have k1 : (C != 0) = true := by rw [← hC]; simp; omega
  have HC : Hid (fltV (roC (.bad (c + 1) a)) (roA (.bad (c + 1) a)) = .agg #[.int .i64 C, .string ⟨#[]⟩, .int .i64 a]) := by show _ = _; rw [fltV, ← hC]; rfl
  clear hM hr hC
  go_enter Tryd.func7, Tryd.ntmps7
  go_wp2_with (first
    | (go_at_call 10; refine g10.mono ?_; clear g10; rintro e w1 ⟨hb1, a1, c1, rfl, _⟩; rw [HC.out]; rw [show (roT (RO.bad (c + 1) a)).length = 0 from rfl]; have HB1 : Hid (Below w.heap.size w w1) := hb1; have hz1 := hb1.size; clear hb1)
    | (go_at_call 17; refine (g17 _ (HB1.out.alloc (by omega) _)).mono ?_; clear g17; rintro e w2 ⟨hb2, a2, c2, rfl, _⟩; rw [show (roR (RO.bad (c + 1) a)).length = 0 from rfl]; have HB2 : Hid (Below w.heap.size w w2) := (HB1.out.alloc (by omega) _).trans (hb2.mono (by simp; omega)); clear hb2)
    | (go_at_call 9; refine (awake_any _ (HM.out.below HB2.out)).mono ?_; rintro e w3 ⟨rfl, hb3⟩; have HB3 : Hid (Below w.heap.size w w3) := HB2.out.trans (hb3.mono HB2.out.size); clear hb3))
  go_ret
  exact ⟨rfl, HB3.out⟩
theorem bad_code {S : ByteArray} {c a : Nat} (h : readOf S = .bad c a) : ∃ c', c = c' + 1 := by
  rw [readOf_eq] at h
  split at h
  · injection h with h1; exact ⟨1, h1.symm⟩
  · split at h
    · injection h with h1; exact ⟨1, h1.symm⟩
    · cases hs : scn S.data.toList 0 0 ⟨[], []⟩ with
      | error o => rw [hs] at h; injection h with h1; exact ⟨2, h1.symm⟩
      | ok st => rw [hs] at h; cases h
theorem covers_any (S : ByteArray) (w : World) (hM : Mem w) : Calls Tryd.prog 7 #[.string S] w fun e w' => e = .returned (.bool true) ∧ Below w.heap.size w w' := by
  by_cases h : 4000 < S.size
  · exact covers_great S w hM h
  cases hr : readOf S with
  | ok s => exact covers_ok S w hM h s hr
  | bad c a =>
    obtain ⟨c', rfl⟩ := bad_code hr
    exact covers_bad S w hM h c' a hr
end Go.Proofs.YtmfdfkbcommjfaaDoor
