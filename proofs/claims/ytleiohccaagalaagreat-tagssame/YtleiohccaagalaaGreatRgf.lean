/-
  The document's Read, walked.
-/
import Derived.Test.YtleiohccaagalaaGreatRge
import Derived.Test.YtleiohccaagalaaGreatRfq
namespace Go.Proofs.YtleiohccaagalaaGreat
open Go.RowKit
attribute [local go_sem ↓] Go.wp_at_zero Go.wp_at_succ
theorem eol_lt (s : Bs) : ∀ j (_ : j < (eol s).length) (h' : j < s.length), s[j] ≠ 10 := by
  induction s with
  | nil => intro j h; simp [eol] at h
  | cons c r ih =>
    intro j h h'
    by_cases hc : c = 10
    · subst hc; simp [eol] at h
    · have he : eol (c :: r) = c :: eol r := by simp [eol, hc]
      rw [he] at h
      cases j with
      | zero => exact hc
      | succ j => exact ih j (by simpa using h) (by simpa using h')
theorem eol_end (s : Bs) : ∀ h : (eol s).length < s.length, s[(eol s).length] = 10 := by
  induction s with
  | nil => intro h; simp at h
  | cons c r ih =>
    intro h
    by_cases hc : c = 10
    · subst hc; simp [eol]
    · have he : eol (c :: r) = c :: eol r := by simp [eol, hc]
      simp only [he, List.length_cons, List.getElem_cons_succ]
      exact ih (by rw [he] at h; simpa using h)
theorem eol_take (s : Bs) : s.take (eol s).length = eol s := by
  induction s with
  | nil => rfl
  | cons c r ih =>
    by_cases hc : c = 10
    · subst hc; simp [eol]
    · have he : eol (c :: r) = c :: eol r := by simp [eol, hc]
      rw [he, List.length_cons, List.take_succ_cons, ih]
theorem eol_le (s : Bs) : (eol s).length ≤ s.length := List.Sublist.length_le (List.takeWhile_sublist _)
theorem pre_take (s : Bs) : head8.isPrefixOf s = decide (s.take 8 = head8) := by
  match s with
  | [] => rfl
  | [_] => simp [head8, List.isPrefixOf]
  | [_, _] => simp [head8, List.isPrefixOf]
  | [_, _, _] => simp [head8, List.isPrefixOf]
  | [_, _, _, _] => simp [head8, List.isPrefixOf]
  | [_, _, _, _, _] => simp [head8, List.isPrefixOf]
  | [_, _, _, _, _, _] => simp [head8, List.isPrefixOf]
  | [_, _, _, _, _, _, _] => simp [head8, List.isPrefixOf]
  | a :: b :: c :: d :: e :: f :: g :: h :: r =>
    simp only [head8, List.isPrefixOf, List.take_succ_cons, List.take_zero]
    rw [Bool.eq_iff_iff]
    simp only [Bool.and_eq_true, beq_iff_eq, decide_eq_true_eq, List.cons.injEq, and_true]
    constructor
    · rintro ⟨rfl, rfl, rfl, rfl, rfl, rfl, rfl, rfl⟩; simp
    · rintro ⟨rfl, rfl, rfl, rfl, rfl, rfl, rfl, rfl⟩; simp
/-- what the document's Read answers -/
structure RRdQ (w : World) (res : Option Pt) (e : Ending) (w' : World) : Prop where
  bl : Below w.heap.size w w'
  no : res = none → e = .returned (.tuple #[.agg #[.int .i64 0, .string ⟨#[]⟩, .slice none 0 0], .int .i64 3])
  yes : ∀ p, res = some p → ∃ va vc, e = .returned (.tuple #[.agg #[.int .i64 (nf p).kind, .string (bs (nf p).tag), .slice va (nf p).kids.length vc], .int .i64 0]) ∧ SlV (Bf w.heap.size) w' (.slice va (nf p).kids.length vc) (nf p).kids
theorem results_cell2 {P : Program} {f : Func} {tmps : Array Value} {W : World} {a t b : Nat} {ad : Addr} {v u : Value} (hf : f.results = #[.cell a t, .tmp b]) (ha : tmps.getD a undef = .pointer (some ad)) (hb : tmps.getD b undef = u) (hl : (loadVar t ad).run P W = .ok v W) : (results f tmps).run P W = .ok (.tuple #[v, u]) W := by
  unfold results
  rw [hf]
  have ha2 : tmps[a]?.getD undef = .pointer (some ad) := by rw [← ha]; simp
  have hb2 : tmps[b]?.getD undef = u := by rw [← hb]; simp
  simp [ha2, hb2, asAddr, hl]
theorem rd_yes {w : World} {W : World} (hb : Below w.heap.size w W) : RRdQ w (some .yes) (.returned (.tuple #[.agg #[.int .i64 0, .string ⟨#[]⟩, .slice none 0 0], .int .i64 0])) W :=
  ⟨hb, (fun h => by cases h), fun p h => by cases h; exact ⟨none, 0, rfl, slv_nil⟩⟩
theorem rd_no {w : World} {W : World} {RES : Option Pt} (hb : Below w.heap.size w W) (h : RES = none) : RRdQ w RES (.returned (.tuple #[.agg #[.int .i64 0, .string ⟨#[]⟩, .slice none 0 0], .int .i64 3])) W :=
  ⟨hb, fun _ => rfl, fun p h2 => by rw [h] at h2; cases h2⟩
theorem below_set3 {n : Nat} {w W : World} {X : Nat} {a b c : Value} (h : Below n w W) (hX : n ≤ X) : Below n w (((W.setCell ⟨X, 0, none⟩ a).setCell ⟨X, 1, none⟩ b).setCell ⟨X, 2, none⟩ c) := by
  have hs : Kx (· = X) W (((W.setCell ⟨X, 0, none⟩ a).setCell ⟨X, 1, none⟩ b).setCell ⟨X, 2, none⟩ c) := kx_set3
  have hz : (((W.setCell ⟨X, 0, none⟩ a).setCell ⟨X, 1, none⟩ b).setCell ⟨X, 2, none⟩ c).heap.size = W.heap.size := by simp [World.setCell]
  exact ⟨hs.os.trans h.os, hs.tape.trans h.tape, hs.output.trans h.output, by rw [hz]; exact h.size, fun k hk => by
    rw [← h.block k hk, setBlk (by omega), setBlk (by omega), setBlk (by omega)]⟩
theorem below_kx1 {w W W' : World} {X : Nat} (h : Below w.heap.size w W) (k : Kx (· = X) W W') (hX : w.heap.size ≤ X) : Below w.heap.size w W' :=
  ⟨k.os.trans h.os, k.tape.trans h.tape, k.output.trans h.output, Nat.le_trans h.size k.size, fun b hb => by
    have h1 := h.block b hb
    rw [Array.getElem?_eq_getElem hb] at h1 ⊢
    exact k.keep b _ h1 (by omega)⟩
set_option maxRecDepth 100000 in
set_option maxHeartbeats 8000000 in
theorem rread_any (S : ByteArray) (w : World) (hS : S.size ≤ 1000000) : Calls Tryz.prog 7 #[.string S] w (RRdQ w (readR S.data.toList)) := by
  have hz : S.data.toList.length = S.size := bal S
  have hbw : Below w.heap.size w (w.alloc (.cells #[.int .i64 0, .string ⟨#[]⟩, .slice none 0 0] 31)) := (Below.refl _ w).alloc (Nat.le_refl _) _
  have hnw := heap_new w (.cells #[.int .i64 0, .string ⟨#[]⟩, .slice none 0 0] 31)
  by_cases h8 : S.size < 8
  · have q1 : (S.size : Int) < 8 := by omega
    have hr : readR S.data.toList = some .yes := by
      unfold readR
      rw [pre_take, decide_eq_false (by intro e; have := congrArg List.length e; rw [List.length_take] at this; simp [head8] at this; omega)]
      rfl
    rw [hr]
    clear hr hz
    go_enter Tryz.func7, Tryz.ntmps7
    go_wp2_with fail
    refine bodyPost_ret (v := .tuple #[.agg #[.int .i64 0, .string ⟨#[]⟩, .slice none 0 0], .int .i64 0]) (results_cell2 rfl rfl rfl (resR hnw)) rfl ?_
    exact rd_yes hbw
  · have q1 : ¬ (S.size : Int) < 8 := by omega
    have q2 : (8 : Int) ≤ (S.size : Int) := by omega
    have he8 : (S.extract 0 8).toList = S.data.toList.take 8 := by
      have := ext_take S 0 8
      rw [show 0 + 8 = 8 from rfl, List.drop_zero] at this
      rw [this, bs_toList]
    by_cases hp : S.data.toList.take 8 = head8
    · have kp : (!(S.extract 0 8).toList == [47, 47, 98, 117, 105, 108, 100, 32]) = false := by rw [he8, hp]; rfl
      have hr : readR S.data.toList = (pcsR (eol (S.data.toList.drop 8))).bind fun l => if l.length ≤ 200 then parse l else none := by
        unfold readR
        rw [pre_take, decide_eq_true hp, if_pos rfl, lineR_ref]
      rw [hr]
      obtain ⟨N, hN⟩ : ∃ N, N = (eol (S.data.toList.drop 8)).length := ⟨_, rfl⟩
      have hle : 8 + N ≤ S.size := by have := eol_le (S.data.toList.drop 8); rw [List.length_drop] at this; omega
      have HNB : Hid (∀ k (h : k < S.size), 8 ≤ k → k < 8 + N → (((S[k]'h).toNat : Int) == 10) = false) := fun k h h1 h2 => by
        refine nat_bne (b := 10) fun e => ?_
        have := eol_lt (S.data.toList.drop 8) (k - 8) (by omega) (by rw [List.length_drop]; omega)
        apply this
        rw [List.getElem_drop]
        have e2 : S.data.toList[8 + (k - 8)]'(by omega) = S[k]'h := by
          simp only [show 8 + (k - 8) = k by omega]; simp [ByteArray.getElem_eq_getElem_data]
        rw [e2]
        exact UInt8.toNat_inj.1 e
      have HTN : Hid (∀ (h : 8 + N < S.size), (((S[8 + N]'h).toNat : Int) == 10) = true) := fun h => by
        refine nat_beq (b := 10) ?_
        have := eol_end (S.data.toList.drop 8) (by rw [List.length_drop]; omega)
        rw [List.getElem_drop] at this
        have e2 : S.data.toList[8 + (eol (S.data.toList.drop 8)).length]'(by omega) = S[8 + N]'h := by
          simp only [← hN]; simp [ByteArray.getElem_eq_getElem_data]
        rw [e2] at this
        rw [this]; rfl
      have hex : S.extract 8 (8 + N) = bs (eol (S.data.toList.drop 8)) := by rw [ext_take, hN, eol_take]
      have HEX : Hid (S.extract 8 (8 + N) = bs (eol (S.data.toList.drop 8))) := hex
      have hpc : ∀ W, Calls Tryz.prog 16 #[.string (S.extract 8 (8 + N))] W (SplQ W (pcsR (eol (S.data.toList.drop 8)))) := fun W => by
        have := pieces_any (bs (eol (S.data.toList.drop 8))) W (by rw [bs_size]; omega)
        rw [bs_list] at this
        rwa [hex]
      have HGD : Hid (∀ l, pcsR (eol (S.data.toList.drop 8)) = some l → ∀ t ∈ l, plB t = idB t) := fun l h => pcsR_good _ _ l (Nat.le_refl _) h
      generalize pcsR (eol (S.data.toList.drop 8)) = PC at *
      have HBW : Hid (Below w.heap.size w (w.alloc (.cells #[.int .i64 0, .string ⟨#[]⟩, .slice none 0 0] 31))) := hbw
      have HNW : Hid ((w.alloc (.cells #[.int .i64 0, .string ⟨#[]⟩, .slice none 0 0] 31)).heap[w.heap.size]? = some (.cells #[.int .i64 0, .string ⟨#[]⟩, .slice none 0 0] 31 (0, 0))) := hnw
      clear hr hz hex he8 hp hN hbw hnw
      go_enter Tryz.func7, Tryz.ntmps7
      go_wp2_with fail
      have hlw : w.heap.size < (w.alloc (.cells #[.int .i64 0, .string ⟨#[]⟩, .slice none 0 0] 31)).heap.size := by simp
      generalize w.alloc (.cells #[.int .i64 0, .string ⟨#[]⟩, .slice none 0 0] 31) = W0 at *
      go_loopg [5] (S.size) (fun g u5 wr => ∃ k : Nat, 8 ≤ k ∧ k ≤ 8 + N ∧ S.size - k ≤ g ∧ u5 = .int .i64 k ∧ wr = W0)
      case atStart => exact ⟨8, Nat.le_refl _, by omega, by omega, rfl, rfl⟩
      case round =>
        obtain ⟨k, hk8, hkN, hg, rfl, hw⟩ := hrel
        obtain rfl := hw.symm
        clear hw
        by_cases hlt : k < 8 + N
        · have hks : k < S.size := by omega
          have z1 : (k : Int) < (S.size : Int) := by omega
          have z0 : (0 : Int) ≤ (k : Int) := by omega
          have kb := HNB.out k hks hk8 hlt
          go_wp2_with fail
          go_roundg (S.size - (k + 1))
          case measure => omega
          case rel => exact ⟨k + 1, by omega, by omega, by omega, by go_num, rfl⟩
        · obtain rfl : k = 8 + N := by omega
          by_cases hks : 8 + N < S.size
          · have z1 : ((8 + N : Nat) : Int) < (S.size : Int) := by omega
            have z0 : (0 : Int) ≤ ((8 + N : Nat) : Int) := by omega
            have kb := HTN.out hks
            go_wp2_with fail
            generalize S.extract 8 (8 + N) = X at *
            go_at_call 16
            refine (hpc W0).mono ?_
            intro e w1 hq
            obtain ⟨v, ok, rfl, hy, hn⟩ := hq.any
            have HB1 : Hid (Below w.heap.size w w1) := HBW.out.trans (hq.bl.mono (by omega))
            have HN1 : Hid (w1.heap[w.heap.size]? = some (.cells #[.int .i64 0, .string ⟨#[]⟩, .slice none 0 0] 31 (0, 0))) := blk_kept hq.bl HNW.out
            have hz1 : w.heap.size < w1.heap.size := (Array.getElem?_eq_some_iff.1 HN1.out).1
            obtain ⟨o0, o1, o2, fo0, fo1, fo2⟩ := bx3 HN1.out
            clear hpc HBW HNW HTN HNB
            cases ok with
            | false =>
              obtain rfl := hn rfl
              clear hy hn hq
              go_wp2_with fail
              refine bodyPost_ret (v := .tuple #[.agg #[.int .i64 0, .string ⟨#[]⟩, .slice none 0 0], .int .i64 3]) (results_cell2 rfl rfl rfl (resR (bx3_set3 HN1.out))) rfl ?_
              exact rd_no (below_set3 HB1.out (Nat.le_refl _)) rfl
            | true =>
              obtain ⟨l, rfl, hrow⟩ := hy rfl
              obtain ⟨a, c, rfl⟩ := own_slice hrow
              clear hy hn hq
              by_cases h200 : l.length ≤ 200
              · have k200 : ¬ (200 : Int) < (l.length : Int) := by omega
                have hg := HGD.out l rfl
                have hbx : Below w1.heap.size w1 (w1.alloc (.cells #[.slice a l.length c, .int .i64 0, .bool false] 53)) := below_alloc _ _
                have hrest : RestV w1.heap.size (w1.alloc (.cells #[.slice a l.length c, .int .i64 0, .bool false] 53)) a l.length c l := hrow.rest (fun k hk => hbx.block k hk) (Nat.le_refl _)
                have hru := ruleR_any hg (by omega) _ hrest (heap_new w1 (.cells #[.slice a l.length c, .int .i64 0, .bool false] 53))
                have HB2 : Hid (Below w.heap.size w (w1.alloc (.cells #[.slice a l.length c, .int .i64 0, .bool false] 53))) := HB1.out.trans (hbx.mono (by omega))
                have HN2 : Hid ((w1.alloc (.cells #[.slice a l.length c, .int .i64 0, .bool false] 53)).heap[w.heap.size]? = some (.cells #[.int .i64 0, .string ⟨#[]⟩, .slice none 0 0] 31 (0, 0))) := blk_kept hbx HN1.out
                clear hg hrest hbx hrow HGD HB1 HN1 o0 o1 o2 fo0 fo1 fo2
                go_wp2_with fail
                go_at_call 17
                refine hru.mono ?_
                intro e w3 hq
                obtain ⟨x, v, i1, bad, rfl, hsl, hrz, htp, _, _, _, hyes, hno⟩ := hq.ex
                obtain ⟨va, vc, rfl⟩ := hsl.slice
                have HB3 : Hid (Below w.heap.size w w3) := below_kx1 HB2.out hq.kp (by omega)
                have HN3 : Hid (w3.heap[w.heap.size]? = some (.cells #[.int .i64 0, .string ⟨#[]⟩, .slice none 0 0] 31 (0, 0))) := hq.kp.keep _ _ HN2.out (by omega)
                have HV3 : Hid (SlV (Bf (w.heap.size + 1)) w3 (.slice va x.kids.length vc) x.kids) := hsl.to' (Kx.refl (fun _ => False) w3) (fun b o ob _ hb => Bf.mono (by simp; omega) b o ob hb) (fun _ _ _ _ _ h => h)
                have hz3 : w.heap.size < w3.heap.size := (Array.getElem?_eq_some_iff.1 HN3.out).1
                have hz4 : w1.heap.size < w3.heap.size := (Array.getElem?_eq_some_iff.1 hrz).1
                obtain ⟨o0, o1, o2, fo0, fo1, fo2⟩ := bx3 HN3.out
                obtain ⟨r0, r1, r2, fr0, fr1, fr2⟩ := bx3 hrz
                have HYS : Hid (bad = false → ∃ p r, rule (l.length + 1) l = some (p, r) ∧ x = nf p ∧ l.drop i1 = r ∧ i1 ≤ l.length) := hyes
                have HNO : Hid (bad = true → rule (l.length + 1) l = none) := hno
                clear hru hq hsl hrz HB2 HN2 hyes hno
                have HF : Hid (∀ W2, RRdQ w none (.returned (.tuple #[.agg #[.int .i64 0, .string ⟨#[]⟩, .slice none 0 0], .int .i64 3])) W2 → parse l = none → RRdQ w ((some l).bind fun l => if l.length ≤ 200 then parse l else none) (.returned (.tuple #[.agg #[.int .i64 0, .string ⟨#[]⟩, .slice none 0 0], .int .i64 3])) W2) := fun W2 h e => by
                  rw [Option.bind_some, if_pos h200, e]; exact h
                cases bad with
                | true =>
                  have HP : Hid (parse l = none) := by show _ = _; unfold parse; rw [HNO.out rfl]; rfl
                  go_wp2_with fail
                  refine bodyPost_ret (v := .tuple #[.agg #[.int .i64 0, .string ⟨#[]⟩, .slice none 0 0], .int .i64 3]) (results_cell2 rfl rfl rfl (resR (blk_kept (below_alloc _ _) (bx3_set3 HN3.out)))) rfl ?_
                  exact HF.out _ (rd_no ((below_set3 HB3.out (Nat.le_refl _)).trans ((below_alloc _ _).mono (below_set3 HB3.out (Nat.le_refl _)).size)) rfl) HP.out
                | false =>
                  obtain ⟨p, r, e1, rfl, rfl, hile⟩ := HYS.out rfl
                  by_cases hil : i1 < l.length
                  · have z5 : (i1 : Int) < (l.length : Int) := by omega
                    have HP : Hid (parse l = none) := by
                      show _ = _
                      unfold parse
                      rw [e1, List.drop_eq_getElem_cons hil]; rfl
                    clear e1
                    go_wp2_with fail
                    refine bodyPost_ret (v := .tuple #[.agg #[.int .i64 0, .string ⟨#[]⟩, .slice none 0 0], .int .i64 3]) (results_cell2 rfl rfl rfl (resR (blk_kept (below_alloc _ _) (bx3_set3 HN3.out)))) rfl ?_
                    exact HF.out _ (rd_no ((below_set3 HB3.out (Nat.le_refl _)).trans ((below_alloc _ _).mono (below_set3 HB3.out (Nat.le_refl _)).size)) rfl) HP.out
                  · have z5 : ¬ (i1 : Int) < (l.length : Int) := by omega
                    have HP : Hid (parse l = some p) := by
                      show _ = _
                      unfold parse
                      rw [e1, List.drop_of_length_le (by omega)]; rfl
                    clear e1
                    go_wp2_with fail
                    have hk5 : Kx (· = w.heap.size) w3 (((w3.setCell ⟨w.heap.size, 0, none⟩ (.int .i64 (nf p).kind)).setCell ⟨w.heap.size, 1, none⟩ (.string (bs (nf p).tag))).setCell ⟨w.heap.size, 2, none⟩ (.slice va (nf p).kids.length vc)) := kx_set3
                    have hv5 := (HV3.out.to' hk5 (fun b o ob _ hb => Bf.mono (Nat.le_succ _) b o ob hb) (fun b o ob _ hb e => by have := hb.1; omega)).kept (below_alloc _ (.cells #[.int .i64 (nf p).kind, .string (bs (nf p).tag), .slice va (nf p).kids.length vc] 31))
                    refine bodyPost_ret (v := .tuple #[.agg #[.int .i64 (nf p).kind, .string (bs (nf p).tag), .slice va (nf p).kids.length vc], .int .i64 0]) (results_cell2 rfl rfl rfl (resR (blk_kept (below_alloc _ _) (bx3_set3 HN3.out)))) rfl ?_
                    refine ⟨(below_set3 HB3.out (Nat.le_refl _)).trans ((below_alloc _ _).mono (below_set3 HB3.out (Nat.le_refl _)).size), (fun h => ?_), fun q h => ?_⟩
                    · rw [Option.bind_some, if_pos h200, HP.out] at h; cases h
                    · rw [Option.bind_some, if_pos h200, HP.out] at h
                      cases h
                      exact ⟨_, _, rfl, hv5⟩
              · have k200 : (200 : Int) < (l.length : Int) := by omega
                clear hrow HGD
                go_wp2_with fail
                refine bodyPost_ret (v := .tuple #[.agg #[.int .i64 0, .string ⟨#[]⟩, .slice none 0 0], .int .i64 3]) (results_cell2 rfl rfl rfl (resR (bx3_set3 HN1.out))) rfl ?_
                exact rd_no (below_set3 HB1.out (Nat.le_refl _)) (by rw [Option.bind_some, if_neg h200])
          · have z1 : ¬ ((8 + N : Nat) : Int) < (S.size : Int) := by omega
            go_wp2_with fail
            generalize S.extract 8 (8 + N) = X at *
            go_at_call 16
            refine (hpc W0).mono ?_
            intro e w1 hq
            obtain ⟨v, ok, rfl, hy, hn⟩ := hq.any
            have HB1 : Hid (Below w.heap.size w w1) := HBW.out.trans (hq.bl.mono (by omega))
            have HN1 : Hid (w1.heap[w.heap.size]? = some (.cells #[.int .i64 0, .string ⟨#[]⟩, .slice none 0 0] 31 (0, 0))) := blk_kept hq.bl HNW.out
            have hz1 : w.heap.size < w1.heap.size := (Array.getElem?_eq_some_iff.1 HN1.out).1
            obtain ⟨o0, o1, o2, fo0, fo1, fo2⟩ := bx3 HN1.out
            clear hpc HBW HNW HTN HNB
            cases ok with
            | false =>
              obtain rfl := hn rfl
              clear hy hn hq
              go_wp2_with fail
              refine bodyPost_ret (v := .tuple #[.agg #[.int .i64 0, .string ⟨#[]⟩, .slice none 0 0], .int .i64 3]) (results_cell2 rfl rfl rfl (resR (bx3_set3 HN1.out))) rfl ?_
              exact rd_no (below_set3 HB1.out (Nat.le_refl _)) rfl
            | true =>
              obtain ⟨l, rfl, hrow⟩ := hy rfl
              obtain ⟨a, c, rfl⟩ := own_slice hrow
              clear hy hn hq
              by_cases h200 : l.length ≤ 200
              · have k200 : ¬ (200 : Int) < (l.length : Int) := by omega
                have hg := HGD.out l rfl
                have hbx : Below w1.heap.size w1 (w1.alloc (.cells #[.slice a l.length c, .int .i64 0, .bool false] 53)) := below_alloc _ _
                have hrest : RestV w1.heap.size (w1.alloc (.cells #[.slice a l.length c, .int .i64 0, .bool false] 53)) a l.length c l := hrow.rest (fun k hk => hbx.block k hk) (Nat.le_refl _)
                have hru := ruleR_any hg (by omega) _ hrest (heap_new w1 (.cells #[.slice a l.length c, .int .i64 0, .bool false] 53))
                have HB2 : Hid (Below w.heap.size w (w1.alloc (.cells #[.slice a l.length c, .int .i64 0, .bool false] 53))) := HB1.out.trans (hbx.mono (by omega))
                have HN2 : Hid ((w1.alloc (.cells #[.slice a l.length c, .int .i64 0, .bool false] 53)).heap[w.heap.size]? = some (.cells #[.int .i64 0, .string ⟨#[]⟩, .slice none 0 0] 31 (0, 0))) := blk_kept hbx HN1.out
                clear hg hrest hbx hrow HGD HB1 HN1 o0 o1 o2 fo0 fo1 fo2
                go_wp2_with fail
                go_at_call 17
                refine hru.mono ?_
                intro e w3 hq
                obtain ⟨x, v, i1, bad, rfl, hsl, hrz, htp, _, _, _, hyes, hno⟩ := hq.ex
                obtain ⟨va, vc, rfl⟩ := hsl.slice
                have HB3 : Hid (Below w.heap.size w w3) := below_kx1 HB2.out hq.kp (by omega)
                have HN3 : Hid (w3.heap[w.heap.size]? = some (.cells #[.int .i64 0, .string ⟨#[]⟩, .slice none 0 0] 31 (0, 0))) := hq.kp.keep _ _ HN2.out (by omega)
                have HV3 : Hid (SlV (Bf (w.heap.size + 1)) w3 (.slice va x.kids.length vc) x.kids) := hsl.to' (Kx.refl (fun _ => False) w3) (fun b o ob _ hb => Bf.mono (by simp; omega) b o ob hb) (fun _ _ _ _ _ h => h)
                have hz3 : w.heap.size < w3.heap.size := (Array.getElem?_eq_some_iff.1 HN3.out).1
                have hz4 : w1.heap.size < w3.heap.size := (Array.getElem?_eq_some_iff.1 hrz).1
                obtain ⟨o0, o1, o2, fo0, fo1, fo2⟩ := bx3 HN3.out
                obtain ⟨r0, r1, r2, fr0, fr1, fr2⟩ := bx3 hrz
                have HYS : Hid (bad = false → ∃ p r, rule (l.length + 1) l = some (p, r) ∧ x = nf p ∧ l.drop i1 = r ∧ i1 ≤ l.length) := hyes
                have HNO : Hid (bad = true → rule (l.length + 1) l = none) := hno
                clear hru hq hsl hrz HB2 HN2 hyes hno
                have HF : Hid (∀ W2, RRdQ w none (.returned (.tuple #[.agg #[.int .i64 0, .string ⟨#[]⟩, .slice none 0 0], .int .i64 3])) W2 → parse l = none → RRdQ w ((some l).bind fun l => if l.length ≤ 200 then parse l else none) (.returned (.tuple #[.agg #[.int .i64 0, .string ⟨#[]⟩, .slice none 0 0], .int .i64 3])) W2) := fun W2 h e => by
                  rw [Option.bind_some, if_pos h200, e]; exact h
                cases bad with
                | true =>
                  have HP : Hid (parse l = none) := by show _ = _; unfold parse; rw [HNO.out rfl]; rfl
                  go_wp2_with fail
                  refine bodyPost_ret (v := .tuple #[.agg #[.int .i64 0, .string ⟨#[]⟩, .slice none 0 0], .int .i64 3]) (results_cell2 rfl rfl rfl (resR (blk_kept (below_alloc _ _) (bx3_set3 HN3.out)))) rfl ?_
                  exact HF.out _ (rd_no ((below_set3 HB3.out (Nat.le_refl _)).trans ((below_alloc _ _).mono (below_set3 HB3.out (Nat.le_refl _)).size)) rfl) HP.out
                | false =>
                  obtain ⟨p, r, e1, rfl, rfl, hile⟩ := HYS.out rfl
                  by_cases hil : i1 < l.length
                  · have z5 : (i1 : Int) < (l.length : Int) := by omega
                    have HP : Hid (parse l = none) := by
                      show _ = _
                      unfold parse
                      rw [e1, List.drop_eq_getElem_cons hil]; rfl
                    clear e1
                    go_wp2_with fail
                    refine bodyPost_ret (v := .tuple #[.agg #[.int .i64 0, .string ⟨#[]⟩, .slice none 0 0], .int .i64 3]) (results_cell2 rfl rfl rfl (resR (blk_kept (below_alloc _ _) (bx3_set3 HN3.out)))) rfl ?_
                    exact HF.out _ (rd_no ((below_set3 HB3.out (Nat.le_refl _)).trans ((below_alloc _ _).mono (below_set3 HB3.out (Nat.le_refl _)).size)) rfl) HP.out
                  · have z5 : ¬ (i1 : Int) < (l.length : Int) := by omega
                    have HP : Hid (parse l = some p) := by
                      show _ = _
                      unfold parse
                      rw [e1, List.drop_of_length_le (by omega)]; rfl
                    clear e1
                    go_wp2_with fail
                    have hk5 : Kx (· = w.heap.size) w3 (((w3.setCell ⟨w.heap.size, 0, none⟩ (.int .i64 (nf p).kind)).setCell ⟨w.heap.size, 1, none⟩ (.string (bs (nf p).tag))).setCell ⟨w.heap.size, 2, none⟩ (.slice va (nf p).kids.length vc)) := kx_set3
                    have hv5 := (HV3.out.to' hk5 (fun b o ob _ hb => Bf.mono (Nat.le_succ _) b o ob hb) (fun b o ob _ hb e => by have := hb.1; omega)).kept (below_alloc _ (.cells #[.int .i64 (nf p).kind, .string (bs (nf p).tag), .slice va (nf p).kids.length vc] 31))
                    refine bodyPost_ret (v := .tuple #[.agg #[.int .i64 (nf p).kind, .string (bs (nf p).tag), .slice va (nf p).kids.length vc], .int .i64 0]) (results_cell2 rfl rfl rfl (resR (blk_kept (below_alloc _ _) (bx3_set3 HN3.out)))) rfl ?_
                    refine ⟨(below_set3 HB3.out (Nat.le_refl _)).trans ((below_alloc _ _).mono (below_set3 HB3.out (Nat.le_refl _)).size), (fun h => ?_), fun q h => ?_⟩
                    · rw [Option.bind_some, if_pos h200, HP.out] at h; cases h
                    · rw [Option.bind_some, if_pos h200, HP.out] at h
                      cases h
                      exact ⟨_, _, rfl, hv5⟩
              · have k200 : (200 : Int) < (l.length : Int) := by omega
                clear hrow HGD
                go_wp2_with fail
                refine bodyPost_ret (v := .tuple #[.agg #[.int .i64 0, .string ⟨#[]⟩, .slice none 0 0], .int .i64 3]) (results_cell2 rfl rfl rfl (resR (bx3_set3 HN1.out))) rfl ?_
                exact rd_no (below_set3 HB1.out (Nat.le_refl _)) (by rw [Option.bind_some, if_neg h200])
    · have kp : (!(S.extract 0 8).toList == [47, 47, 98, 117, 105, 108, 100, 32]) = true := by
        have h9 : (S.data.toList.take 8 == [47, 47, 98, 117, 105, 108, 100, 32]) = false := by rw [beq_eq_false_iff_ne]; exact hp
        rw [he8, h9]; rfl
      have hr : readR S.data.toList = some .yes := by
        unfold readR
        rw [pre_take, decide_eq_false hp]
        rfl
      rw [hr]
      clear hr hz he8 hp
      go_enter Tryz.func7, Tryz.ntmps7
      go_wp2_with fail
      refine bodyPost_ret (v := .tuple #[.agg #[.int .i64 0, .string ⟨#[]⟩, .slice none 0 0], .int .i64 0]) (results_cell2 rfl rfl rfl (resR hnw)) rfl ?_
      exact rd_yes hbw
end Go.Proofs.YtleiohccaagalaaGreat
