/-
  The law SpansKeep, of any text and edits that are not too great.
-/
import Derived.Test.YtbgkdofjndocfabKeepP
import Derived.Test.YtbgkdofjndocfabOrder
namespace Go.Proofs.Ytbgkdofjndocfab
open Go.RowKit Go.Maps
attribute [local go_sem ↓] Go.wp_at_zero Go.wp_at_succ
theorem EdArg.drew2 {w : World} {v : Value} {l : List Ed} (h : EdArg w v l) (q : Nat) : EdArg (w.drewN q) v l := h.below (below_drewN (Below.refl _ _) q)
theorem tot_le : ∀ (L : List Ed), (∀ x ∈ L, x.2.2.2.size ≤ 1048576) → tot L ≤ 1048576 * L.length
  | [], _ => by simp [tot]
  | x :: r, h => by
    have := tot_le r fun y hy => h y (by simp [hy])
    have h1 := h x (by simp)
    simp only [tot, List.length_cons]
    omega
theorem tot_append : ∀ (L M : List Ed), tot (L ++ M) = tot L + tot M
  | [], M => by simp [tot]
  | x :: r, M => by simp only [List.cons_append, tot, tot_append r M]; omega
theorem tot_take (L : List Ed) (j : Nat) (hj : j < L.length) : tot (L.take (j + 1)) = tot (L.take j) + (L.getD j default).2.2.2.size := by
  rw [take_snoc L j hj, tot_append]
  simp [tot]
theorem tot_le2 (L : List Ed) (j : Nat) : tot (L.take j) ≤ tot L := by
  have := tot_append (L.take j) (L.drop j)
  rw [List.take_append_drop] at this
  omega
def pA : ByteArray := ⟨#[97]⟩
set_option maxRecDepth 100000 in
set_option maxHeartbeats 4000000 in
theorem keepLaw_any (s : ByteArray) (vl : Value) (l : List Ed) (w : World) (hE : EdArg w vl l) (hl1 : l.length ≤ 1048576) (hs1 : s.size ≤ 1048576) (hesz : ∀ x ∈ l, x.1.size ≤ 1048576 ∧ x.2.2.2.size ≤ 1048576) :
    Calls Try.prog 3 #[.string s, vl] w fun e w' => e = .returned (.bool true) ∧ Below w.heap.size w w' := by
  have HE : Hid (EdArg w vl l) := hE
  have HESZ : Hid (∀ x ∈ l, x.1.size ≤ 1048576 ∧ x.2.2.2.size ≤ 1048576) := hesz
  have h6 := much_any vl l w (by omega) hE
  clear hE hesz
  by_cases h300 : 300 < (s.size : Int)
  · go_enter Try.func3, Try.ntmps3
    go_wp2_with fail
    refine (awake_any _).mono ?_
    rintro e w2 ⟨rfl, hb2⟩
    go_wp2
    go_ret
    exact ⟨rfl, hb2⟩
  go_enter Try.func3, Try.ntmps3
  go_wp2_with fail
  refine h6.mono ?_
  rintro e w1 ⟨q1, rfl, mb, rfl⟩
  clear h6
  have hb1 : Below w.heap.size w (w.drewN q1) := below_drewN (Below.refl _ _) q1
  have hE2 := HE.out.below hb1
  have HB1 : Hid (Below w.heap.size w (w.drewN q1)) := hb1
  have hz1 : w.heap.size ≤ (w.drewN q1).heap.size := hb1.size
  clear hb1
  generalize w.drewN q1 = W1 at *
  cases mb
  · obtain ⟨la, lc, rfl, hls⟩ := hE2.shape
    have HE2 : Hid (EdArg W1 (.slice la l.length lc) l) := hE2
    clear hE2
    generalize hL : l.length = n at *
    have HL : Hid (l.length = n) := hL
    have hLn : n ≤ l.length := by omega
    have hLn2 : l.length ≤ n := by omega
    clear hL
    go_wp2_with fail
    go_loopw [5] (fun x w' => ∃ i q : Nat, i ≤ n ∧ x = .int .i64 i ∧ w' = W1.drewN q ∧ Hid (∀ x ∈ l.take i, x.1 = pA)) (fun x _ => n - (intOf x).toNat)
    case atStart => exact ⟨0, 0, by omega, rfl, rfl, fun x hx => by simp at hx⟩
    case round =>
      obtain ⟨i, q2, hi, rfl, rfl, HP⟩ := hrel
      by_cases hlt : i < n
      · obtain ⟨B, o, rfl, hB, he⟩ := hls (by omega)
        obtain ⟨x0, _, _, _⟩ := xed he i (by omega)
        have y0 := (drewN_cell W1 q2 _).trans x0
        have z1 : (0 : Int) ≤ (i : Int) := by omega
        have z2 : (i : Int) < (n : Int) := by omega
        have HP2 : Hid ((l.getD i default).1 = pA → ∀ x ∈ l.take (i + 1), x.1 = pA) := fun h x hx => by
          rw [take_snoc l i (by omega)] at hx
          rcases List.mem_append.1 hx with hx | hx
          · exact HP.out x hx
          · rw [List.mem_singleton.1 hx]; exact h
        have HBQ : Hid (Below w.heap.size w (W1.drewN q2)) := below_drewN HB1.out q2
        clear x0 he HP
        generalize hW2 : W1.drewN q2 = W2 at *
        have HW2 : Hid (W1.drewN q2 = W2) := hW2
        clear hW2
        generalize (l.getD i default).1 = p at *
        cases hpe : (p.toList == [97])
        · go_wp2_with fail
          refine (awake_any _).mono ?_
          rintro e w2 ⟨rfl, hb2⟩
          go_wp2
          go_ret
          exact ⟨rfl, HBQ.out.trans (hb2.mono HBQ.out.size)⟩
        · have HP3 : Hid (∀ x ∈ l.take (i + 1), x.1 = pA) := HP2.out (toList_inj (by have h : p.toList = [97] := by simpa using hpe
                                                                                     rw [h, Lib.toList_data]; rfl))
          clear HP2
          go_wp2_with fail
          go_roundw
          case rel => exact ⟨i + 1, q2, by omega, by go_num, HW2.out.symm, HP3⟩
          case measure => simp [intOf]; omega
      · obtain rfl : i = n := by omega
        have hall : ∀ x ∈ l, x.1 = pA := fun x hx => HP.out x (by rw [List.take_of_length_le (by omega)]; exact hx)
        have HALL : Hid (∀ x ∈ l, x.1 = pA) := hall
        have hE3 := HE2.out.drew2 q2
        have HB3 : Hid (Below w.heap.size w (W1.drewN q2)) := below_drewN HB1.out q2
        have hz3 := HB3.out.size
        clear HP hall hls
        generalize W1.drewN q2 = W3 at *
        have hE4 : EdArg (W3.alloc (.cells #[.string ⟨#[97]⟩, .string s] 32)) (.slice la i lc) l := hE3.below ((Below.refl _ _).alloc (Nat.le_refl _) _)
        have hF4 : FiArg (W3.alloc (.cells #[.string ⟨#[97]⟩, .string s] 32)) (.slice (some ⟨W3.heap.size, 0, none⟩) 1 1) [(pA, s)] := .inr ⟨W3.heap.size, 0, 1, rfl, by simp, ⟨fun j hj => by
          obtain rfl : j = 0 := by simp at hj; omega
          simp [pA], fun j hj => by
          obtain rfl : j = 0 := by simp at hj; omega
          simp⟩⟩
        have h8 := applyAll_any _ _ [(pA, s)] l _ hF4 hE4 (by simp) (by omega) (fun j hj => by
          obtain rfl : j = 0 := by simp at hj; omega
          exact ⟨by show pA.size ≤ 1048576; decide, hs1⟩) HESZ.out
        have hbA : Below W3.heap.size W3 (W3.alloc (.cells #[.string ⟨#[97]⟩, .string s] 32)) := (Below.refl _ _).alloc (Nat.le_refl _) _
        clear hF4 hE4
        go_wp2_with fail
        refine h8.mono ?_
        intro e w2 hp
        clear h8
        have hb2 : Below W3.heap.size W3 w2 := hbA.trans (hp.1.mono hbA.size)
        have HB2 : Hid (Below w.heap.size w w2) := HB3.out.trans (hb2.mono hz3)
        have hE5 := hE3.below hb2
        have hz2 := HB2.out.size
        rcases hp.2 with ⟨out, v, hs, _, hfit, rfl, hr⟩ | ⟨_, rfl⟩
        · have hallo : ∀ x ∈ out, x.1 = pA := fun x hx => HALL.out x ((hs.mem x).1 hx)
          have hofp : ofP pA out = out := ofP_all hallo
          have hok : okE s 0 out := by
            rw [← hofp]
            refine ofP_okE hs fun e he _ => ?_
            obtain ⟨k, hk, _, h2⟩ := hfit e he
            obtain rfl : k = 0 := by simp at hk; omega
            exact h2
          have hrt : flatF ([(pA, s)].map (newF out)) = [.string pA, .string ⟨(repL s.data.toList 0 out).toArray⟩] := by
            simp [flatF, encF, newF, hofp]
          rw [hrt] at hr
          obtain ⟨G, Gc, hv, hG1, hG2⟩ := hr.form (by simp)
          subst hv
          have g1 : w2.cell? ⟨G, 1, none⟩ = some (.string ⟨(repL s.data.toList 0 out).toArray⟩) := by rw [hr.cellAt 1 (by simp)]; rfl
          have hRl := repL_len s.data.toList 1048576 hs1 out 0 fun x hx => (HESZ.out x ((hs.mem x).1 hx)).2
          have hol := hs.len
          obtain ⟨R, hR⟩ : ∃ R : ByteArray, R = ⟨(repL s.data.toList 0 out).toArray⟩ := ⟨_, rfl⟩
          have hRz : R.size ≤ 2199024304128 := by
            have e1 : R.size = (repL s.data.toList 0 out).length := by rw [hR]; rfl
            omega
          rw [← hR] at g1
          have HR : Hid (R.data.toList = repL s.data.toList 0 out) := by show R.data.toList = _; rw [hR]
          have HS : Hid (Srt l out) := hs
          have HOK : Hid (okE s 0 out) := hok
          have HAO : Hid (∀ x ∈ out, x.1 = pA) := hallo
          have HE5 : Hid (EdArg w2 (.slice la i lc) l) := hE5
          clear hp hr hrt hs hok hallo hofp hfit hR hRl hE5 hE3 hbA hb2
          go_wp2_with fail
          go_loopw [8, 9, 10] (fun nv lv x w' => ∃ (k c : Nat) (lst : Int), k ≤ s.size ∧ x = .int .i64 k ∧ nv = .int .i64 c ∧ lv = .int .i64 lst ∧ c ≤ k ∧ Below w2.heap.size w2 w' ∧ Hid (c = (List.range' 0 k).countP (fun a => (pos 0 out a).isSome)) ∧ Hid (lst = -1 ∨ ∃ a p : Nat, a < k ∧ pos 0 out a = some p ∧ lst = p)) (fun _ _ x _ => s.size - (intOf x).toNat)
          case atStart => exact ⟨0, 0, -1, by omega, rfl, rfl, rfl, by omega, Below.refl _ _, rfl, .inl rfl⟩
          case round =>
            obtain ⟨k, c, lst, hk, rfl, rfl, rfl, hck, hbk, HCN, HLS⟩ := hrel
            have HBK : Hid (Below w2.heap.size w2 wr) := hbk
            have hz4 := hbk.size
            by_cases hlk : k < s.size
            · have hEk := HE5.out.below hbk
              have h9 := moved_any (.slice la i lc) l pA k wr (by omega) (by unfold wrap64; omega) hEk
              have hcs : (List.range' 0 (k + 1)).countP (fun a => (pos 0 out a).isSome) = (List.range' 0 k).countP (fun a => (pos 0 out a).isSome) + if (pos 0 out k).isSome then 1 else 0 := by
                rw [List.range'_1_concat, List.countP_append, Nat.zero_add]
                simp [List.countP_cons]
              have HCS : Hid _ := hcs
              clear hcs hEk hbk
              have hpA : (pA : ByteArray) = ⟨#[97]⟩ := rfl
              rw [hpA] at h9
              go_wp2_with fail
              refine h9.mono ?_
              intro e w4 hm
              clear h9
              have hb4 := hm.1
              have hz5 := hb4.size
              have HB4 : Hid (Below w2.heap.size w2 w4) := HBK.out.trans (hb4.mono hz4)
              have g2 : w4.cell? ⟨G, 1, none⟩ = some (.string R) := (HB4.out.cell (p := ⟨G, 1, none⟩) hG2).trans g1
              have he : e = .returned (mvR ((pos 0 out k).map fun (p : Nat) => (p : Int))) := by
                rcases hm.2 with ⟨out2, hs2, _, rfl⟩ | ⟨hbad, _⟩
                · rw [← HS.out.unique hs2, ← hpA, pos_mv s pA out 0 k k HOK.out HAO.out (by omega)]
                  congr 2
                  cases pos 0 out k
                  · rfl
                  · simp
                · rcases hbad with h | h
                  · exact absurd HS.out.good h
                  · omega
              subst he
              clear hm hb4
              cases hpos : pos 0 out k
              · rw [hpos] at HCS
                simp only [Option.map_none, mvR]
                have HC2 : Hid (c = (List.range' 0 (k + 1)).countP (fun a => (pos 0 out a).isSome)) := by
                  show c = _
                  rw [HCS.out, ← HCN.out]; rfl
                have HL2 : Hid (lst = -1 ∨ ∃ a p : Nat, a < k + 1 ∧ pos 0 out a = some p ∧ lst = p) := by
                  rcases HLS.out with h | ⟨a, p, h1, h2, h3⟩
                  · exact .inl h
                  · exact .inr ⟨a, p, by omega, h2, h3⟩
                clear HCS HCN HLS hpos
                go_wp2_with fail
                go_roundw
                case rel => exact ⟨k + 1, c, lst, by omega, by go_num, rfl, rfl, by omega, HB4.out, HC2, HL2⟩
                case measure => simp [intOf]; omega
              · rename_i p
                have hget := pos_get s out 0 k p HOK.out (by omega) hlk hpos
                rw [← HR.out] at hget
                have hsl : s.data.toList.length = s.size := rfl
                have hRl : R.data.toList.length = R.size := rfl
                have hpl : p < R.size := by
                  rw [← hRl]
                  rcases Nat.lt_or_ge p R.data.toList.length with h | h
                  · exact h
                  · rw [List.getElem?_eq_none h, List.getElem?_eq_getElem (by omega)] at hget
                    cases hget
                have hlp : lst < (p : Int) := by
                  rcases HLS.out with h | ⟨a, p', h1, h2, h3⟩
                  · omega
                  · have := pos_mono out 0 a k p' p (by omega) h1 h2 hpos s HOK.out
                    omega
                have hlo : -1 ≤ lst := by
                  rcases HLS.out with h | ⟨a, p', h1, h2, h3⟩ <;> omega
                have d1 : decide ((p : Int) ≤ lst) = false := decide_eq_false (by omega)
                have d2 : decide ((R.size : Int) ≤ (p : Int)) = false := decide_eq_false (by omega)
                have x1 : (0 : Int) ≤ (p : Int) := by omega
                have x2 : (p : Int) < (R.size : Int) := by omega
                have x3 : (0 : Int) ≤ (k : Int) := by omega
                have x4 : (k : Int) < (s.size : Int) := by omega
                have ew : IntKind.i64.wrap ((c : Int) + 1) = (c : Int) + 1 := IntWalk.i64_in _ (by omega)
                have d3 : decide (R.size ≤ p) = false := decide_eq_false (by omega)
                rw [hpos] at HCS
                simp only [Option.map_some, mvR]
                have hwp : wrap64 (p : Int) = p := by unfold wrap64; omega
                rw [hwp]
                have HC2 : Hid (c + 1 = (List.range' 0 (k + 1)).countP (fun a => (pos 0 out a).isSome)) := by
                  show c + 1 = _
                  rw [HCS.out, ← HCN.out]; rfl
                have HL2 : Hid ((p : Int) = -1 ∨ ∃ a p' : Nat, a < k + 1 ∧ pos 0 out a = some p' ∧ (p : Int) = p') := .inr ⟨k, p, by omega, hpos, rfl⟩
                have heq : R[p]'hpl = s[k]'hlk := by
                  have h1 : R.data.toList[p]? = some (R[p]'hpl) := by rw [List.getElem?_eq_getElem (by rw [hRl]; exact hpl)]; rfl
                  have h2 : s.data.toList[k]? = some (s[k]'hlk) := by rw [List.getElem?_eq_getElem (by rw [hsl]; exact hlk)]; rfl
                  exact Option.some.inj (h1.symm.trans (hget.trans h2))
                clear HCS HCN HLS hpos hwp hget
                go_wp2_with fail
                go_quiet (fail)
                go_wp2_with fail
                go_roundw
                case rel => exact ⟨k + 1, c + 1, p, by omega, by go_num, by go_num, rfl, by omega, below_drewN HB4.out _, HC2, HL2⟩
                case measure => simp [intOf]; omega
            · obtain rfl : k = s.size := by omega
              have hca := count_all s out 0 HOK.out
              rw [Nat.sub_zero, ← HCN.out] at hca
              have HCA : Hid (c + tot out = R.size) := by
                show c + tot out = R.size
                have e1 : R.size = (repL s.data.toList 0 out).length := by rw [← HR.out]; rfl
                omega
              have hEk := HE5.out.below hbk
              have h10 := sorted_sp (.slice la i lc) l wr (by omega) hEk
              clear hca hEk hbk HCN HLS
              go_wp2_with fail
              refine h10.mono ?_
              intro e w4 hp4
              clear h10
              have hb4 := hp4.1
              have HB4 : Hid (Below w2.heap.size w2 w4) := HBK.out.trans (hb4.mono hz4)
              have g2 : w4.cell? ⟨G, 1, none⟩ = some (.string R) := (HB4.out.cell (p := ⟨G, 1, none⟩) hG2).trans g1
              rcases hp4.2 with ⟨a, cap, out2, hs2, rfl, hrow⟩ | ⟨hg, _⟩
              · obtain rfl := HS.out.unique hs2
                clear hp4 hs2 hb4
                have hTZ : tot out ≤ 1048576 * out.length := tot_le out fun x hx => (HESZ.out x ((HS.out.mem x).1 hx)).2
                go_wp2_with fail
                go_loopw [8, 15] (fun nv x w' => ∃ j q : Nat, j ≤ out.length ∧ x = .int .i64 j ∧ nv = .int .i64 ((c + tot (out.take j) : Nat) : Int) ∧ w' = w4.drewN q) (fun _ x _ => out.length - (intOf x).toNat)
                case atStart => exact ⟨0, 0, by omega, rfl, by simp [tot], rfl⟩
                case round =>
                  obtain ⟨j, q5, hj, rfl, rfl, rfl⟩ := hrel
                  by_cases hlj : j < out.length
                  · obtain ⟨g, rfl, hrw⟩ := hrow (by omega)
                    obtain ⟨_, _, _, a3⟩ := (hrw.eds j hlj).drew q5
                    have htk := tot_take out j hlj
                    have htl := tot_le2 out (j + 1)
                    have z1 : (0 : Int) ≤ (j : Int) := by omega
                    have z2 : (j : Int) < (out.length : Int) := by omega
                    rw [htk] at htl
                    have HTK : Hid (tot (out.take (j + 1)) = tot (out.take j) + (out.getD j default).2.2.2.size) := htk
                    clear htk
                    generalize tot (out.take j) = tj at *
                    generalize (out.getD j default).2.2.2 = xt at *
                    have ew : IntKind.i64.wrap (((c + tj : Nat) : Int) + (xt.size : Int)) = ((c + tj : Nat) : Int) + (xt.size : Int) := IntWalk.i64_in _ (by omega)
                    have HD1 : Hid (∀ r, (w4.drewN q5).drewN r = w4.drewN (q5 + r)) := fun r => drewN_two w4 q5 r
                    have HE9 : Hid (((c + tj : Nat) : Int) + (xt.size : Int) = ((c + (tj + xt.size) : Nat) : Int)) := by show ((c + tj : Nat) : Int) + (xt.size : Int) = ((c + (tj + xt.size) : Nat) : Int); omega
                    generalize hW5 : w4.drewN q5 = W5 at *
                    have HW5 : Hid (w4.drewN q5 = W5) := hW5
                    clear hW5
                    generalize hcc : ((c + tj : Nat) : Int) = cc at *
                    clear hcc
                    go_wp2_with fail
                    go_roundw
                    case rel => exact ⟨j + 1, q5, by omega, by go_num, by rw [HTK.out, HE9.out], HW5.out.symm⟩
                    case measure => simp [intOf]; omega
                  · obtain rfl : j = out.length := by omega
                    have g3 := (drewN_cell w4 q5 _).trans g2
                    have HB6 : Hid (Below w.heap.size w (w4.drewN q5)) := below_drewN (HB2.out.trans (HB4.out.mono hz2)) q5
                    rw [List.take_length, HCA.out]
                    generalize w4.drewN q5 = W5 at *
                    go_wp2_with fail
                    refine (awake_any _).mono ?_
                    rintro e w7 ⟨rfl, hb7⟩
                    go_wp2
                    go_ret
                    exact ⟨rfl, HB6.out.trans (hb7.mono HB6.out.size)⟩
              · exact absurd HS.out.good hg
        · clear hp
          go_wp2_with fail
          refine (awake_any _).mono ?_
          rintro e w3 ⟨rfl, hb3⟩
          go_wp2
          go_ret
          exact ⟨rfl, HB2.out.trans (hb3.mono hz2)⟩
  · go_wp2_with fail
    refine (awake_any _).mono ?_
    rintro e w2 ⟨rfl, hb2⟩
    go_wp2
    go_ret
    exact ⟨rfl, HB1.out.trans (hb2.mono hz1)⟩
end Go.Proofs.Ytbgkdofjndocfab
