/-
  The document's sig, walked.
-/
import Derived.Test.YtifcikhgbafegaaTxp
import Derived.Test.YtifcikhgbafegaaRmk
namespace Go.Proofs.Ytifcikhgbafegaa
open Go.RowKit
attribute [local go_sem ↓] Go.wp_at_zero Go.wp_at_succ
theorem dots_set (ks : List Int) (p : List Bs) (h : 0 < p.length) : dots ks p = p.set (p.length - 1) (if ks[p.length - 1]? = some 11 then [46, 46, 46] ++ ([46, 46, 46] ++ p[p.length - 1]).drop 5 else [46, 46, 46] ++ p[p.length - 1]) := by
  have hr : p = p.dropLast ++ [p[p.length - 1]] := by
    have h0 : p ≠ [] := fun e => by rw [e] at h; cases h
    conv => lhs; rw [← List.dropLast_concat_getLast h0]
    rw [List.getLast_eq_getElem]
  have hl : p.dropLast.length = p.length - 1 := by simp
  generalize p[p.length - 1] = x at *
  generalize p.dropLast = r at *
  subst hr
  unfold dots
  simp
theorem ext_drop (S : ByteArray) (k : Nat) : S.extract k S.size = bs (S.data.toList.drop k) := by
  apply ByteArray.ext
  rw [ByteArray.data_extract]
  apply Array.ext'
  simp [bs]
  rw [List.take_of_length_le (by simp)]
theorem txt11 {x : Ty} (h : x.kind = 11) : 2 ≤ x.txt.length := by
  obtain ⟨k, nm, n, f, ns, ms, ks⟩ := x
  simp only [Ty.kind] at h
  subst h
  simp [Ty.txt, txK]
/-- a function's text without func is told so -/
def SgC (t : Ty) (T : Bs) : Prop := ∀ (B : BQ) (w : World) (vn vm vk : Value), Prt B w t vn vm vk → Calls Try.prog 47 #[agT t vn vm vk] w fun e w' => e = .returned (.string (bs T)) ∧ Below w.heap.size w w'
set_option maxRecDepth 100000 in
set_option maxHeartbeats 8000000 in
theorem rsig_of (k : Int) (nm : ByteArray) (q : Nat) (f : Bool) (ns : List ByteArray) (ms : List Bool) (ks : List Ty) (hq : q ≤ ks.length) (hk : ks.length ≤ 1000) (hT : ∀ i (h : i < ks.length) (h' : i < (txtL ks).length), TxC ks[i] (txtL ks)[i]) (hb : sumB (txtL ks) ≤ 100000000) : SgC (.mk k nm q f ns ms ks) (sgB q f (kdL ks) (txtL ks)) := by
  intro B w vn vm vk hp
  obtain ⟨an, cn, am, cm, ak, ck, rfl, rfl, rfl⟩ := hp.form
  unfold agT
  simp only [Ty.kind, Ty.name, Ty.n, Ty.flag, Ty.names, Ty.marks, Ty.kids] at hp ⊢
  obtain ⟨lk, hlk⟩ : ∃ l, l = ks.length := ⟨_, rfl⟩
  obtain ⟨ln, hln⟩ : ∃ l, l = ns.length := ⟨_, rfl⟩
  obtain ⟨lm, hlm⟩ : ∃ l, l = ms.length := ⟨_, rfl⟩
  rw [← hlk, ← hln, ← hlm] at hp ⊢
  have HLK : Hid (lk = ks.length) := hlk
  have hl1 : lk ≤ 1000 := by omega
  have hql : q ≤ lk := by omega
  have hb0 : Below w.heap.size w (w.alloc (.cells #[.int .i64 k, .string nm, .int .i64 (q : Int), .bool f, .slice an ln cn, .slice am lm cm, .slice ak lk ck] 26)) := below_alloc _ _
  have HB0 : Hid (Below w.heap.size w (w.alloc (.cells #[.int .i64 k, .string nm, .int .i64 (q : Int), .bool f, .slice an ln cn, .slice am lm cm, .slice ak lk ck] 26))) := hb0
  have HKS : Hid (SlT B (w.alloc (.cells #[.int .i64 k, .string nm, .int .i64 (q : Int), .bool f, .slice an ln cn, .slice am lm cm, .slice ak lk ck] 26)) (.slice ak lk ck) ks) := hp.ks.kept hb0
  have HX0 : Hid ((w.alloc (.cells #[.int .i64 k, .string nm, .int .i64 (q : Int), .bool f, .slice an ln cn, .slice am lm cm, .slice ak lk ck] 26)).heap[w.heap.size]? = some (.cells #[.int .i64 k, .string nm, .int .i64 (q : Int), .bool f, .slice an ln cn, .slice am lm cm, .slice ak lk ck] 26 (0, 0))) := heap_new _ _
  have htl := txtL_len ks
  have HTL : Hid ((txtL ks).length = ks.length) := htl
  have HTX : Hid (∀ i (h : i < ks.length) (h' : i < (txtL ks).length), TxC ks[i] (txtL ks)[i]) := hT
  have H11 : Hid (∀ i (h : i < ks.length) (h' : i < (txtL ks).length), (ks[i]).kind = 11 → 2 ≤ ((txtL ks)[i]).length) := fun i h h' e => by rw [txtL_get ks i h h']; exact txt11 e
  have HKD : Hid (∀ i (h : i < ks.length), ((kdL ks)[i]? = some 11 ↔ (ks[i]).kind = 11)) := fun i h => by rw [kdL_get, List.getElem?_eq_getElem h]; simp
  have h1 := rtexts_any HKS.out (txtL ks) htl hk HTX.out 0 q hq
  rw [List.drop_zero] at h1
  have HR2 : Hid (∀ W, Below (w.alloc (.cells #[.int .i64 k, .string nm, .int .i64 (q : Int), .bool f, .slice an ln cn, .slice am lm cm, .slice ak lk ck] 26)).heap.size (w.alloc (.cells #[.int .i64 k, .string nm, .int .i64 (q : Int), .bool f, .slice an ln cn, .slice am lm cm, .slice ak lk ck] 26)) W → Calls Try.prog 46 #[.slice ak lk ck, .int .i64 q, .int .i64 lk] W (TsQ W ((txtL ks).drop q))) := fun W h => by
    have := rtexts_any (HKS.out.kept h) (txtL ks) htl hk HTX.out q lk (by omega)
    rwa [List.take_of_length_le (by omega)] at this
  obtain ⟨a0, c0, e0, hlen, hel⟩ := HKS.out.open
  obtain ⟨rfl, hq9, rfl⟩ : ak = a0 ∧ lk = ks.length ∧ ck = c0 := by simpa using e0
  have HEL : Hid (∀ i (hi : i < ks.length), ∃ b o, ak = some ⟨b, o, none⟩ ∧ b < (w.alloc (.cells #[.int .i64 k, .string nm, .int .i64 (q : Int), .bool f, .slice an ln cn, .slice am lm cm, .slice ak lk ck] 26)).heap.size ∧ B b ∧ (ks[i]).lies B (w.alloc (.cells #[.int .i64 k, .string nm, .int .i64 (q : Int), .bool f, .slice an ln cn, .slice am lm cm, .slice ak lk ck] 26)) b (o + i * 7)) := hel
  have hsp := sumB_split (txtL ks) q
  have HSP : Hid (sumB ((txtL ks).take q) + sumB ((txtL ks).drop q) ≤ 100000000) := by show _ ≤ _; omega
  have htk : ((txtL ks).take q).length = q := by rw [List.length_take]; omega
  have HTK : Hid (((txtL ks).take q).length = q) := htk
  have hrl : ((txtL ks).drop q).length = lk - q := by rw [List.length_drop]; omega
  have HRL : Hid (((txtL ks).drop q).length = lk - q) := hrl
  have HTG : Hid (∀ (h : q - 1 < ks.length) (h' : q - 1 < ((txtL ks).take q).length), (ks[q - 1]).kind = 11 → 2 ≤ (((txtL ks).take q)[q - 1]).length) := fun h h' e => by
    rw [List.getElem_take]; exact H11.out (q - 1) h (by rw [HTL.out]; exact h) e
  obtain ⟨R, hR⟩ : ∃ R, R = sgB q f (kdL ks) (txtL ks) := ⟨_, rfl⟩
  rw [← hR]
  have HR : Hid (R = sgB q f (kdL ks) (txtL ks)) := hR
  unfold sgB at hR
  have HRF : Hid (R = [40] ++ joinF [44, 32] true (if f then dots (kdL ks) ((txtL ks).take q) else (txtL ks).take q) ++ [41] ++ (match (txtL ks).drop q with | [] => [] | [x] => [32] ++ x | r => [32, 40] ++ joinF [44, 32] true r ++ [41])) := hR
  clear hp hT hb hsp hR hb0 htl hlk hln hlm hk hq HKS HTX HR htk hrl H11 e0 hel hq9 hlen
  generalize hP : (txtL ks).take q = P at *
  generalize hQ : (txtL ks).drop q = Q at *
  clear hP hQ
  cases f with
  | false =>
    have HPP : Hid (R = [40] ++ joinF [44, 32] true P ++ [41] ++ (match Q with | [] => [] | [x] => [32] ++ x | r => [32, 40] ++ joinF [44, 32] true r ++ [41])) := HRF.out
    clear HRF
    obtain ⟨s0, s1, s2, s3, s4, s5, s6⟩ := bx7 HX0.out
    go_enter Try.func47, Try.ntmps47
    go_wp2_with fail
    generalize w.alloc (.cells #[.int .i64 k, .string nm, .int .i64 (q : Int), .bool false, .slice an ln cn, .slice am lm cm, .slice ak lk ck] 26) = W0 at *
    go_at_call 46
    refine h1.mono ?_
    intro e w1 hq
    obtain ⟨a1, c1, rfl, hr1⟩ := hq.ex
    rw [HTK.out] at hr1
    have HB1 : Hid (Below W0.heap.size W0 w1) := hq.bl
    have HRW1 : Hid (SRow w1 W0.heap.size (.slice a1 P.length c1) P) := by rw [HTK.out]; exact hr1
    have hPq : P.length = q := HTK.out
    clear s0 s1 s2 s3 s4 s5 s6
    obtain ⟨s0, s1, s2, s3, s4, s5, s6⟩ := bx7 (blk_kept hq.bl HX0.out)
    rw [hPq]
    clear hq hr1 h1
    go_wp2_with fail
    have HPS : Hid (sumB P + 2 * P.length ≤ 150000000) := by have := HSP.out; show _ ≤ _; omega
    have HW2 : Hid (Below W0.heap.size W0 w1) := HB1.out
    have HRW : Hid (SRow w1 W0.heap.size (.slice a1 q c1) P) := by have := HRW1.out; rwa [hPq] at this
    generalize P = PP at *
    clear s0 s1 s2 s3 s4 s5 s6
    obtain ⟨s0, s1, s2, s3, s4, s5, s6⟩ := bx7 (blk_kept HW2.out HX0.out)
    have HPL : Hid ((joinF [44, 32] true PP).length ≤ 200000000) := by
      have := joinF_len [44, 32] PP true
      have := HPS.out
      show _ ≤ _
      simp at *; omega
    have hJ := rjoin_any HRW.out.txb [44, 32] (by have := HPL.out; omega) (by simp)
    have hzJ : (bs (joinF [44, 32] true PP)).size ≤ 200000000 := by rw [bs_size]; exact HPL.out
    have HE1 : Hid ((⟨#[40]⟩ : ByteArray) ++ bs (joinF [44, 32] true PP) ++ ⟨#[41]⟩ = bs ([40] ++ joinF [44, 32] true PP ++ [41])) := by
      show _ = _
      rw [show (⟨#[40]⟩ : ByteArray) = bs [40] from rfl, show (⟨#[41]⟩ : ByteArray) = bs [41] from rfl, bs_app, bs_app]
    have hQs : sumB Q ≤ 100000000 := by have := HSP.out; omega
    rw [show (bs [44, 32]) = ⟨#[44, 32]⟩ from rfl] at hJ
    rcases Q with _ | ⟨x, _ | ⟨y, r⟩⟩
    · have HRE : Hid (bs R = (⟨#[40]⟩ : ByteArray) ++ bs (joinF [44, 32] true PP) ++ ⟨#[41]⟩) := by show _ = _; rw [HE1.out, HPP.out]; simp
      clear HPL HPS HPP HE1
      generalize bs (joinF [44, 32] true PP) = JJ at *
      go_at_call 45
      refine hJ.mono ?_
      rintro e w9 ⟨rfl, hw9⟩
      obtain rfl := hw9.symm
      clear hJ
      go_wp2_with (first
        | (go_at_call 46; refine (HR2.out _ HW2.out).mono ?_; intro e w3 hq; obtain ⟨a3, c3, rfl, hr3⟩ := hq.ex; have HB3 : Hid (Below W0.heap.size W0 w3) := HW2.out.trans (hq.bl.mono HW2.out.size);  clear hq hr3))
      go_ret
      exact ⟨by rw [HRE.out]; rfl, HB0.out.trans (HB3.out.mono HB0.out.size)⟩
    · have hx : (bs x).size ≤ 100000000 := by rw [bs_size]; simp [sumB] at hQs; exact hQs
      have HRE : Hid (bs R = (⟨#[40]⟩ : ByteArray) ++ bs (joinF [44, 32] true PP) ++ ⟨#[41]⟩ ++ ⟨#[32]⟩ ++ bs x) := by
        show _ = _
        rw [HE1.out, show (⟨#[32]⟩ : ByteArray) = bs [32] from rfl, bs_app, bs_app, HPP.out]; simp
      clear HPL HPS HPP HE1 hQs
      generalize bs (joinF [44, 32] true PP) = JJ at *
      go_at_call 45
      refine hJ.mono ?_
      rintro e w9 ⟨rfl, hw9⟩
      obtain rfl := hw9.symm
      clear hJ
      go_wp2_with (first
        | (go_at_call 46; refine (HR2.out _ HW2.out).mono ?_; intro e w3 hq; obtain ⟨a3, c3, rfl, hr3⟩ := hq.ex; have HB3 : Hid (Below W0.heap.size W0 w3) := HW2.out.trans (hq.bl.mono HW2.out.size); obtain ⟨g3, o3, hg3, ht3⟩ := hr3.txb.get (i := 0) (by simp); obtain rfl := hg3; simp only [List.getElem_cons_zero, Nat.add_zero] at ht3; clear hq hr3))
      go_ret
      exact ⟨by rw [HRE.out]; rfl, HB0.out.trans (HB3.out.mono HB0.out.size)⟩
    · obtain ⟨lq, hlq⟩ : ∃ l, l = (x :: y :: r).length := ⟨_, rfl⟩
      have HLQ : Hid (lq = (x :: y :: r).length) := hlq
      have hl2 : 2 ≤ lq := by rw [hlq]; simp
      have hl3 : lq ≤ 1000 := by have := HRL.out; omega
      have kq1 : ((lq : Int) == 1) = false := nat_bne (b := 1) (by omega)
      have kq2 : (1 : Int) < (lq : Int) := by omega
      have HQL : Hid ((joinF [44, 32] true (x :: y :: r)).length ≤ 200000000) := by
        have := joinF_len [44, 32] (x :: y :: r) true
        rw [← hlq] at this
        show _ ≤ _
        simp at this hQs ⊢; omega
      have hzQ : (bs (joinF [44, 32] true (x :: y :: r))).size ≤ 200000000 := by rw [bs_size]; exact HQL.out
      have HRE : Hid (bs R = (⟨#[40]⟩ : ByteArray) ++ bs (joinF [44, 32] true PP) ++ ⟨#[41]⟩ ++ ⟨#[32, 40]⟩ ++ bs (joinF [44, 32] true (x :: y :: r)) ++ ⟨#[41]⟩) := by
        show _ = _
        rw [HE1.out, show (⟨#[32, 40]⟩ : ByteArray) = bs [32, 40] from rfl, show (⟨#[41]⟩ : ByteArray) = bs [41] from rfl, bs_app, bs_app, bs_app, HPP.out]; simp
      clear HPL HPS HPP HE1 hQs hlq
      generalize hQQ : x :: y :: r = QQ at *
      clear hQQ
      generalize bs (joinF [44, 32] true PP) = JJ at *
      go_at_call 45
      refine hJ.mono ?_
      rintro e w9 ⟨rfl, hw9⟩
      obtain rfl := hw9.symm
      clear hJ
      go_wp2_with (first
        | (go_at_call 46; refine (HR2.out _ HW2.out).mono ?_; intro e w3 hq; obtain ⟨a3, c3, rfl, hr3⟩ := hq.ex; have HB3 : Hid (Below W0.heap.size W0 w3) := HW2.out.trans (hq.bl.mono HW2.out.size); rw [← HLQ.out] at hr3 ⊢; have hJ2 := rjoin_any hr3.txb [44, 32] (by have := HQL.out; omega) (by simp); rw [show (bs [44, 32]) = ⟨#[44, 32]⟩ from rfl] at hJ2; generalize bs (joinF [44, 32] true QQ) = J2 at *; clear hq hr3)
        | (go_at_call 45; refine hJ2.mono ?_; rintro e w9 ⟨rfl, hw9⟩; obtain rfl := hw9.symm; clear hJ2))
      go_ret
      exact ⟨by rw [HRE.out]; rfl, HB0.out.trans (HB3.out.mono HB0.out.size)⟩
  | true =>
    by_cases hq0 : q = 0
    · have HP0 : Hid (P = []) := List.eq_nil_of_length_eq_zero (by rw [HTK.out, hq0])
      have kq0 : decide ((0 : Int) ≤ (q : Int) - 1) = false := decide_eq_false (by omega)
      have kq2 : ¬ (1 : Int) ≤ (q : Int) := by omega
      have kq3 : ¬ 1 ≤ q := by omega
      have kq4 : ¬ (0 : Int) ≤ (q : Int) - 1 := by omega
      have kq5 : IntKind.i64.wrap ((q : Int) - 1) = (q : Int) - 1 := by rw [IntKind.wrap_i64]; omega
      clear hq0
      have HPP : Hid (R = [40] ++ joinF [44, 32] true P ++ [41] ++ (match Q with | [] => [] | [x] => [32] ++ x | r => [32, 40] ++ joinF [44, 32] true r ++ [41])) := by
        show _ = _
        rw [HRF.out, HP0.out]; rfl
      clear HRF
      obtain ⟨s0, s1, s2, s3, s4, s5, s6⟩ := bx7 HX0.out
      go_enter Try.func47, Try.ntmps47
      go_wp2_with fail
      generalize w.alloc (.cells #[.int .i64 k, .string nm, .int .i64 (q : Int), .bool true, .slice an ln cn, .slice am lm cm, .slice ak lk ck] 26) = W0 at *
      go_at_call 46
      refine h1.mono ?_
      intro e w1 hq
      obtain ⟨a1, c1, rfl, hr1⟩ := hq.ex
      rw [HTK.out] at hr1
      have HB1 : Hid (Below W0.heap.size W0 w1) := hq.bl
      have HRW1 : Hid (SRow w1 W0.heap.size (.slice a1 P.length c1) P) := by rw [HTK.out]; exact hr1
      have hPq : P.length = q := HTK.out
      clear s0 s1 s2 s3 s4 s5 s6
      obtain ⟨s0, s1, s2, s3, s4, s5, s6⟩ := bx7 (blk_kept hq.bl HX0.out)
      rw [hPq]
      clear hq hr1 h1
      go_wp2_with fail
      have HPS : Hid (sumB P + 2 * P.length ≤ 150000000) := by have := HSP.out; show _ ≤ _; omega
      have HW2 : Hid (Below W0.heap.size W0 w1) := HB1.out
      have HRW : Hid (SRow w1 W0.heap.size (.slice a1 q c1) P) := by have := HRW1.out; rwa [hPq] at this
      generalize P = PP at *
      clear s0 s1 s2 s3 s4 s5 s6
      obtain ⟨s0, s1, s2, s3, s4, s5, s6⟩ := bx7 (blk_kept HW2.out HX0.out)
      have HPL : Hid ((joinF [44, 32] true PP).length ≤ 200000000) := by
        have := joinF_len [44, 32] PP true
        have := HPS.out
        show _ ≤ _
        simp at *; omega
      have hJ := rjoin_any HRW.out.txb [44, 32] (by have := HPL.out; omega) (by simp)
      have hzJ : (bs (joinF [44, 32] true PP)).size ≤ 200000000 := by rw [bs_size]; exact HPL.out
      have HE1 : Hid ((⟨#[40]⟩ : ByteArray) ++ bs (joinF [44, 32] true PP) ++ ⟨#[41]⟩ = bs ([40] ++ joinF [44, 32] true PP ++ [41])) := by
        show _ = _
        rw [show (⟨#[40]⟩ : ByteArray) = bs [40] from rfl, show (⟨#[41]⟩ : ByteArray) = bs [41] from rfl, bs_app, bs_app]
      have hQs : sumB Q ≤ 100000000 := by have := HSP.out; omega
      rw [show (bs [44, 32]) = ⟨#[44, 32]⟩ from rfl] at hJ
      rcases Q with _ | ⟨x, _ | ⟨y, r⟩⟩
      · have HRE : Hid (bs R = (⟨#[40]⟩ : ByteArray) ++ bs (joinF [44, 32] true PP) ++ ⟨#[41]⟩) := by show _ = _; rw [HE1.out, HPP.out]; simp
        clear HPL HPS HPP HE1
        generalize bs (joinF [44, 32] true PP) = JJ at *
        go_at_call 45
        refine hJ.mono ?_
        rintro e w9 ⟨rfl, hw9⟩
        obtain rfl := hw9.symm
        clear hJ
        go_wp2_with (first
          | (go_at_call 46; refine (HR2.out _ HW2.out).mono ?_; intro e w3 hq; obtain ⟨a3, c3, rfl, hr3⟩ := hq.ex; have HB3 : Hid (Below W0.heap.size W0 w3) := HW2.out.trans (hq.bl.mono HW2.out.size);  clear hq hr3))
        go_ret
        exact ⟨by rw [HRE.out]; rfl, HB0.out.trans (HB3.out.mono HB0.out.size)⟩
      · have hx : (bs x).size ≤ 100000000 := by rw [bs_size]; simp [sumB] at hQs; exact hQs
        have HRE : Hid (bs R = (⟨#[40]⟩ : ByteArray) ++ bs (joinF [44, 32] true PP) ++ ⟨#[41]⟩ ++ ⟨#[32]⟩ ++ bs x) := by
          show _ = _
          rw [HE1.out, show (⟨#[32]⟩ : ByteArray) = bs [32] from rfl, bs_app, bs_app, HPP.out]; simp
        clear HPL HPS HPP HE1 hQs
        generalize bs (joinF [44, 32] true PP) = JJ at *
        go_at_call 45
        refine hJ.mono ?_
        rintro e w9 ⟨rfl, hw9⟩
        obtain rfl := hw9.symm
        clear hJ
        go_wp2_with (first
          | (go_at_call 46; refine (HR2.out _ HW2.out).mono ?_; intro e w3 hq; obtain ⟨a3, c3, rfl, hr3⟩ := hq.ex; have HB3 : Hid (Below W0.heap.size W0 w3) := HW2.out.trans (hq.bl.mono HW2.out.size); obtain ⟨g3, o3, hg3, ht3⟩ := hr3.txb.get (i := 0) (by simp); obtain rfl := hg3; simp only [List.getElem_cons_zero, Nat.add_zero] at ht3; clear hq hr3))
        go_ret
        exact ⟨by rw [HRE.out]; rfl, HB0.out.trans (HB3.out.mono HB0.out.size)⟩
      · obtain ⟨lq, hlq⟩ : ∃ l, l = (x :: y :: r).length := ⟨_, rfl⟩
        have HLQ : Hid (lq = (x :: y :: r).length) := hlq
        have hl2 : 2 ≤ lq := by rw [hlq]; simp
        have hl3 : lq ≤ 1000 := by have := HRL.out; omega
        have kq1 : ((lq : Int) == 1) = false := nat_bne (b := 1) (by omega)
        have kq2 : (1 : Int) < (lq : Int) := by omega
        have HQL : Hid ((joinF [44, 32] true (x :: y :: r)).length ≤ 200000000) := by
          have := joinF_len [44, 32] (x :: y :: r) true
          rw [← hlq] at this
          show _ ≤ _
          simp at this hQs ⊢; omega
        have hzQ : (bs (joinF [44, 32] true (x :: y :: r))).size ≤ 200000000 := by rw [bs_size]; exact HQL.out
        have HRE : Hid (bs R = (⟨#[40]⟩ : ByteArray) ++ bs (joinF [44, 32] true PP) ++ ⟨#[41]⟩ ++ ⟨#[32, 40]⟩ ++ bs (joinF [44, 32] true (x :: y :: r)) ++ ⟨#[41]⟩) := by
          show _ = _
          rw [HE1.out, show (⟨#[32, 40]⟩ : ByteArray) = bs [32, 40] from rfl, show (⟨#[41]⟩ : ByteArray) = bs [41] from rfl, bs_app, bs_app, bs_app, HPP.out]; simp
        clear HPL HPS HPP HE1 hQs hlq
        generalize hQQ : x :: y :: r = QQ at *
        clear hQQ
        generalize bs (joinF [44, 32] true PP) = JJ at *
        go_at_call 45
        refine hJ.mono ?_
        rintro e w9 ⟨rfl, hw9⟩
        obtain rfl := hw9.symm
        clear hJ
        go_wp2_with (first
          | (go_at_call 46; refine (HR2.out _ HW2.out).mono ?_; intro e w3 hq; obtain ⟨a3, c3, rfl, hr3⟩ := hq.ex; have HB3 : Hid (Below W0.heap.size W0 w3) := HW2.out.trans (hq.bl.mono HW2.out.size); rw [← HLQ.out] at hr3 ⊢; have hJ2 := rjoin_any hr3.txb [44, 32] (by have := HQL.out; omega) (by simp); rw [show (bs [44, 32]) = ⟨#[44, 32]⟩ from rfl] at hJ2; generalize bs (joinF [44, 32] true QQ) = J2 at *; clear hq hr3)
          | (go_at_call 45; refine hJ2.mono ?_; rintro e w9 ⟨rfl, hw9⟩; obtain rfl := hw9.symm; clear hJ2))
        go_ret
        exact ⟨by rw [HRE.out]; rfl, HB0.out.trans (HB3.out.mono HB0.out.size)⟩
    · obtain ⟨p, hqp⟩ : ∃ p, q = p + 1 := ⟨q - 1, by omega⟩
      have hpk : p < ks.length := by have := HLK.out; omega
      have kq1 : (q : Int) - 1 = (p : Int) := by omega
      have zq : (p : Int) < (q : Int) := by omega
      obtain ⟨b, o, rfl, hbw, _, hli⟩ := HEL.out p hpk
      obtain ⟨e0, _, _, _, _, _, _, _, _, _, _⟩ := lies_iff.1 hli
      have hpP : p < P.length := by rw [HTK.out]; omega
      have HDS : Hid (dots (kdL ks) P = P.set p (if (ks[p]).kind = 11 then [46, 46, 46] ++ ([46, 46, 46] ++ P[p]).drop 5 else [46, 46, 46] ++ P[p])) := by
        show _ = _
        rw [dots_set (kdL ks) P (by omega)]
        have e1 : P.length - 1 = p := by rw [HTK.out]; omega
        simp only [e1]
        congr 1
        by_cases h : (ks[p]).kind = 11
        · rw [if_pos h, if_pos ((HKD.out p hpk).2 h)]
        · rw [if_neg h, if_neg (fun e => h ((HKD.out p hpk).1 e))]
      have hx2 : (ks[p]).kind = 11 → 2 ≤ (P[p]).length := fun e => by
        have hq1 : q - 1 = p := by omega
        have h9 := HTG.out
        simp only [hq1] at h9
        exact h9 hpk hpP e
      have hxl : (P[p]).length ≤ 100000000 := by
        have h1 := HSP.out
        have h2 := sumB_split P p
        rw [List.drop_eq_getElem_cons hpP] at h2
        simp only [sumB] at h2
        omega
      have hsz : (bs P[p]).size ≤ 100000000 := by rw [bs_size]; exact hxl
      have zp : (0 : Int) ≤ (p : Int) := by omega
      have zl : (p : Int) < (lk : Int) := by omega
      have kw : IntKind.i64.wrap (p : Int) = (p : Int) := by rw [IntKind.wrap_i64]; omega
      have HPS0 : Hid (sumB P ≤ 100000000) := by have := HSP.out; show _ ≤ _; omega
      clear hli HEL HKD HTG HLK hq0
      have HQP : Hid (q = p + 1) := hqp
      clear hqp
      obtain ⟨kd, hkd⟩ : ∃ kd, kd = (ks[p]).kind := ⟨_, rfl⟩
      rw [← hkd] at e0 hx2 HDS
      clear hkd
      have E0 : Hid ((w.alloc (.cells #[.int .i64 k, .string nm, .int .i64 (q : Int), .bool true, .slice an ln cn, .slice am lm cm, .slice (some ⟨b, o, none⟩) lk ck] 26)).cell? ⟨b, o + p * 7, none⟩ = some (.int .i64 kd)) := e0
      clear e0
      by_cases h11 : kd = 11
      · subst h11
        have hx9 := hx2 rfl
        have hz5 : (5 : Int) ≤ ((⟨#[46, 46, 46]⟩ ++ bs P[p] : ByteArray).size : Int) := by
          rw [show (⟨#[46, 46, 46]⟩ : ByteArray) = bs [46, 46, 46] from rfl, bs_app, bs_size]; simp; omega
        have HYB : Hid ((⟨#[46, 46, 46]⟩ : ByteArray) ++ bs P[p] = bs ([46, 46, 46] ++ P[p])) := by show _ = _; rw [show (⟨#[46, 46, 46]⟩ : ByteArray) = bs [46, 46, 46] from rfl, bs_app]
        have HV2 : Hid ((⟨#[46, 46, 46]⟩ : ByteArray) ++ (⟨#[46, 46, 46]⟩ ++ bs P[p]).extract 5 (3 + (bs P[p]).size) = bs ([46, 46, 46] ++ ([46, 46, 46] ++ P[p]).drop 5)) := by
          show _ = _
          have h9 : 3 + (bs P[p]).size = (bs ([46, 46, 46] ++ P[p])).size := by rw [bs_size, bs_size, List.length_append]; simp
          rw [HYB.out, h9, ext_drop, bs_list, show (⟨#[46, 46, 46]⟩ : ByteArray) = bs [46, 46, 46] from rfl, bs_app]
        have HPP : Hid (R = [40] ++ joinF [44, 32] true (P.set p ([46, 46, 46] ++ ([46, 46, 46] ++ P[p]).drop 5)) ++ [41] ++ (match Q with | [] => [] | [x] => [32] ++ x | r => [32, 40] ++ joinF [44, 32] true r ++ [41])) := by
          show _ = _
          rw [HRF.out, if_pos rfl, HDS.out, if_pos rfl]
        have HPS : Hid (sumB (P.set p ([46, 46, 46] ++ ([46, 46, 46] ++ P[p]).drop 5)) + 2 * (P.set p ([46, 46, 46] ++ ([46, 46, 46] ++ P[p]).drop 5)).length ≤ 150000000) := by
          have h8 := (dots_len (kdL ks) P).2
          rw [HDS.out, if_pos rfl] at h8
          have := HPS0.out
          have h7 := HTK.out
          show _ ≤ _
          rw [List.length_set]; omega
        clear hx2 hx9 HRF HDS
        obtain ⟨s0, s1, s2, s3, s4, s5, s6⟩ := bx7 HX0.out
        go_enter Try.func47, Try.ntmps47
        go_wp2_with fail
        generalize w.alloc (.cells #[.int .i64 k, .string nm, .int .i64 (q : Int), .bool true, .slice an ln cn, .slice am lm cm, .slice (some ⟨b, o, none⟩) lk ck] 26) = W0 at *
        go_at_call 46
        refine h1.mono ?_
        intro e w1 hq
        obtain ⟨a1, c1, rfl, hr1⟩ := hq.ex
        rw [HTK.out] at hr1
        have HB1 : Hid (Below W0.heap.size W0 w1) := hq.bl
        have HRW1 : Hid (SRow w1 W0.heap.size (.slice a1 P.length c1) P) := by rw [HTK.out]; exact hr1
        have hPq : P.length = q := HTK.out
        clear s0 s1 s2 s3 s4 s5 s6
        obtain ⟨s0, s1, s2, s3, s4, s5, s6⟩ := bx7 (blk_kept hq.bl HX0.out)
        rw [hPq]
        clear hq hr1 h1
        obtain ⟨g1, cap1, hv1, hg1, hlt1⟩ := World.ownsRow.form HRW1.out (by rw [hPq, HQP.out]; omega)
        obtain ⟨rfl, hq7, rfl⟩ : a1 = some ⟨g1, 0, none⟩ ∧ P.length = P.length ∧ c1 = cap1 := by simpa using hv1
        clear hq7 hv1
        obtain ⟨y0, y1⟩ := SRow.get HRW1.out hpP
        have e0 := kept_cell HB1.out E0.out
        have hbg : b ≠ g1 := by omega
        have hgb : g1 ≠ b := by omega
        have hwl : w.heap.size < W0.heap.size := (Array.getElem?_eq_some_iff.1 HX0.out).1
        have hwg : w.heap.size ≠ g1 := by omega
        have hgw : g1 ≠ w.heap.size := by omega
        have kq5 : IntKind.i64.wrap ((q : Int) - 1) = (q : Int) - 1 := by rw [IntKind.wrap_i64]; omega
        have kq6 : (0 : Int) ≤ (q : Int) - 1 := by omega
        go_wp2_with fail
        have HRW : Hid (SRow ((w1.setCell ⟨g1, p, none⟩ (.string (⟨#[46, 46, 46]⟩ ++ bs P[p]))).setCell ⟨g1, p, none⟩ (.string (⟨#[46, 46, 46]⟩ ++ (⟨#[46, 46, 46]⟩ ++ bs P[p]).extract 5 (3 + (bs P[p]).size)))) W0.heap.size (.slice (some ⟨g1, 0, none⟩) q c1) (P.set p ([46, 46, 46] ++ ([46, 46, 46] ++ P[p]).drop 5))) := by
          have h8 := SRow.stored HRW1.out p ([46, 46, 46] ++ P[p])
          have h9 : SRow (w1.setCell ⟨g1, p, none⟩ (.string (bs ([46, 46, 46] ++ P[p])))) W0.heap.size (.slice (some ⟨g1, 0, none⟩) (P.set p ([46, 46, 46] ++ P[p])).length c1) (P.set p ([46, 46, 46] ++ P[p])) := by rw [List.length_set]; exact h8
          have h10 := SRow.stored h9 p ([46, 46, 46] ++ ([46, 46, 46] ++ P[p]).drop 5)
          rw [List.set_set, List.length_set, hPq, ← HV2.out, ← HYB.out] at h10
          rw [HYB.out] at h10 ⊢
          exact h10
        have HW2 : Hid (Below W0.heap.size W0 ((w1.setCell ⟨g1, p, none⟩ (.string (⟨#[46, 46, 46]⟩ ++ bs P[p]))).setCell ⟨g1, p, none⟩ (.string (⟨#[46, 46, 46]⟩ ++ (⟨#[46, 46, 46]⟩ ++ bs P[p]).extract 5 (3 + (bs P[p]).size))))) := below_kx1 HB1.out (kx_set.trans kx_set) (by omega)
        clear HYB HV2 hz5
        generalize (w1.setCell ⟨g1, p, none⟩ (.string (⟨#[46, 46, 46]⟩ ++ bs P[p]))).setCell ⟨g1, p, none⟩ (.string (⟨#[46, 46, 46]⟩ ++ (⟨#[46, 46, 46]⟩ ++ bs P[p]).extract 5 (3 + (bs P[p]).size))) = w2 at *
        generalize P.set p ([46, 46, 46] ++ ([46, 46, 46] ++ P[p]).drop 5) = PP at *
        clear s0 s1 s2 s3 s4 s5 s6
        obtain ⟨s0, s1, s2, s3, s4, s5, s6⟩ := bx7 (blk_kept HW2.out HX0.out)
        have HPL : Hid ((joinF [44, 32] true PP).length ≤ 200000000) := by
          have := joinF_len [44, 32] PP true
          have := HPS.out
          show _ ≤ _
          simp at *; omega
        have hJ := rjoin_any HRW.out.txb [44, 32] (by have := HPL.out; omega) (by simp)
        have hzJ : (bs (joinF [44, 32] true PP)).size ≤ 200000000 := by rw [bs_size]; exact HPL.out
        have HE1 : Hid ((⟨#[40]⟩ : ByteArray) ++ bs (joinF [44, 32] true PP) ++ ⟨#[41]⟩ = bs ([40] ++ joinF [44, 32] true PP ++ [41])) := by
          show _ = _
          rw [show (⟨#[40]⟩ : ByteArray) = bs [40] from rfl, show (⟨#[41]⟩ : ByteArray) = bs [41] from rfl, bs_app, bs_app]
        have hQs : sumB Q ≤ 100000000 := by have := HSP.out; omega
        rw [show (bs [44, 32]) = ⟨#[44, 32]⟩ from rfl] at hJ
        rcases Q with _ | ⟨x, _ | ⟨y, r⟩⟩
        · have HRE : Hid (bs R = (⟨#[40]⟩ : ByteArray) ++ bs (joinF [44, 32] true PP) ++ ⟨#[41]⟩) := by show _ = _; rw [HE1.out, HPP.out]; simp
          clear HPL HPS HPP HE1
          generalize bs (joinF [44, 32] true PP) = JJ at *
          go_at_call 45
          refine hJ.mono ?_
          rintro e w9 ⟨rfl, hw9⟩
          obtain rfl := hw9.symm
          clear hJ
          go_wp2_with (first
            | (go_at_call 46; refine (HR2.out _ HW2.out).mono ?_; intro e w3 hq; obtain ⟨a3, c3, rfl, hr3⟩ := hq.ex; have HB3 : Hid (Below W0.heap.size W0 w3) := HW2.out.trans (hq.bl.mono HW2.out.size);  clear hq hr3))
          go_ret
          exact ⟨by rw [HRE.out]; rfl, HB0.out.trans (HB3.out.mono HB0.out.size)⟩
        · have hx : (bs x).size ≤ 100000000 := by rw [bs_size]; simp [sumB] at hQs; exact hQs
          have HRE : Hid (bs R = (⟨#[40]⟩ : ByteArray) ++ bs (joinF [44, 32] true PP) ++ ⟨#[41]⟩ ++ ⟨#[32]⟩ ++ bs x) := by
            show _ = _
            rw [HE1.out, show (⟨#[32]⟩ : ByteArray) = bs [32] from rfl, bs_app, bs_app, HPP.out]; simp
          clear HPL HPS HPP HE1 hQs
          generalize bs (joinF [44, 32] true PP) = JJ at *
          go_at_call 45
          refine hJ.mono ?_
          rintro e w9 ⟨rfl, hw9⟩
          obtain rfl := hw9.symm
          clear hJ
          go_wp2_with (first
            | (go_at_call 46; refine (HR2.out _ HW2.out).mono ?_; intro e w3 hq; obtain ⟨a3, c3, rfl, hr3⟩ := hq.ex; have HB3 : Hid (Below W0.heap.size W0 w3) := HW2.out.trans (hq.bl.mono HW2.out.size); obtain ⟨g3, o3, hg3, ht3⟩ := hr3.txb.get (i := 0) (by simp); obtain rfl := hg3; simp only [List.getElem_cons_zero, Nat.add_zero] at ht3; clear hq hr3))
          go_ret
          exact ⟨by rw [HRE.out]; rfl, HB0.out.trans (HB3.out.mono HB0.out.size)⟩
        · obtain ⟨lq, hlq⟩ : ∃ l, l = (x :: y :: r).length := ⟨_, rfl⟩
          have HLQ : Hid (lq = (x :: y :: r).length) := hlq
          have hl2 : 2 ≤ lq := by rw [hlq]; simp
          have hl3 : lq ≤ 1000 := by have := HRL.out; omega
          have kq1 : ((lq : Int) == 1) = false := nat_bne (b := 1) (by omega)
          have kq2 : (1 : Int) < (lq : Int) := by omega
          have HQL : Hid ((joinF [44, 32] true (x :: y :: r)).length ≤ 200000000) := by
            have := joinF_len [44, 32] (x :: y :: r) true
            rw [← hlq] at this
            show _ ≤ _
            simp at this hQs ⊢; omega
          have hzQ : (bs (joinF [44, 32] true (x :: y :: r))).size ≤ 200000000 := by rw [bs_size]; exact HQL.out
          have HRE : Hid (bs R = (⟨#[40]⟩ : ByteArray) ++ bs (joinF [44, 32] true PP) ++ ⟨#[41]⟩ ++ ⟨#[32, 40]⟩ ++ bs (joinF [44, 32] true (x :: y :: r)) ++ ⟨#[41]⟩) := by
            show _ = _
            rw [HE1.out, show (⟨#[32, 40]⟩ : ByteArray) = bs [32, 40] from rfl, show (⟨#[41]⟩ : ByteArray) = bs [41] from rfl, bs_app, bs_app, bs_app, HPP.out]; simp
          clear HPL HPS HPP HE1 hQs hlq
          generalize hQQ : x :: y :: r = QQ at *
          clear hQQ
          generalize bs (joinF [44, 32] true PP) = JJ at *
          go_at_call 45
          refine hJ.mono ?_
          rintro e w9 ⟨rfl, hw9⟩
          obtain rfl := hw9.symm
          clear hJ
          go_wp2_with (first
            | (go_at_call 46; refine (HR2.out _ HW2.out).mono ?_; intro e w3 hq; obtain ⟨a3, c3, rfl, hr3⟩ := hq.ex; have HB3 : Hid (Below W0.heap.size W0 w3) := HW2.out.trans (hq.bl.mono HW2.out.size); rw [← HLQ.out] at hr3 ⊢; have hJ2 := rjoin_any hr3.txb [44, 32] (by have := HQL.out; omega) (by simp); rw [show (bs [44, 32]) = ⟨#[44, 32]⟩ from rfl] at hJ2; generalize bs (joinF [44, 32] true QQ) = J2 at *; clear hq hr3)
            | (go_at_call 45; refine hJ2.mono ?_; rintro e w9 ⟨rfl, hw9⟩; obtain rfl := hw9.symm; clear hJ2))
          go_ret
          exact ⟨by rw [HRE.out]; rfl, HB0.out.trans (HB3.out.mono HB0.out.size)⟩
      ·
        have HYB : Hid ((⟨#[46, 46, 46]⟩ : ByteArray) ++ bs P[p] = bs ([46, 46, 46] ++ P[p])) := by show _ = _; rw [show (⟨#[46, 46, 46]⟩ : ByteArray) = bs [46, 46, 46] from rfl, bs_app]
        have HPP : Hid (R = [40] ++ joinF [44, 32] true (P.set p ([46, 46, 46] ++ P[p])) ++ [41] ++ (match Q with | [] => [] | [x] => [32] ++ x | r => [32, 40] ++ joinF [44, 32] true r ++ [41])) := by
          show _ = _
          rw [HRF.out, if_pos rfl, HDS.out, if_neg h11]
        have HPS : Hid (sumB (P.set p ([46, 46, 46] ++ P[p])) + 2 * (P.set p ([46, 46, 46] ++ P[p])).length ≤ 150000000) := by
          have h8 := (dots_len (kdL ks) P).2
          rw [HDS.out, if_neg h11] at h8
          have := HPS0.out
          have h7 := HTK.out
          show _ ≤ _
          rw [List.length_set]; omega
        clear hx2 HRF HDS
        obtain ⟨s0, s1, s2, s3, s4, s5, s6⟩ := bx7 HX0.out
        go_enter Try.func47, Try.ntmps47
        go_wp2_with fail
        generalize w.alloc (.cells #[.int .i64 k, .string nm, .int .i64 (q : Int), .bool true, .slice an ln cn, .slice am lm cm, .slice (some ⟨b, o, none⟩) lk ck] 26) = W0 at *
        go_at_call 46
        refine h1.mono ?_
        intro e w1 hq
        obtain ⟨a1, c1, rfl, hr1⟩ := hq.ex
        rw [HTK.out] at hr1
        have HB1 : Hid (Below W0.heap.size W0 w1) := hq.bl
        have HRW1 : Hid (SRow w1 W0.heap.size (.slice a1 P.length c1) P) := by rw [HTK.out]; exact hr1
        have hPq : P.length = q := HTK.out
        clear s0 s1 s2 s3 s4 s5 s6
        obtain ⟨s0, s1, s2, s3, s4, s5, s6⟩ := bx7 (blk_kept hq.bl HX0.out)
        rw [hPq]
        clear hq hr1 h1
        obtain ⟨g1, cap1, hv1, hg1, hlt1⟩ := World.ownsRow.form HRW1.out (by rw [hPq, HQP.out]; omega)
        obtain ⟨rfl, hq7, rfl⟩ : a1 = some ⟨g1, 0, none⟩ ∧ P.length = P.length ∧ c1 = cap1 := by simpa using hv1
        clear hq7 hv1
        obtain ⟨y0, y1⟩ := SRow.get HRW1.out hpP
        have e0 := kept_cell HB1.out E0.out
        have hbg : b ≠ g1 := by omega
        have hgb : g1 ≠ b := by omega
        have hwl : w.heap.size < W0.heap.size := (Array.getElem?_eq_some_iff.1 HX0.out).1
        have hwg : w.heap.size ≠ g1 := by omega
        have hgw : g1 ≠ w.heap.size := by omega
        have kq5 : IntKind.i64.wrap ((q : Int) - 1) = (q : Int) - 1 := by rw [IntKind.wrap_i64]; omega
        have kq6 : (0 : Int) ≤ (q : Int) - 1 := by omega
        go_wp2_with fail
        have HRW : Hid (SRow (w1.setCell ⟨g1, p, none⟩ (.string (⟨#[46, 46, 46]⟩ ++ bs P[p]))) W0.heap.size (.slice (some ⟨g1, 0, none⟩) q c1) (P.set p ([46, 46, 46] ++ P[p]))) := by
          have := SRow.stored HRW1.out p ([46, 46, 46] ++ P[p])
          rw [← HYB.out, hPq] at this
          exact this
        have HW2 : Hid (Below W0.heap.size W0 (w1.setCell ⟨g1, p, none⟩ (.string (⟨#[46, 46, 46]⟩ ++ bs P[p])))) := below_kx1 HB1.out kx_set (by omega)
        clear HYB
        generalize w1.setCell ⟨g1, p, none⟩ (.string (⟨#[46, 46, 46]⟩ ++ bs P[p])) = w2 at *
        generalize P.set p ([46, 46, 46] ++ P[p]) = PP at *
        clear s0 s1 s2 s3 s4 s5 s6
        obtain ⟨s0, s1, s2, s3, s4, s5, s6⟩ := bx7 (blk_kept HW2.out HX0.out)
        have HPL : Hid ((joinF [44, 32] true PP).length ≤ 200000000) := by
          have := joinF_len [44, 32] PP true
          have := HPS.out
          show _ ≤ _
          simp at *; omega
        have hJ := rjoin_any HRW.out.txb [44, 32] (by have := HPL.out; omega) (by simp)
        have hzJ : (bs (joinF [44, 32] true PP)).size ≤ 200000000 := by rw [bs_size]; exact HPL.out
        have HE1 : Hid ((⟨#[40]⟩ : ByteArray) ++ bs (joinF [44, 32] true PP) ++ ⟨#[41]⟩ = bs ([40] ++ joinF [44, 32] true PP ++ [41])) := by
          show _ = _
          rw [show (⟨#[40]⟩ : ByteArray) = bs [40] from rfl, show (⟨#[41]⟩ : ByteArray) = bs [41] from rfl, bs_app, bs_app]
        have hQs : sumB Q ≤ 100000000 := by have := HSP.out; omega
        rw [show (bs [44, 32]) = ⟨#[44, 32]⟩ from rfl] at hJ
        rcases Q with _ | ⟨x, _ | ⟨y, r⟩⟩
        · have HRE : Hid (bs R = (⟨#[40]⟩ : ByteArray) ++ bs (joinF [44, 32] true PP) ++ ⟨#[41]⟩) := by show _ = _; rw [HE1.out, HPP.out]; simp
          clear HPL HPS HPP HE1
          generalize bs (joinF [44, 32] true PP) = JJ at *
          go_at_call 45
          refine hJ.mono ?_
          rintro e w9 ⟨rfl, hw9⟩
          obtain rfl := hw9.symm
          clear hJ
          go_wp2_with (first
            | (go_at_call 46; refine (HR2.out _ HW2.out).mono ?_; intro e w3 hq; obtain ⟨a3, c3, rfl, hr3⟩ := hq.ex; have HB3 : Hid (Below W0.heap.size W0 w3) := HW2.out.trans (hq.bl.mono HW2.out.size);  clear hq hr3))
          go_ret
          exact ⟨by rw [HRE.out]; rfl, HB0.out.trans (HB3.out.mono HB0.out.size)⟩
        · have hx : (bs x).size ≤ 100000000 := by rw [bs_size]; simp [sumB] at hQs; exact hQs
          have HRE : Hid (bs R = (⟨#[40]⟩ : ByteArray) ++ bs (joinF [44, 32] true PP) ++ ⟨#[41]⟩ ++ ⟨#[32]⟩ ++ bs x) := by
            show _ = _
            rw [HE1.out, show (⟨#[32]⟩ : ByteArray) = bs [32] from rfl, bs_app, bs_app, HPP.out]; simp
          clear HPL HPS HPP HE1 hQs
          generalize bs (joinF [44, 32] true PP) = JJ at *
          go_at_call 45
          refine hJ.mono ?_
          rintro e w9 ⟨rfl, hw9⟩
          obtain rfl := hw9.symm
          clear hJ
          go_wp2_with (first
            | (go_at_call 46; refine (HR2.out _ HW2.out).mono ?_; intro e w3 hq; obtain ⟨a3, c3, rfl, hr3⟩ := hq.ex; have HB3 : Hid (Below W0.heap.size W0 w3) := HW2.out.trans (hq.bl.mono HW2.out.size); obtain ⟨g3, o3, hg3, ht3⟩ := hr3.txb.get (i := 0) (by simp); obtain rfl := hg3; simp only [List.getElem_cons_zero, Nat.add_zero] at ht3; clear hq hr3))
          go_ret
          exact ⟨by rw [HRE.out]; rfl, HB0.out.trans (HB3.out.mono HB0.out.size)⟩
        · obtain ⟨lq, hlq⟩ : ∃ l, l = (x :: y :: r).length := ⟨_, rfl⟩
          have HLQ : Hid (lq = (x :: y :: r).length) := hlq
          have hl2 : 2 ≤ lq := by rw [hlq]; simp
          have hl3 : lq ≤ 1000 := by have := HRL.out; omega
          have kq1 : ((lq : Int) == 1) = false := nat_bne (b := 1) (by omega)
          have kq2 : (1 : Int) < (lq : Int) := by omega
          have HQL : Hid ((joinF [44, 32] true (x :: y :: r)).length ≤ 200000000) := by
            have := joinF_len [44, 32] (x :: y :: r) true
            rw [← hlq] at this
            show _ ≤ _
            simp at this hQs ⊢; omega
          have hzQ : (bs (joinF [44, 32] true (x :: y :: r))).size ≤ 200000000 := by rw [bs_size]; exact HQL.out
          have HRE : Hid (bs R = (⟨#[40]⟩ : ByteArray) ++ bs (joinF [44, 32] true PP) ++ ⟨#[41]⟩ ++ ⟨#[32, 40]⟩ ++ bs (joinF [44, 32] true (x :: y :: r)) ++ ⟨#[41]⟩) := by
            show _ = _
            rw [HE1.out, show (⟨#[32, 40]⟩ : ByteArray) = bs [32, 40] from rfl, show (⟨#[41]⟩ : ByteArray) = bs [41] from rfl, bs_app, bs_app, bs_app, HPP.out]; simp
          clear HPL HPS HPP HE1 hQs hlq
          generalize hQQ : x :: y :: r = QQ at *
          clear hQQ
          generalize bs (joinF [44, 32] true PP) = JJ at *
          go_at_call 45
          refine hJ.mono ?_
          rintro e w9 ⟨rfl, hw9⟩
          obtain rfl := hw9.symm
          clear hJ
          go_wp2_with (first
            | (go_at_call 46; refine (HR2.out _ HW2.out).mono ?_; intro e w3 hq; obtain ⟨a3, c3, rfl, hr3⟩ := hq.ex; have HB3 : Hid (Below W0.heap.size W0 w3) := HW2.out.trans (hq.bl.mono HW2.out.size); rw [← HLQ.out] at hr3 ⊢; have hJ2 := rjoin_any hr3.txb [44, 32] (by have := HQL.out; omega) (by simp); rw [show (bs [44, 32]) = ⟨#[44, 32]⟩ from rfl] at hJ2; generalize bs (joinF [44, 32] true QQ) = J2 at *; clear hq hr3)
            | (go_at_call 45; refine hJ2.mono ?_; rintro e w9 ⟨rfl, hw9⟩; obtain rfl := hw9.symm; clear hJ2))
          go_ret
          exact ⟨by rw [HRE.out]; rfl, HB0.out.trans (HB3.out.mono HB0.out.size)⟩
end Go.Proofs.Ytifcikhgbafegaa
