/-
  The document's Text, walked: all kinds but structs and interfaces.
-/
import Derived.Test.YtifcikhgbafegaaSgw
namespace Go.Proofs.Ytifcikhgbafegaa
open Go.RowKit
attribute [local go_sem ↓] Go.wp_at_zero Go.wp_at_succ
set_option maxRecDepth 100000 in
set_option maxHeartbeats 8000000 in
theorem rtext_low (k : Int) (nm : ByteArray) (n : Int) (f : Bool) (ns : List ByteArray) (ms : List Bool) (ks : List Ty) (c14 : k ≠ 14) (c15 : k ≠ 15) (hhd : Ty.Hd (.mk k nm n f ns ms ks)) (hk : ks.length ≤ 1000) (hT : ∀ i (h : i < ks.length) (h' : i < (txtL ks).length), TxC ks[i] (txtL ks)[i]) (hsg : k = 13 → SgC (.mk k nm n f ns ms ks) (sgB n.toNat f (kdL ks) (txtL ks))) (hb : sumB (txtL ks) ≤ 100000000) : TxC (.mk k nm n f ns ms ks) (Ty.txt (.mk k nm n f ns ms ks)) := by
  intro B w vn vm vk hp
  obtain ⟨an, cn, am, cm, ak, ck, rfl, rfl, rfl⟩ := hp.form
  have hptr := hhd.ptr
  simp only [Ty.kind, Ty.kids] at hptr
  clear hhd
  have HPP : Hid (Prt B w (.mk k nm n f ns ms ks) (.slice an ns.length cn) (.slice am ms.length cm) (.slice ak ks.length ck)) := hp
  unfold agT
  simp only [Ty.kind, Ty.name, Ty.n, Ty.flag, Ty.names, Ty.marks, Ty.kids] at hp ⊢
  obtain ⟨lk, hlk⟩ : ∃ l, l = ks.length := ⟨_, rfl⟩
  obtain ⟨ln, hln⟩ : ∃ l, l = ns.length := ⟨_, rfl⟩
  obtain ⟨lm, hlm⟩ : ∃ l, l = ms.length := ⟨_, rfl⟩
  rw [← hlk, ← hln, ← hlm] at hp HPP ⊢
  have HLK : Hid (lk = ks.length) := hlk
  have hl1 : lk ≤ 1000 := by omega
  have hb0 : Below w.heap.size w (w.alloc (.cells #[.int .i64 k, .string nm, .int .i64 n, .bool f, .slice an ln cn, .slice am lm cm, .slice ak lk ck] 26)) := below_alloc _ _
  have HB0 : Hid (Below w.heap.size w (w.alloc (.cells #[.int .i64 k, .string nm, .int .i64 n, .bool f, .slice an ln cn, .slice am lm cm, .slice ak lk ck] 26))) := hb0
  have hz0 := hb0.size
  have HKS : Hid (SlT B (w.alloc (.cells #[.int .i64 k, .string nm, .int .i64 n, .bool f, .slice an ln cn, .slice am lm cm, .slice ak lk ck] 26)) (.slice ak lk ck) ks) := hp.ks.kept hb0
  have HPW : Hid (Prt B (w.alloc (.cells #[.int .i64 k, .string nm, .int .i64 n, .bool f, .slice an ln cn, .slice am lm cm, .slice ak lk ck] 26)) (.mk k nm n f ns ms ks) (.slice an ln cn) (.slice am lm cm) (.slice ak lk ck)) := hp.kept hb0
  have htl := txtL_len ks
  have HTX : Hid (∀ q, q ≤ ks.length → Calls Try.prog 46 #[.slice ak lk ck, .int .i64 (0 : Nat), .int .i64 q] (w.alloc (.cells #[.int .i64 k, .string nm, .int .i64 n, .bool f, .slice an ln cn, .slice am lm cm, .slice ak lk ck] 26)) (TsQ (w.alloc (.cells #[.int .i64 k, .string nm, .int .i64 n, .bool f, .slice an ln cn, .slice am lm cm, .slice ak lk ck] 26)) ((txtL ks).take q))) := fun q hq => by
    have := rtexts_any HKS.out (txtL ks) htl hk hT 0 q hq
    rwa [List.drop_zero] at this
  have HSG : Hid (k = 13 → Calls Try.prog 47 #[.agg #[.int .i64 k, .string nm, .int .i64 n, .bool f, .slice an ln cn, .slice am lm cm, .slice ak lk ck]] (w.alloc (.cells #[.int .i64 k, .string nm, .int .i64 n, .bool f, .slice an ln cn, .slice am lm cm, .slice ak lk ck] 26)) fun e w' => e = .returned (.string (bs (sgB n.toNat f (kdL ks) (txtL ks)))) ∧ Below (w.alloc (.cells #[.int .i64 k, .string nm, .int .i64 n, .bool f, .slice an ln cn, .slice am lm cm, .slice ak lk ck] 26)).heap.size (w.alloc (.cells #[.int .i64 k, .string nm, .int .i64 n, .bool f, .slice an ln cn, .slice am lm cm, .slice ak lk ck] 26)) w') := fun e => hsg e B _ _ _ _ HPW.out
  have HSL : Hid ((sgB n.toNat f (kdL ks) (txtL ks)).length ≤ 200000000) := by
    have := sgB_len n.toNat f (kdL ks) (txtL ks)
    show _ ≤ _
    omega
  have HTK : Hid ((txtL ks).take lk = txtL ks) := by show _ = _; rw [List.take_of_length_le (by omega)]
  have HJL : Hid (∀ sep : Bs, sep.length ≤ 10 → ∀ q, (joinF sep true ((txtL ks).take q)).length ≤ 200000000) := fun sep hs q => by
    have h1 := joinF_len sep ((txtL ks).take q) true
    have h2 := sumB_take (txtL ks) q
    have h3 : ((txtL ks).take q).length ≤ 1000 := by rw [List.length_take]; omega
    have h4 : sep.length * ((txtL ks).take q).length ≤ 10 * 1000 := Nat.mul_le_mul hs h3
    omega
  obtain ⟨R, hR⟩ : ∃ R, R = Ty.txt (.mk k nm n f ns ms ks) := ⟨_, rfl⟩
  rw [← hR]
  have HR : Hid (R = txK k (LB nm) n f (ns.map LB) ms (kdL ks) (txtL ks) (sgL ks)) := by show _ = _; rw [hR]; simp only [Ty.txt]
  have HPTR : Hid (k = 10 ∨ k = 11 ∨ k = 12 ∨ k = 9 → lk = 1) := fun h => by rw [hlk]; exact hptr h
  clear hp hR hb0 htl hT hsg hb hk hptr HKS HPW HPP hln hlm hlk
  by_cases c1 : k = 1
  · subst c1
    have HN : Hid (R = [105, 110, 116]) := by show _ = _; rw [HR.out]; rfl
    clear HTX HSG HSL HTK HJL HPTR HLK HR
    go_enter Try.func12, Try.ntmps12
    go_wp2_with fail
    go_ret
    exact ⟨by rw [HN.out]; rfl, HB0.out⟩
  by_cases c2 : k = 2
  · subst c2
    have HN : Hid (R = [115, 116, 114, 105, 110, 103]) := by show _ = _; rw [HR.out]; rfl
    clear HTX HSG HSL HTK HJL HPTR HLK HR
    go_enter Try.func12, Try.ntmps12
    go_wp2_with fail
    go_ret
    exact ⟨by rw [HN.out]; rfl, HB0.out⟩
  by_cases c3 : k = 3
  · subst c3
    have HN : Hid (R = [98, 111, 111, 108]) := by show _ = _; rw [HR.out]; rfl
    clear HTX HSG HSL HTK HJL HPTR HLK HR
    go_enter Try.func12, Try.ntmps12
    go_wp2_with fail
    go_ret
    exact ⟨by rw [HN.out]; rfl, HB0.out⟩
  by_cases c4 : k = 4
  · subst c4
    have HN : Hid (R = [99, 111, 110, 115, 116, 97, 110, 116, 32, 105, 110, 116]) := by show _ = _; rw [HR.out]; rfl
    clear HTX HSG HSL HTK HJL HPTR HLK HR
    go_enter Try.func12, Try.ntmps12
    go_wp2_with fail
    go_ret
    exact ⟨by rw [HN.out]; rfl, HB0.out⟩
  by_cases c5 : k = 5
  · subst c5
    have HN : Hid (R = [99, 111, 110, 115, 116, 97, 110, 116, 32, 115, 116, 114, 105, 110, 103]) := by show _ = _; rw [HR.out]; rfl
    clear HTX HSG HSL HTK HJL HPTR HLK HR
    go_enter Try.func12, Try.ntmps12
    go_wp2_with fail
    go_ret
    exact ⟨by rw [HN.out]; rfl, HB0.out⟩
  by_cases c6 : k = 6
  · subst c6
    have HN : Hid (R = [99, 111, 110, 115, 116, 97, 110, 116, 32, 98, 111, 111, 108]) := by show _ = _; rw [HR.out]; rfl
    clear HTX HSG HSL HTK HJL HPTR HLK HR
    go_enter Try.func12, Try.ntmps12
    go_wp2_with fail
    go_ret
    exact ⟨by rw [HN.out]; rfl, HB0.out⟩
  by_cases c7 : k = 7
  · subst c7
    have HN : Hid (R = [110, 105, 108]) := by show _ = _; rw [HR.out]; rfl
    clear HTX HSG HSL HTK HJL HPTR HLK HR
    go_enter Try.func12, Try.ntmps12
    go_wp2_with fail
    go_ret
    exact ⟨by rw [HN.out]; rfl, HB0.out⟩
  by_cases c8 : k = 8
  · subst c8
    have HN : Hid (bs R = nm) := by show _ = _; rw [HR.out]; exact bs_LB nm
    clear HTX HSG HSL HTK HJL HPTR HLK HR
    go_enter Try.func12, Try.ntmps12
    go_wp2_with fail
    go_ret
    exact ⟨by rw [HN.out]; rfl, HB0.out⟩
  by_cases c9 : k = 9
  · subst c9
    have HN : Hid (bs R = nm) := by show _ = _; rw [HR.out]; exact bs_LB nm
    clear HTX HSG HSL HTK HJL HPTR HLK HR
    go_enter Try.func12, Try.ntmps12
    go_wp2_with fail
    go_ret
    exact ⟨by rw [HN.out]; rfl, HB0.out⟩
  by_cases c10 : k = 10
  · subst c10
    obtain rfl := HPTR.out (by simp)
    have h1 := HTX.out 1 (by rw [← HLK.out]; omega)
    have HJS : Hid ((joinF [] true ((txtL ks).take 1)).length ≤ 200000000) := HJL.out [] (by simp) 1
    have hzJ : (bs (joinF [] true ((txtL ks).take 1))).size ≤ 200000000 := by rw [bs_size]; exact HJS.out
    have HN : Hid (bs R = (⟨#[42]⟩ : ByteArray) ++ bs (joinF [] true ((txtL ks).take 1))) := by
      show _ = _
      rw [show (⟨#[42]⟩ : ByteArray) = bs [42] from rfl, bs_app, HR.out]; rfl
    clear HTX HSG HSL HTK HJL HPTR HLK HR
    generalize (txtL ks).take 1 = LL at *
    go_enter Try.func12, Try.ntmps12
    go_wp2_with fail
    generalize w.alloc (.cells #[.int .i64 10, .string nm, .int .i64 n, .bool f, .slice an ln cn, .slice am lm cm, .slice ak 1 ck] 26) = W0 at *
    go_at_call 46
    refine h1.mono ?_
    intro e w1 hq
    obtain ⟨a1, c1, rfl, hr1⟩ := hq.ex
    have HB1 : Hid (Below W0.heap.size W0 w1) := hq.bl
    have hJ := rjoin_any hr1.txb [] (by have := HJS.out; omega) (by simp)
    rw [show (bs []) = ⟨#[]⟩ from rfl] at hJ
    clear hq hr1 h1
    generalize LL.length = ll at *
    generalize bs (joinF [] true LL) = JJ at *
    go_wp2_with (go_at_call 45; refine hJ.mono ?_; rintro e w9 ⟨rfl, hw9⟩; obtain rfl := hw9.symm; clear hJ)
    go_ret
    exact ⟨by rw [HN.out]; rfl, HB0.out.trans (HB1.out.mono hz0)⟩
  by_cases c11 : k = 11
  · subst c11
    obtain rfl := HPTR.out (by simp)
    have h1 := HTX.out 1 (by rw [← HLK.out]; omega)
    have HJS : Hid ((joinF [] true ((txtL ks).take 1)).length ≤ 200000000) := HJL.out [] (by simp) 1
    have hzJ : (bs (joinF [] true ((txtL ks).take 1))).size ≤ 200000000 := by rw [bs_size]; exact HJS.out
    have HN : Hid (bs R = (⟨#[91, 93]⟩ : ByteArray) ++ bs (joinF [] true ((txtL ks).take 1))) := by
      show _ = _
      rw [show (⟨#[91, 93]⟩ : ByteArray) = bs [91, 93] from rfl, bs_app, HR.out]; rfl
    clear HTX HSG HSL HTK HJL HPTR HLK HR
    generalize (txtL ks).take 1 = LL at *
    go_enter Try.func12, Try.ntmps12
    go_wp2_with fail
    generalize w.alloc (.cells #[.int .i64 11, .string nm, .int .i64 n, .bool f, .slice an ln cn, .slice am lm cm, .slice ak 1 ck] 26) = W0 at *
    go_at_call 46
    refine h1.mono ?_
    intro e w1 hq
    obtain ⟨a1, c1, rfl, hr1⟩ := hq.ex
    have HB1 : Hid (Below W0.heap.size W0 w1) := hq.bl
    have hJ := rjoin_any hr1.txb [] (by have := HJS.out; omega) (by simp)
    rw [show (bs []) = ⟨#[]⟩ from rfl] at hJ
    clear hq hr1 h1
    generalize LL.length = ll at *
    generalize bs (joinF [] true LL) = JJ at *
    go_wp2_with (go_at_call 45; refine hJ.mono ?_; rintro e w9 ⟨rfl, hw9⟩; obtain rfl := hw9.symm; clear hJ)
    go_ret
    exact ⟨by rw [HN.out]; rfl, HB0.out.trans (HB1.out.mono hz0)⟩
  by_cases c12 : k = 12
  · subst c12
    obtain rfl := HPTR.out (by simp)
    have h1 := HTX.out 1 (by rw [← HLK.out]; omega)
    have HJS : Hid ((joinF [] true ((txtL ks).take 1)).length ≤ 200000000) := HJL.out [] (by simp) 1
    have hzJ : (bs (joinF [] true ((txtL ks).take 1))).size ≤ 200000000 := by rw [bs_size]; exact HJS.out
    have HN : Hid (bs R = (⟨#[99, 104, 97, 110, 32]⟩ : ByteArray) ++ bs (joinF [] true ((txtL ks).take 1))) := by
      show _ = _
      rw [show (⟨#[99, 104, 97, 110, 32]⟩ : ByteArray) = bs [99, 104, 97, 110, 32] from rfl, bs_app, HR.out]; rfl
    clear HTX HSG HSL HTK HJL HPTR HLK HR
    generalize (txtL ks).take 1 = LL at *
    go_enter Try.func12, Try.ntmps12
    go_wp2_with fail
    generalize w.alloc (.cells #[.int .i64 12, .string nm, .int .i64 n, .bool f, .slice an ln cn, .slice am lm cm, .slice ak 1 ck] 26) = W0 at *
    go_at_call 46
    refine h1.mono ?_
    intro e w1 hq
    obtain ⟨a1, c1, rfl, hr1⟩ := hq.ex
    have HB1 : Hid (Below W0.heap.size W0 w1) := hq.bl
    have hJ := rjoin_any hr1.txb [] (by have := HJS.out; omega) (by simp)
    rw [show (bs []) = ⟨#[]⟩ from rfl] at hJ
    clear hq hr1 h1
    generalize LL.length = ll at *
    generalize bs (joinF [] true LL) = JJ at *
    go_wp2_with (go_at_call 45; refine hJ.mono ?_; rintro e w9 ⟨rfl, hw9⟩; obtain rfl := hw9.symm; clear hJ)
    go_ret
    exact ⟨by rw [HN.out]; rfl, HB0.out.trans (HB1.out.mono hz0)⟩
  by_cases c13 : k = 13
  · subst c13
    have h1 := HSG.out rfl
    have hzS : (bs (sgB n.toNat f (kdL ks) (txtL ks))).size ≤ 200000000 := by rw [bs_size]; exact HSL.out
    have HN : Hid (bs R = (⟨#[102, 117, 110, 99]⟩ : ByteArray) ++ bs (sgB n.toNat f (kdL ks) (txtL ks))) := by
      show _ = _
      rw [show (⟨#[102, 117, 110, 99]⟩ : ByteArray) = bs [102, 117, 110, 99] from rfl, bs_app, HR.out]; rfl
    clear HTX HSG HSL HTK HJL HPTR HLK HR
    generalize bs (sgB n.toNat f (kdL ks) (txtL ks)) = SS at *
    go_enter Try.func12, Try.ntmps12
    go_wp2_with (go_at_call 47; refine h1.mono ?_; rintro e w1 ⟨rfl, hb1⟩; have HB1 : Hid _ := hb1; clear hb1 h1)
    go_ret
    exact ⟨by rw [HN.out]; rfl, HB0.out.trans (HB1.out.mono hz0)⟩
  by_cases c16 : k = 16
  · subst c16
    by_cases n1 : n = 1
    · subst n1
      have HN : Hid (R = [99, 111, 109, 112, 97, 114, 97, 98, 108, 101]) := by show _ = _; rw [HR.out]; rfl
      clear HTX HSG HSL HTK HJL HPTR HLK HR
      go_enter Try.func12, Try.ntmps12
      go_wp2_with fail
      go_ret
      exact ⟨by rw [HN.out]; rfl, HB0.out⟩
    have kn1 : (n == 1) = false := int_bne n1
    have h1 := HTX.out lk (by rw [← HLK.out]; omega)
    have HJS : Hid ((joinF [32, 124, 32] true ((txtL ks).take lk)).length ≤ 200000000) := HJL.out [32, 124, 32] (by simp) lk
    have hzJ : (bs (joinF [32, 124, 32] true ((txtL ks).take lk))).size ≤ 200000000 := by rw [bs_size]; exact HJS.out
    have HN : Hid (bs R = bs (joinF [32, 124, 32] true ((txtL ks).take lk))) := by
      show _ = _
      rw [HR.out, HTK.out]
      have h9 : txK 16 (LB nm) n f (ns.map LB) ms (kdL ks) (txtL ks) (sgL ks) = (if n = 1 then [99, 111, 109, 112, 97, 114, 97, 98, 108, 101] else joinF [32, 124, 32] true (txtL ks)) := rfl
      rw [h9, if_neg n1]
    clear HTX HSG HSL HTK HJL HPTR HLK HR
    generalize (txtL ks).take lk = LL at *
    go_enter Try.func12, Try.ntmps12
    go_wp2_with fail
    generalize w.alloc (.cells #[.int .i64 16, .string nm, .int .i64 n, .bool f, .slice an ln cn, .slice am lm cm, .slice ak lk ck] 26) = W0 at *
    go_at_call 46
    refine h1.mono ?_
    intro e w1 hq
    obtain ⟨a1, c1, rfl, hr1⟩ := hq.ex
    have HB1 : Hid (Below W0.heap.size W0 w1) := hq.bl
    have hJ := rjoin_any hr1.txb [32, 124, 32] (by have := HJS.out; omega) (by simp)
    rw [show (bs [32, 124, 32]) = ⟨#[32, 124, 32]⟩ from rfl] at hJ
    clear hq hr1 h1
    generalize LL.length = ll at *
    generalize bs (joinF [32, 124, 32] true LL) = JJ at *
    go_wp2_with (go_at_call 45; refine hJ.mono ?_; rintro e w9 ⟨rfl, hw9⟩; obtain rfl := hw9.symm; clear hJ)
    go_ret
    exact ⟨by rw [HN.out]; rfl, HB0.out.trans (HB1.out.mono hz0)⟩
  by_cases c17 : k = 17
  · subst c17
    have h1 := HTX.out lk (by rw [← HLK.out]; omega)
    have HJS : Hid ((joinF [44, 32] true ((txtL ks).take lk)).length ≤ 200000000) := HJL.out [44, 32] (by simp) lk
    have hzJ : (bs (joinF [44, 32] true ((txtL ks).take lk))).size ≤ 200000000 := by rw [bs_size]; exact HJS.out
    have HN : Hid (bs R = (⟨#[40]⟩ : ByteArray) ++ bs (joinF [44, 32] true ((txtL ks).take lk)) ++ ⟨#[41]⟩) := by
      show _ = _
      rw [show (⟨#[40]⟩ : ByteArray) = bs [40] from rfl, show (⟨#[41]⟩ : ByteArray) = bs [41] from rfl, bs_app, bs_app, HR.out, HTK.out]; rfl
    clear HTX HSG HSL HTK HJL HPTR HLK HR
    generalize (txtL ks).take lk = LL at *
    go_enter Try.func12, Try.ntmps12
    go_wp2_with fail
    generalize w.alloc (.cells #[.int .i64 17, .string nm, .int .i64 n, .bool f, .slice an ln cn, .slice am lm cm, .slice ak lk ck] 26) = W0 at *
    go_at_call 46
    refine h1.mono ?_
    intro e w1 hq
    obtain ⟨a1, c1, rfl, hr1⟩ := hq.ex
    have HB1 : Hid (Below W0.heap.size W0 w1) := hq.bl
    have hJ := rjoin_any hr1.txb [44, 32] (by have := HJS.out; omega) (by simp)
    rw [show (bs [44, 32]) = ⟨#[44, 32]⟩ from rfl] at hJ
    clear hq hr1 h1
    generalize LL.length = ll at *
    generalize bs (joinF [44, 32] true LL) = JJ at *
    go_wp2_with (go_at_call 45; refine hJ.mono ?_; rintro e w9 ⟨rfl, hw9⟩; obtain rfl := hw9.symm; clear hJ)
    go_ret
    exact ⟨by rw [HN.out]; rfl, HB0.out.trans (HB1.out.mono hz0)⟩
  have HN : Hid (R = []) := by
    show _ = _
    rw [HR.out]; unfold txK; simp [c1, c2, c3, c4, c5, c6, c7, c8, c9, c10, c11, c12, c13, c14, c15, c16, c17]
  clear HTX HSG HSL HTK HJL HPTR HLK HR
  go_enter Try.func12, Try.ntmps12
  go_wp2_with fail
  go_ret
  exact ⟨by rw [HN.out]; rfl, HB0.out⟩
end Go.Proofs.Ytifcikhgbafegaa
