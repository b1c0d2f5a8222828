/-
  The document's Identical, walked.
-/
import Derived.Test.YtcmnhkopmkaiaaaTyt
namespace Go.Proofs.Ytcmnhkopmkaiaaa
open Go.RowKit
attribute [local go_sem ↓] Go.wp_at_zero Go.wp_at_succ
mutual
/-- are they identical? -/
def Ty.idn : Ty → Ty → Bool
  | .mk k nm n f ns ms ks, .mk k' nm' n' f' ns' ms' ks' => decide (k = k') && decide (nm = nm') && decide (n = n') && (decide (k = 9) || (decide (f = f') && decide (ns = ns') && decide (ms = ms') && idnL ks ks'))
def idnL : List Ty → List Ty → Bool
  | [], [] => true
  | x :: r, y :: s => x.idn y && idnL r s
  | [], _ :: _ => false
  | _ :: _, [] => false
end
theorem idnL_iff : ∀ (l l' : List Ty), idnL l l' = true ↔ l.length = l'.length ∧ ∀ i (h : i < l.length) (h' : i < l'.length), (l[i]).idn l'[i] = true
  | [], [] => by simp [idnL]
  | [], _ :: _ => by simp [idnL]
  | _ :: _, [] => by simp [idnL]
  | x :: r, y :: s => by
    simp only [idnL, Bool.and_eq_true, idnL_iff r s, List.length_cons]
    constructor
    · rintro ⟨h1, h2, h3⟩
      refine ⟨by omega, fun i h h' => ?_⟩
      cases i with
      | zero => exact h1
      | succ i => exact h3 i (by simpa using h) (by simpa using h')
    · rintro ⟨h1, h2⟩
      exact ⟨h2 0 (by simp) (by simp), by omega, fun i h h' => h2 (i + 1) (by simpa using h) (by simpa using h')⟩
set_option maxRecDepth 100000 in
set_option maxHeartbeats 8000000 in
theorem ridn_any (B B' : BQ) : ∀ x : Ty, ∀ (y : Ty) (w : World) (vn vm vk un um uk : Value), Prt B w x vn vm vk → Prt B' w y un um uk → Calls Try.prog 19 #[agT x vn vm vk, agT y un um uk] w fun e w' => e = .returned (.bool (x.idn y)) ∧ Below w.heap.size w w' := by
  refine Ty.ind fun xk xnm xn xf xns xms xks ih y w vn vm vk un um uk hp hq => ?_
  have HI : Hid (∀ x ∈ xks, ∀ (y : Ty) (w : World) (vn vm vk un um uk : Value), Prt B w x vn vm vk → Prt B' w y un um uk → Calls Try.prog 19 #[agT x vn vm vk, agT y un um uk] w fun e w' => e = .returned (.bool (x.idn y)) ∧ Below w.heap.size w w') := ih
  obtain ⟨yk, ynm, yn, yf, yns, yms, yks⟩ := y
  obtain ⟨xan, xcn, xam, xcm, xak, xck, rfl, rfl, rfl⟩ := hp.form
  obtain ⟨yan, ycn, yam, ycm, yak, yck, rfl, rfl, rfl⟩ := hq.form
  unfold agT
  simp only [Ty.kind, Ty.name, Ty.n, Ty.flag, Ty.names, Ty.marks, Ty.kids] at hp hq ⊢
  obtain ⟨xlk, hxlk⟩ : ∃ n, n = xks.length := ⟨_, rfl⟩
  obtain ⟨ylk, hylk⟩ : ∃ n, n = yks.length := ⟨_, rfl⟩
  obtain ⟨xln, hxln⟩ : ∃ n, n = xns.length := ⟨_, rfl⟩
  obtain ⟨yln, hyln⟩ : ∃ n, n = yns.length := ⟨_, rfl⟩
  obtain ⟨xlm, hxlm⟩ : ∃ n, n = xms.length := ⟨_, rfl⟩
  obtain ⟨ylm, hylm⟩ : ∃ n, n = yms.length := ⟨_, rfl⟩
  rw [← hxlk, ← hxln, ← hxlm] at hp ⊢
  rw [← hylk, ← hyln, ← hylm] at hq ⊢
  obtain ⟨W0, hW0⟩ : ∃ W0, W0 = (w.alloc (.cells #[.int .i64 xk, .string xnm, .int .i64 xn, .bool xf, .slice xan xln xcn, .slice xam xlm xcm, .slice xak xlk xck] 26)).alloc (.cells #[.int .i64 yk, .string ynm, .int .i64 yn, .bool yf, .slice yan yln ycn, .slice yam ylm ycm, .slice yak ylk yck] 26) := ⟨_, rfl⟩
  have hb0 : Below w.heap.size w W0 := by rw [hW0]; exact bthen (below_alloc _ _) (below_alloc _ _)
  have HB0 : Hid (Below w.heap.size w W0) := hb0
  have hz0 := hb0.size
  have HP : Hid (Prt B W0 (.mk xk xnm xn xf xns xms xks) (.slice xan xln xcn) (.slice xam xlm xcm) (.slice xak xlk xck)) := hp.kept hb0
  have HQ : Hid (Prt B' W0 (.mk yk ynm yn yf yns yms yks) (.slice yan yln ycn) (.slice yam ylm ycm) (.slice yak ylk yck)) := hq.kept hb0
  have HN1 : Hid (StrV B W0 (.slice xan xln xcn) xns) := HP.out.ns
  have HN2 : Hid (StrV B' W0 (.slice yan yln ycn) yns) := HQ.out.ns
  have HM1 : Hid (BooV B W0 (.slice xam xlm xcm) xms) := HP.out.ms
  have HM2 : Hid (BooV B' W0 (.slice yam ylm ycm) yms) := HQ.out.ms
  have mx1 := HN1.out.max
  have mx2 := HM1.out.max
  obtain ⟨a0, c0, e0, hlen, hel⟩ := HP.out.ks.open
  obtain ⟨rfl, hq9, rfl⟩ : xak = a0 ∧ xlk = xks.length ∧ xck = c0 := by simpa [Ty.kids] using e0
  clear hq9
  have HEL : Hid (∀ i (hi : i < xks.length), ∃ b o, xak = some ⟨b, o, none⟩ ∧ b < W0.heap.size ∧ B b ∧ (xks[i]).lies B W0 b (o + i * 7)) := hel
  have hlen : (xlk : Int) ≤ 9223372036854775807 := by rw [hxlk]; exact hlen
  clear e0 hel
  obtain ⟨a0, c0, e0, hlen', hel⟩ := HQ.out.ks.open
  obtain ⟨rfl, hq9, rfl⟩ : yak = a0 ∧ ylk = yks.length ∧ yck = c0 := by simpa [Ty.kids] using e0
  clear hq9
  have HEM : Hid (∀ i (hi : i < yks.length), ∃ b o, yak = some ⟨b, o, none⟩ ∧ b < W0.heap.size ∧ B' b ∧ (yks[i]).lies B' W0 b (o + i * 7)) := hel
  have HX0 : Hid (W0.heap[w.heap.size]? = some (.cells #[.int .i64 xk, .string xnm, .int .i64 xn, .bool xf, .slice xan xln xcn, .slice xam xlm xcm, .slice xak xlk xck] 26 (0, 0))) := by
    show _ = _
    rw [hW0]; exact blk_kept (below_alloc _ _) (heap_new _ _)
  have HY0 : Hid (W0.heap[w.heap.size + 1]? = some (.cells #[.int .i64 yk, .string ynm, .int .i64 yn, .bool yf, .slice yan yln ycn, .slice yam ylm ycm, .slice yak ylk yck] 26 (0, 0))) := by
    show _ = _
    rw [hW0]
    have := heap_new (w.alloc (.cells #[.int .i64 xk, .string xnm, .int .i64 xn, .bool xf, .slice xan xln xcn, .slice xam xlm xcm, .slice xak xlk xck] 26)) (.cells #[.int .i64 yk, .string ynm, .int .i64 yn, .bool yf, .slice yan yln ycn, .slice yam ylm ycm, .slice yak ylk yck] 26)
    simpa using this
  clear ih hp hq hb0 e0 hel hlen'
  obtain ⟨R, hR⟩ : ∃ R, R = Ty.idn (.mk xk xnm xn xf xns xms xks) (.mk yk ynm yn yf yns yms yks) := ⟨_, rfl⟩
  rw [← hR]
  have HF : Hid ((xk ≠ yk ∨ xnm ≠ ynm ∨ xn ≠ yn) → R = false) := fun h => by
    rw [hR, Bool.eq_false_iff]; intro e
    simp only [Ty.idn, Bool.and_eq_true, decide_eq_true_eq] at e
    rcases h with h | h | h
    · exact h e.1.1.1
    · exact h e.1.1.2
    · exact h e.1.2
  have HF2 : Hid (xk ≠ 9 → (xf ≠ yf ∨ xns ≠ yns ∨ xms ≠ yms ∨ idnL xks yks ≠ true) → R = false) := fun h9 h => by
    rw [hR, Bool.eq_false_iff]; intro e
    simp only [Ty.idn, Bool.and_eq_true, Bool.or_eq_true, decide_eq_true_eq] at e
    rcases e.2 with e2 | e2
    · exact h9 e2
    · rcases h with h | h | h | h
      · exact h e2.1.1.1
      · exact h e2.1.1.2
      · exact h e2.1.2
      · exact h e2.2
  have HT9 : Hid (xk = yk → xnm = ynm → xn = yn → xk = 9 → R = true) := fun h1 h2 h3 h9 => by
    rw [hR]; simp only [Ty.idn, Bool.and_eq_true, Bool.or_eq_true, decide_eq_true_eq]; exact ⟨⟨⟨h1, h2⟩, h3⟩, .inl h9⟩
  have HTT : Hid (xk = yk → xnm = ynm → xn = yn → xf = yf → xns = yns → xms = yms → idnL xks yks = true → R = true) := fun h1 h2 h3 h4 h5 h6 h7 => by
    rw [hR]; simp only [Ty.idn, Bool.and_eq_true, Bool.or_eq_true, decide_eq_true_eq]; exact ⟨⟨⟨h1, h2⟩, h3⟩, .inr ⟨⟨⟨h4, h5⟩, h6⟩, h7⟩⟩
  have HXK : Hid (xlk = xks.length) := hxlk
  have HYK : Hid (ylk = yks.length) := hylk
  have HXN : Hid (xln = xns.length) := hxln
  have HYN : Hid (yln = yns.length) := hyln
  have HXM : Hid (xlm = xms.length) := hxlm
  have HYM : Hid (ylm = yms.length) := hylm
  clear hR HP HQ hxlk hylk hxln hyln hxlm hylm
  obtain ⟨s0, s1, s2, s3, s4, s5, s6⟩ := bx7 HX0.out
  obtain ⟨t0, t1, t2, t3, t4, t5, t6⟩ := bx7 HY0.out
  subst hW0
  by_cases c0 : xk = yk
  case neg =>
    have HN : Hid (R = false) := HF.out (.inl c0)
    go_enter Try.func19, Try.ntmps19
    go_wp2_with fail
    generalize (w.alloc (.cells #[.int .i64 xk, .string xnm, .int .i64 xn, .bool xf, .slice xan xln xcn, .slice xam xlm xcm, .slice xak xlk xck] 26)).alloc (.cells #[.int .i64 yk, .string ynm, .int .i64 yn, .bool yf, .slice yan yln ycn, .slice yam ylm ycm, .slice yak ylk yck] 26) = W0 at *
    go_wp2_with fail
    go_ret
    exact ⟨by rw [HN.out]; rfl, HB0.out⟩
  subst c0
  by_cases c1 : xnm = ynm
  case neg =>
    have k1 := str_ne c1
    have HN : Hid (R = false) := HF.out (.inr (.inl c1))
    clear c1
    go_enter Try.func19, Try.ntmps19
    go_wp2_with fail
    generalize (w.alloc (.cells #[.int .i64 xk, .string xnm, .int .i64 xn, .bool xf, .slice xan xln xcn, .slice xam xlm xcm, .slice xak xlk xck] 26)).alloc (.cells #[.int .i64 xk, .string ynm, .int .i64 yn, .bool yf, .slice yan yln ycn, .slice yam ylm ycm, .slice yak ylk yck] 26) = W0 at *
    go_wp2_with fail
    go_ret
    exact ⟨by rw [HN.out]; rfl, HB0.out⟩
  subst c1
  by_cases c2 : xn = yn
  case neg =>
    have HN : Hid (R = false) := HF.out (.inr (.inr c2))
    go_enter Try.func19, Try.ntmps19
    go_wp2_with fail
    generalize (w.alloc (.cells #[.int .i64 xk, .string xnm, .int .i64 xn, .bool xf, .slice xan xln xcn, .slice xam xlm xcm, .slice xak xlk xck] 26)).alloc (.cells #[.int .i64 xk, .string xnm, .int .i64 yn, .bool yf, .slice yan yln ycn, .slice yam ylm ycm, .slice yak ylk yck] 26) = W0 at *
    go_wp2_with fail
    go_ret
    exact ⟨by rw [HN.out]; rfl, HB0.out⟩
  subst c2
  by_cases c9 : xk = 9
  · subst c9
    have HN : Hid (R = true) := HT9.out rfl rfl rfl rfl
    go_enter Try.func19, Try.ntmps19
    go_wp2_with fail
    generalize (w.alloc (.cells #[.int .i64 9, .string xnm, .int .i64 xn, .bool xf, .slice xan xln xcn, .slice xam xlm xcm, .slice xak xlk xck] 26)).alloc (.cells #[.int .i64 9, .string xnm, .int .i64 xn, .bool yf, .slice yan yln ycn, .slice yam ylm ycm, .slice yak ylk yck] 26) = W0 at *
    go_wp2_with fail
    go_ret
    exact ⟨by rw [HN.out]; rfl, HB0.out⟩
  by_cases c3 : xf = yf
  case neg =>
    have k3 := bool_ne c3
    have HN : Hid (R = false) := HF2.out c9 (.inl c3)
    clear c3
    go_enter Try.func19, Try.ntmps19
    go_wp2_with fail
    generalize (w.alloc (.cells #[.int .i64 xk, .string xnm, .int .i64 xn, .bool xf, .slice xan xln xcn, .slice xam xlm xcm, .slice xak xlk xck] 26)).alloc (.cells #[.int .i64 xk, .string xnm, .int .i64 xn, .bool yf, .slice yan yln ycn, .slice yam ylm ycm, .slice yak ylk yck] 26) = W0 at *
    go_wp2_with fail
    go_ret
    exact ⟨by rw [HN.out]; rfl, HB0.out⟩
  subst c3
  by_cases c4 : xln = yln
  case neg =>
    have k4 := nat_bne c4
    have HN : Hid (R = false) := HF2.out c9 (.inr (.inl fun e => c4 (by rw [HXN.out, HYN.out, e])))
    go_enter Try.func19, Try.ntmps19
    go_wp2_with fail
    generalize (w.alloc (.cells #[.int .i64 xk, .string xnm, .int .i64 xn, .bool xf, .slice xan xln xcn, .slice xam xlm xcm, .slice xak xlk xck] 26)).alloc (.cells #[.int .i64 xk, .string xnm, .int .i64 xn, .bool xf, .slice yan yln ycn, .slice yam ylm ycm, .slice yak ylk yck] 26) = W0 at *
    go_wp2_with fail
    go_ret
    exact ⟨by rw [HN.out]; rfl, HB0.out⟩
  subst c4
  by_cases c5 : xlm = ylm
  case neg =>
    have k5 := nat_bne c5
    have HN : Hid (R = false) := HF2.out c9 (.inr (.inr (.inl fun e => c5 (by rw [HXM.out, HYM.out, e]))))
    go_enter Try.func19, Try.ntmps19
    go_wp2_with fail
    generalize (w.alloc (.cells #[.int .i64 xk, .string xnm, .int .i64 xn, .bool xf, .slice xan xln xcn, .slice xam xlm xcm, .slice xak xlk xck] 26)).alloc (.cells #[.int .i64 xk, .string xnm, .int .i64 xn, .bool xf, .slice yan xln ycn, .slice yam ylm ycm, .slice yak ylk yck] 26) = W0 at *
    go_wp2_with fail
    go_ret
    exact ⟨by rw [HN.out]; rfl, HB0.out⟩
  subst c5
  by_cases c6 : xlk = ylk
  case neg =>
    have k6 := nat_bne c6
    have HN : Hid (R = false) := HF2.out c9 (.inr (.inr (.inr fun e => c6 (by rw [HXK.out, HYK.out]; exact ((idnL_iff _ _).1 e).1))))
    go_enter Try.func19, Try.ntmps19
    go_wp2_with fail
    generalize (w.alloc (.cells #[.int .i64 xk, .string xnm, .int .i64 xn, .bool xf, .slice xan xln xcn, .slice xam xlm xcm, .slice xak xlk xck] 26)).alloc (.cells #[.int .i64 xk, .string xnm, .int .i64 xn, .bool xf, .slice yan xln ycn, .slice yam xlm ycm, .slice yak ylk yck] 26) = W0 at *
    go_wp2_with fail
    go_ret
    exact ⟨by rw [HN.out]; rfl, HB0.out⟩
  subst c6
  have C9 : Hid (xk ≠ 9) := c9
  go_enter Try.func19, Try.ntmps19
  go_wp2_with fail
  generalize (w.alloc (.cells #[.int .i64 xk, .string xnm, .int .i64 xn, .bool xf, .slice xan xln xcn, .slice xam xlm xcm, .slice xak xlk xck] 26)).alloc (.cells #[.int .i64 xk, .string xnm, .int .i64 xn, .bool xf, .slice yan xln ycn, .slice yam xlm ycm, .slice yak xlk yck] 26) = W0 at *
  go_wp2_with fail
  go_loopg [5] xln (fun g u5 wr => ∃ i : Nat, i ≤ xln ∧ xln - i ≤ g ∧ u5 = .int .i64 i ∧ Hid (Below W0.heap.size W0 wr ∧ ∀ j (h1 : j < xns.length) (h2 : j < yns.length), j < i → xns[j] = yns[j]))
  case atStart => exact ⟨0, Nat.zero_le _, Nat.le_refl _, rfl, Below.refl _ _, fun j _ _ hj => by omega⟩
  case round =>
    obtain ⟨i, hi, hg, rfl, HZ⟩ := hrel
    clear s0 s1 s2 s3 s4 s5 s6 t0 t1 t2 t3 t4 t5 t6
    obtain ⟨s0, s1, s2, s3, s4, s5, s6⟩ := bx7 (blk_kept HZ.out.1 HX0.out)
    obtain ⟨t0, t1, t2, t3, t4, t5, t6⟩ := bx7 (blk_kept HZ.out.1 HY0.out)
    by_cases hlt : i < xln
    · have z1 : (i : Int) < (xln : Int) := by omega
      have z0 : (0 : Int) ≤ (i : Int) := by omega
      have b1 : i < xns.length := by rw [← HXN.out]; exact hlt
      have b2 : i < yns.length := by rw [← HYN.out]; exact hlt
      obtain ⟨g1, o1, rfl, ht1⟩ := (HN1.out.kept HZ.out.1).get b1
      obtain ⟨g2, o2, rfl, ht2⟩ := (HN2.out.kept HZ.out.1).get b2
      obtain ⟨x, hx⟩ : ∃ x, x = xns[i] := ⟨_, rfl⟩
      obtain ⟨y, hy⟩ : ∃ y, y = yns[i] := ⟨_, rfl⟩
      rw [← hx] at ht1
      rw [← hy] at ht2
      have HXY : Hid (x = xns[i] ∧ y = yns[i]) := ⟨hx, hy⟩
      have HZB : Hid (Below W0.heap.size W0 wr) := HZ.out.1
      have HZE : Hid (∀ j (h1 : j < xns.length) (h2 : j < yns.length), j < i → xns[j] = yns[j]) := HZ.out.2
      clear hx hy HZ
      by_cases he : x = y
      · have k2 := str_eq he
        have HE : Hid (x = y) := he
        subst he
        go_wp2_with fail
        go_quiet (fail)
        go_wp2_with fail
        go_roundg (xln - (i + 1))
        case measure => omega
        case rel => exact ⟨i + 1, by omega, Nat.le_refl _, by go_num, HZB.out.trans ((below_dn _ _).mono HZB.out.size), fun j h1 h2 hj => by
          rcases Nat.lt_or_ge j i with h | h
          · exact HZE.out j h1 h2 h
          · have e : j = i := by omega
            subst e
            rw [← HXY.out.1, ← HXY.out.2]⟩
      · have k2 := str_ne he
        have HN : Hid (R = false) := HF2.out C9.out (.inr <| .inl <| fun e => he (by rw [HXY.out.1, HXY.out.2]; simp [e]))
        go_wp2_with fail
        go_quiet (fail)
        go_wp2_with fail
        go_ret
        exact ⟨by rw [HN.out]; rfl, HB0.out.trans ((HZB.out.trans ((below_dn _ _).mono HZB.out.size)).mono hz0)⟩
    · have z1 : ¬ (i : Int) < (xln : Int) := by omega
      have C4 : Hid (xns = yns) := take_eq (by rw [← HXN.out, ← HYN.out]) fun j h1 h2 => HZ.out.2 j h1 h2 (by have := HXN.out; omega)
      have HBC4 : Hid (Below W0.heap.size W0 wr) := HZ.out.1
      clear HZ
      go_wp2_with fail
      generalize wr = wC4 at *
      go_loopg [6] xlm (fun g u6 wr => ∃ i : Nat, i ≤ xlm ∧ xlm - i ≤ g ∧ u6 = .int .i64 i ∧ Hid (Below W0.heap.size W0 wr ∧ ∀ j (h1 : j < xms.length) (h2 : j < yms.length), j < i → xms[j] = yms[j]))
      case atStart => exact ⟨0, Nat.zero_le _, Nat.le_refl _, rfl, HBC4.out, fun j _ _ hj => by omega⟩
      case round =>
        obtain ⟨i, hi, hg, rfl, HZ⟩ := hrel
        clear s0 s1 s2 s3 s4 s5 s6 t0 t1 t2 t3 t4 t5 t6
        obtain ⟨s0, s1, s2, s3, s4, s5, s6⟩ := bx7 (blk_kept HZ.out.1 HX0.out)
        obtain ⟨t0, t1, t2, t3, t4, t5, t6⟩ := bx7 (blk_kept HZ.out.1 HY0.out)
        by_cases hlt : i < xlm
        · have z1 : (i : Int) < (xlm : Int) := by omega
          have z0 : (0 : Int) ≤ (i : Int) := by omega
          have b1 : i < xms.length := by rw [← HXM.out]; exact hlt
          have b2 : i < yms.length := by rw [← HYM.out]; exact hlt
          obtain ⟨g1, o1, rfl, ht1⟩ := (HM1.out.kept HZ.out.1).get b1
          obtain ⟨g2, o2, rfl, ht2⟩ := (HM2.out.kept HZ.out.1).get b2
          obtain ⟨x, hx⟩ : ∃ x, x = xms[i] := ⟨_, rfl⟩
          obtain ⟨y, hy⟩ : ∃ y, y = yms[i] := ⟨_, rfl⟩
          rw [← hx] at ht1
          rw [← hy] at ht2
          have HXY : Hid (x = xms[i] ∧ y = yms[i]) := ⟨hx, hy⟩
          have HZB : Hid (Below W0.heap.size W0 wr) := HZ.out.1
          have HZE : Hid (∀ j (h1 : j < xms.length) (h2 : j < yms.length), j < i → xms[j] = yms[j]) := HZ.out.2
          clear hx hy HZ
          by_cases he : x = y
          · have k2 := bool_eq he
            have HE : Hid (x = y) := he
            subst he
            go_wp2_with fail
            go_quiet (fail)
            go_wp2_with fail
            go_roundg (xlm - (i + 1))
            case measure => omega
            case rel => exact ⟨i + 1, by omega, Nat.le_refl _, by go_num, HZB.out.trans ((below_dn _ _).mono HZB.out.size), fun j h1 h2 hj => by
              rcases Nat.lt_or_ge j i with h | h
              · exact HZE.out j h1 h2 h
              · have e : j = i := by omega
                subst e
                rw [← HXY.out.1, ← HXY.out.2]⟩
          · have k2 := bool_ne he
            have HN : Hid (R = false) := HF2.out C9.out (.inr <| .inr <| .inl <| fun e => he (by rw [HXY.out.1, HXY.out.2]; simp [e]))
            go_wp2_with fail
            go_quiet (fail)
            go_wp2_with fail
            go_ret
            exact ⟨by rw [HN.out]; rfl, HB0.out.trans ((HZB.out.trans ((below_dn _ _).mono HZB.out.size)).mono hz0)⟩
        · have z1 : ¬ (i : Int) < (xlm : Int) := by omega
          have C5 : Hid (xms = yms) := take_eq (by rw [← HXM.out, ← HYM.out]) fun j h1 h2 => HZ.out.2 j h1 h2 (by have := HXM.out; omega)
          have HBC5 : Hid (Below W0.heap.size W0 wr) := HZ.out.1
          clear HZ
          go_wp2_with fail
          generalize wr = wC5 at *
          go_loopg [7] xlk (fun g u7 wr => ∃ i : Nat, i ≤ xlk ∧ xlk - i ≤ g ∧ u7 = .int .i64 i ∧ Hid (Below W0.heap.size W0 wr ∧ ∀ j (h1 : j < xks.length) (h2 : j < yks.length), j < i → (xks[j]).idn yks[j] = true))
          case atStart => exact ⟨0, Nat.zero_le _, Nat.le_refl _, rfl, HBC5.out, fun j _ _ hj => by omega⟩
          case round =>
            obtain ⟨i, hi, hg, rfl, HX⟩ := hrel
            clear s0 s1 s2 s3 s4 s5 s6 t0 t1 t2 t3 t4 t5 t6
            obtain ⟨s0, s1, s2, s3, s4, s5, s6⟩ := bx7 (blk_kept HX.out.1 HX0.out)
            obtain ⟨t0, t1, t2, t3, t4, t5, t6⟩ := bx7 (blk_kept HX.out.1 HY0.out)
            by_cases hlt : i < xlk
            · have z1 : (i : Int) < (xlk : Int) := by omega
              have z0 : (0 : Int) ≤ (i : Int) := by omega
              have hlx : i < xks.length := by rw [← HXK.out]; exact hlt
              have hlt' : i < yks.length := by rw [← HYK.out]; exact hlt
              obtain ⟨b, o, rfl, _, _, hli⟩ := HEL.out i hlx
              obtain ⟨b', o', rfl, _, _, hli'⟩ := HEM.out i hlt'
              obtain ⟨e0, e1, e2, e3, v4, v5, v6, e4, e5, e6, hpi⟩ := lies_iff.1 hli
              obtain ⟨bn, dn, bm, dm, bk, dk, rfl, rfl, rfl⟩ := hpi.form
              obtain ⟨f0, f1, f2, f3, q4, q5, q6, f4, f5, f6, hqi⟩ := lies_iff.1 hli'
              obtain ⟨gn, jn, gm, jm, gk', jk, rfl, rfl, rfl⟩ := hqi.form
              have hc := HI.out xks[i] (List.getElem_mem _) yks[i] (wr.drew) _ _ _ _ _ _ (hpi.kept (HX.out.1.trans ((below_drew1 _).mono HX.out.1.size))) (hqi.kept (HX.out.1.trans ((below_drew1 _).mono HX.out.1.size)))
              have HXB : Hid (Below W0.heap.size W0 wr) := HX.out.1
              have HXE : Hid (∀ j (h1 : j < xks.length) (h2 : j < yks.length), j < i → (xks[j]).idn yks[j] = true) := HX.out.2
              have HKP : Hid (∀ W, Below W0.heap.size W0 W → (W.cell? ⟨b, o + i * 7, none⟩ = some (.int .i64 (xks[i]).kind) ∧ W.cell? ⟨b, o + i * 7 + 1, none⟩ = some (.string (xks[i]).name) ∧ W.cell? ⟨b, o + i * 7 + 2, none⟩ = some (.int .i64 (xks[i]).n) ∧ W.cell? ⟨b, o + i * 7 + 3, none⟩ = some (.bool (xks[i]).flag) ∧ W.cell? ⟨b, o + i * 7 + 4, none⟩ = some (.slice bn (xks[i]).names.length dn) ∧ W.cell? ⟨b, o + i * 7 + 5, none⟩ = some (.slice bm (xks[i]).marks.length dm) ∧ W.cell? ⟨b, o + i * 7 + 6, none⟩ = some (.slice bk (xks[i]).kids.length dk)) ∧ (W.cell? ⟨b', o' + i * 7, none⟩ = some (.int .i64 (yks[i]).kind) ∧ W.cell? ⟨b', o' + i * 7 + 1, none⟩ = some (.string (yks[i]).name) ∧ W.cell? ⟨b', o' + i * 7 + 2, none⟩ = some (.int .i64 (yks[i]).n) ∧ W.cell? ⟨b', o' + i * 7 + 3, none⟩ = some (.bool (yks[i]).flag) ∧ W.cell? ⟨b', o' + i * 7 + 4, none⟩ = some (.slice gn (yks[i]).names.length jn) ∧ W.cell? ⟨b', o' + i * 7 + 5, none⟩ = some (.slice gm (yks[i]).marks.length jm) ∧ W.cell? ⟨b', o' + i * 7 + 6, none⟩ = some (.slice gk' (yks[i]).kids.length jk)) ∧ (W.cell? ⟨w.heap.size, 6, none⟩ = some (.slice (some ⟨b, o, none⟩) xlk xck) ∧ W.cell? ⟨w.heap.size + 1, 6, none⟩ = some (.slice (some ⟨b', o', none⟩) xlk yck))) := fun W h => ⟨⟨kept_cell h e0, kept_cell h e1, kept_cell h e2, kept_cell h e3, kept_cell h e4, kept_cell h e5, kept_cell h e6⟩, ⟨kept_cell h f0, kept_cell h f1, kept_cell h f2, kept_cell h f3, kept_cell h f4, kept_cell h f5, kept_cell h f6⟩, (bx7 (blk_kept h HX0.out)).2.2.2.2.2.2, (bx7 (blk_kept h HY0.out)).2.2.2.2.2.2⟩
              unfold agT at hc
              have HEQ : Hid (∀ b, (xks[i]).idn yks[i] = b → (b = true ↔ (xks[i]).idn yks[i] = true)) := fun b h => by rw [← h]
              have kS := HKP.out wr HXB.out
              clear hli hpi hli' hqi HX e0 e1 e2 e3 e4 e5 e6 f0 f1 f2 f3 f4 f5 f6
              obtain ⟨bb, hbb⟩ : ∃ bb, (xks[i]).idn yks[i] = bb := ⟨_, rfl⟩
              have HBB := HEQ.out bb hbb
              have HBH : Hid (bb = true ↔ (xks[i]).idn yks[i] = true) := HBB
              rw [hbb] at hc
              clear hbb HBB HEQ
              generalize (xks[i]).kind = ki at *
              generalize (xks[i]).name = ni at *
              generalize (xks[i]).n = nn at *
              generalize (xks[i]).flag = fi at *
              generalize (xks[i]).names.length = l1 at *
              generalize (xks[i]).marks.length = l2 at *
              generalize (xks[i]).kids.length = l3 at *
              generalize (yks[i]).kind = kj at *
              generalize (yks[i]).name = nj at *
              generalize (yks[i]).n = nnj at *
              generalize (yks[i]).flag = fj at *
              generalize (yks[i]).names.length = m1 at *
              generalize (yks[i]).marks.length = m2 at *
              generalize (yks[i]).kids.length = m3 at *
              go_wp2_with fail
              go_region_held3 (fun W => (W.cell? ⟨b, o + i * 7, none⟩ = some (.int .i64 ki) ∧ W.cell? ⟨b, o + i * 7 + 1, none⟩ = some (.string ni) ∧ W.cell? ⟨b, o + i * 7 + 2, none⟩ = some (.int .i64 nn) ∧ W.cell? ⟨b, o + i * 7 + 3, none⟩ = some (.bool fi) ∧ W.cell? ⟨b, o + i * 7 + 4, none⟩ = some (.slice bn l1 dn) ∧ W.cell? ⟨b, o + i * 7 + 5, none⟩ = some (.slice bm l2 dm) ∧ W.cell? ⟨b, o + i * 7 + 6, none⟩ = some (.slice bk l3 dk)) ∧ (W.cell? ⟨b', o' + i * 7, none⟩ = some (.int .i64 kj) ∧ W.cell? ⟨b', o' + i * 7 + 1, none⟩ = some (.string nj) ∧ W.cell? ⟨b', o' + i * 7 + 2, none⟩ = some (.int .i64 nnj) ∧ W.cell? ⟨b', o' + i * 7 + 3, none⟩ = some (.bool fj) ∧ W.cell? ⟨b', o' + i * 7 + 4, none⟩ = some (.slice gn m1 jn) ∧ W.cell? ⟨b', o' + i * 7 + 5, none⟩ = some (.slice gm m2 jm) ∧ W.cell? ⟨b', o' + i * 7 + 6, none⟩ = some (.slice gk' m3 jk)) ∧ (W.cell? ⟨w.heap.size, 6, none⟩ = some (.slice (some ⟨b, o, none⟩) xlk xck) ∧ W.cell? ⟨w.heap.size + 1, 6, none⟩ = some (.slice (some ⟨b', o', none⟩) xlk yck)))
                (first | exact kS | go_keep)
                (first | (go_at_call 19; refine hc.mono ?_; rintro e w3 ⟨rfl, hb3⟩; have HB3 : Hid (Below W0.heap.size W0 w3) := HXB.out.trans ((bthen (below_drew1 _) hb3).mono HXB.out.size); have kS := HKP.out w3 HB3.out; clear hb3 hc))
              all_goals
                cases bb with
                | true =>
                  have HE : Hid ((xks[i]).idn yks[i] = true) := HBH.out.1 rfl
                  go_wp2_with fail
                  go_roundg (xlk - (i + 1))
                  case measure => omega
                  case rel => exact ⟨i + 1, by omega, Nat.le_refl _, by go_num, HB3.out, fun j h1 h2 hj => by
                    rcases Nat.lt_or_ge j i with h | h
                    · exact HXE.out j h1 h2 h
                    · have e : j = i := by omega
                      subst e; exact HE.out⟩
                | false =>
                  have HN : Hid (R = false) := HF2.out C9.out (.inr (.inr (.inr fun e => by have := HBH.out.2 (((idnL_iff _ _).1 e).2 i hlx hlt'); cases this)))
                  go_wp2_with fail
                  go_ret
                  exact ⟨by rw [HN.out]; rfl, HB0.out.trans (HB3.out.mono hz0)⟩
            · have z1 : ¬ (i : Int) < (xlk : Int) := by omega
              have HN : Hid (R = true) := HTT.out (by first | trivial | rfl) (by first | trivial | rfl) (by first | trivial | rfl) (by first | trivial | rfl) C4.out C5.out ((idnL_iff _ _).2 ⟨by rw [← HXK.out, ← HYK.out], fun j h1 h2 => HX.out.2 j h1 h2 (by have := HXK.out; omega)⟩)
              have HXB : Hid (Below W0.heap.size W0 wr) := HX.out.1
              clear HX
              go_wp2_with fail
              go_ret
              exact ⟨by rw [HN.out]; rfl, HB0.out.trans (HXB.out.mono hz0)⟩
end Go.Proofs.Ytcmnhkopmkaiaaa

