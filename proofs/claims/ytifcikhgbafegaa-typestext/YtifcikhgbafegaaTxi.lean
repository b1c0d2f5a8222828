/-
  The document's Text, walked: interfaces.
-/
import Derived.Test.YtifcikhgbafegaaTxw
import Derived.Deep.RegionHeld3
import Derived.Deep.AppendLies
namespace Go.Proofs.Ytifcikhgbafegaa
open Go.RowKit
attribute [local go_sem ↓] Go.wp_at_zero Go.wp_at_succ
theorem fldI_full : ∀ {a b : List Bs}, a.length = b.length → (fldI a b).length = a.length
  | [], [], _ => rfl
  | x :: r, y :: s, h => by simp [fldI, fldI_full (a := r) (b := s) (by simpa using h)]
theorem fldI_get : ∀ {a b : List Bs} (i : Nat) (h1 : i < a.length) (h2 : i < b.length) (h3 : i < (fldI a b).length), (fldI a b)[i] = a[i] ++ b[i]
  | x :: r, y :: s, 0, _, _, _ => rfl
  | x :: r, y :: s, i + 1, h1, h2, h3 => by simpa [fldI] using fldI_get (a := r) (b := s) i (by simpa using h1) (by simpa using h2) (by simpa [fldI] using h3)
theorem sumB_get : ∀ {l : List Bs} {i : Nat} (h : i < l.length), (l[i]).length ≤ sumB l
  | x :: r, 0, _ => by simp [sumB]
  | x :: r, i + 1, h => by have := sumB_get (l := r) (i := i) (by simpa using h); simp [sumB]; omega
set_option maxRecDepth 100000 in
set_option maxHeartbeats 8000000 in
theorem rtext_itf (nm : ByteArray) (n : Int) (f : Bool) (ns : List ByteArray) (ms : List Bool) (ks : List Ty) (hk : ks.length ≤ 1000) (hn : ns.length = ks.length) (hS : ∀ i (h : i < ks.length) (h' : i < (sgL ks).length), SgC ks[i] (sgL ks)[i]) (hb : sumB (fldI (ns.map LB) (sgL ks)) ≤ 100000000) : TxC (.mk 15 nm n f ns ms ks) (Ty.txt (.mk 15 nm n f ns ms ks)) := by
  intro B w vn vm vk hp
  obtain ⟨an, cn, am, cm, ak, ck, rfl, rfl, rfl⟩ := hp.form
  unfold agT
  simp only [Ty.kind, Ty.name, Ty.n, Ty.flag, Ty.names, Ty.marks, Ty.kids] at hp ⊢
  obtain ⟨lk, hlk⟩ : ∃ l, l = ks.length := ⟨_, rfl⟩
  obtain ⟨lm, hlm⟩ : ∃ l, l = ms.length := ⟨_, rfl⟩
  rw [hn, ← hlk, ← hlm] at hp ⊢
  have HLK : Hid (lk = ks.length) := hlk
  have HLN : Hid (lk = ns.length) := by show _ = _; rw [hlk, hn]
  have hl1 : lk ≤ 1000 := by omega
  have hb0 : Below w.heap.size w (w.alloc (.cells #[.int .i64 15, .string nm, .int .i64 n, .bool f, .slice an lk cn, .slice am lm cm, .slice ak lk ck] 26)) := below_alloc _ _
  have HB0 : Hid (Below w.heap.size w (w.alloc (.cells #[.int .i64 15, .string nm, .int .i64 n, .bool f, .slice an lk cn, .slice am lm cm, .slice ak lk ck] 26))) := hb0
  have HBK : Hid ((w.alloc (.cells #[.int .i64 15, .string nm, .int .i64 n, .bool f, .slice an lk cn, .slice am lm cm, .slice ak lk ck] 26)).heap[w.heap.size]? = some (.cells #[.int .i64 15, .string nm, .int .i64 n, .bool f, .slice an lk cn, .slice am lm cm, .slice ak lk ck] 26 (0, 0))) := heap_new _ _
  have hza : w.heap.size < (w.alloc (.cells #[.int .i64 15, .string nm, .int .i64 n, .bool f, .slice an lk cn, .slice am lm cm, .slice ak lk ck] 26)).heap.size := by simp
  have HNS : Hid (StrV B w (.slice an lk cn) ns) := hp.ns
  obtain ⟨a0, c0, e0, hlen, hel⟩ := hp.ks.open
  obtain ⟨rfl, hq8, rfl⟩ : ak = a0 ∧ lk = ks.length ∧ ck = c0 := by simpa [Ty.kids] using e0
  have HEL : Hid (∀ i (hi : i < ks.length), ∃ b o, ak = some ⟨b, o, none⟩ ∧ b < w.heap.size ∧ B b ∧ (ks[i]).lies B w b (o + i * 7)) := hel
  obtain ⟨R, hR⟩ : ∃ R, R = Ty.txt (.mk 15 nm n f ns ms ks) := ⟨_, rfl⟩
  rw [← hR]
  obtain ⟨L, hL⟩ : ∃ L, L = fldI (ns.map LB) (sgL ks) := ⟨_, rfl⟩
  have HR : Hid (R = if L = [] then [97, 110, 121] else rowB [105, 110, 116, 101, 114, 102, 97, 99, 101] L) := by show _ = _; rw [hR, hL]; simp [Ty.txt, txK]
  have HSC : Hid (∀ i (h : i < ks.length) (h' : i < (sgL ks).length), SgC ks[i] (sgL ks)[i]) := hS
  have HSL : Hid ((sgL ks).length = ks.length) := sgL_len ks
  rw [← hL] at hb
  have HSB : Hid (sumB L ≤ 100000000) := hb
  have HLL : Hid (L.length = lk) := by show _ = _; rw [hL, fldI_full (by rw [List.length_map, sgL_len, hn]), List.length_map, hn, hlk]
  have HLG : Hid (∀ i (h : i < L.length) (h1 : i < ns.length) (h2 : i < (sgL ks).length), L[i] = LB ns[i] ++ (sgL ks)[i]) := fun i h h1 h2 => by
    subst hL
    rw [fldI_get i (by simpa using h1) h2]; simp
  obtain ⟨i0, i1, i2, i3, i4⟩ := info9_ex
  have HI : Hid (Try.prog.info? 9 = some i0 ∧ i0.zero = some (.string ⟨#[]⟩) ∧ i0.size = 1 ∧ i0.bytes = 16) := ⟨i1, i2, i3, i4⟩
  clear i1 i2 i3 i4 hb0 hp hR hb hS hlk hlm hn hk hL e0 hel hq8 hlen
  go_enter Try.func12, Try.ntmps12
  go_wp2_with fail
  generalize w.alloc (.cells #[.int .i64 15, .string nm, .int .i64 n, .bool f, .slice an lk cn, .slice am lm cm, .slice ak lk ck] 26) = W0 at *
  have hz0 := HB0.out.size
  go_loopg [3, 4] lk (fun g u3 u4 wr => ∃ (i : Nat) (l : List Bs) (ua : Option Addr) (uc : Nat), i ≤ lk ∧ lk - i ≤ g ∧ u4 = .int .i64 i ∧ u3 = .slice ua l.length uc ∧ l.length = i ∧ Hid (l = L.take i ∧ Below W0.heap.size W0 wr ∧ SRow wr W0.heap.size (.slice ua l.length uc) l))
  case atStart => exact ⟨0, [], none, 0, Nat.zero_le _, Nat.le_refl _, rfl, rfl, rfl, rfl, Below.refl _ _, SRow.nil _ _⟩
  case round =>
    obtain ⟨i, l, ua, uc, hi, hg, rfl, rfl, hai, HX⟩ := hrel
    have HAI : Hid (l.length = i) := hai
    have hai2 : l.length ≤ 1000 := by omega
    clear hai
    have hzr := HX.out.2.1.size
    by_cases hlt : i < lk
    · have z1 : (i : Int) < (lk : Int) := by omega
      have z0 : (0 : Int) ≤ (i : Int) := by omega
      have hlx : i < ks.length := by rw [← HLK.out]; exact hlt
      have hly : i < ns.length := by rw [← HLN.out]; exact hlt
      have hlz : i < (sgL ks).length := by rw [HSL.out]; exact hlx
      have hlw : i < L.length := by rw [HLL.out]; exact hlt
      obtain ⟨b, o, rfl, hbw, hBb, hli⟩ := HEL.out i hlx
      obtain ⟨g1, o1, rfl, ht1⟩ := HNS.out.get hly
      obtain ⟨e0, e1, e2, e3, v4, v5, v6, e4, e5, e6, hpx⟩ := lies_iff.1 hli
      obtain ⟨bn, dn, bm, dm, bk, dk, rfl, rfl, rfl⟩ := hpx.form
      obtain ⟨s0, s1, s2, s3, s4, s5, s6⟩ := bx7 HBK.out
      have hbr := HB0.out
      have hbd : Below w.heap.size w wr.drew := (hbr.trans (HX.out.2.1.mono hz0)).trans ((below_drew1 wr).mono (by omega))
      have hc := HSC.out i hlx hlz B wr.drew _ _ _ (hpx.kept hbd)
      have e0 := kept_cell hbr e0
      have e1 := kept_cell hbr e1
      have e2 := kept_cell hbr e2
      have e3 := kept_cell hbr e3
      have e4 := kept_cell hbr e4
      have e5 := kept_cell hbr e5
      have e6 := kept_cell hbr e6
      have ht1 := kept_cell hbr ht1
      have HNX : Hid (L.take (i + 1) = l ++ [LB ns[i] ++ (sgL ks)[i]]) := by
        show _ = _
        rw [List.take_succ_eq_append_getElem hlw, ← HX.out.1, HLG.out i hlw hly hlz]
      have hsz : (LB ns[i]).length + ((sgL ks)[i]).length ≤ 100000000 := by
        have h1 := sumB_get hlw
        rw [HLG.out i hlw hly hlz, List.length_append] at h1
        have := HSB.out
        omega
      rw [LB_len] at hsz
      have hsn : (ns[i]).size ≤ 100000000 := by omega
      have hss : (bs (sgL ks)[i]).size ≤ 100000000 := by rw [bs_size]; omega
      have HXB : Hid (Below W0.heap.size W0 wr) := HX.out.2.1
      have HXR : Hid (SRow wr W0.heap.size (.slice ua l.length uc) l) := HX.out.2.2
      have HEQ : Hid (ns[i] ++ bs (sgL ks)[i] = bs (LB ns[i] ++ (sgL ks)[i])) := by show _ = _; rw [← bs_app, bs_LB]
      unfold agT at hc
      clear hli hpx HX hbr hsz hbd
      generalize hT : LB ns[i] ++ (sgL ks)[i] = T at *
      clear hT
      generalize ns[i] = N at *
      generalize bs (sgL ks)[i] = G at *
      generalize (ks[i]).kind = ki at *
      generalize (ks[i]).name = ni at *
      generalize (ks[i]).n = nn at *
      generalize (ks[i]).flag = fi at *
      generalize (ks[i]).names.length = l1 at *
      generalize (ks[i]).marks.length = l2 at *
      generalize (ks[i]).kids.length = l3 at *
      have KK : Hid (∀ W9, Below W0.heap.size W0 W9 → (W9.cell? ⟨w.heap.size, 4, none⟩ = some (.slice (some ⟨g1, o1, none⟩) lk cn) ∧ W9.cell? ⟨w.heap.size, 6, none⟩ = some (.slice (some ⟨b, o, none⟩) lk ck) ∧ W9.cell? ⟨g1, o1 + i, none⟩ = some (.string N) ∧ W9.cell? ⟨b, o + i * 7, none⟩ = some (.int .i64 ki) ∧ W9.cell? ⟨b, o + i * 7 + 1, none⟩ = some (.string ni) ∧ W9.cell? ⟨b, o + i * 7 + 2, none⟩ = some (.int .i64 nn) ∧ W9.cell? ⟨b, o + i * 7 + 3, none⟩ = some (.bool fi) ∧ W9.cell? ⟨b, o + i * 7 + 4, none⟩ = some (.slice bn l1 dn) ∧ W9.cell? ⟨b, o + i * 7 + 5, none⟩ = some (.slice bm l2 dm) ∧ W9.cell? ⟨b, o + i * 7 + 6, none⟩ = some (.slice bk l3 dk))) := fun W9 h9 => ⟨kept_cell h9 s4, kept_cell h9 s6, kept_cell h9 ht1, kept_cell h9 e0, kept_cell h9 e1, kept_cell h9 e2, kept_cell h9 e3, kept_cell h9 e4, kept_cell h9 e5, kept_cell h9 e6⟩
      have hadd : ¬ 9223372036854775807 < N.size + G.size := by omega
      have kS : (wr.cell? ⟨w.heap.size, 4, none⟩ = some (.slice (some ⟨g1, o1, none⟩) lk cn) ∧ wr.cell? ⟨w.heap.size, 6, none⟩ = some (.slice (some ⟨b, o, none⟩) lk ck) ∧ wr.cell? ⟨g1, o1 + i, none⟩ = some (.string N) ∧ wr.cell? ⟨b, o + i * 7, none⟩ = some (.int .i64 ki) ∧ wr.cell? ⟨b, o + i * 7 + 1, none⟩ = some (.string ni) ∧ wr.cell? ⟨b, o + i * 7 + 2, none⟩ = some (.int .i64 nn) ∧ wr.cell? ⟨b, o + i * 7 + 3, none⟩ = some (.bool fi) ∧ wr.cell? ⟨b, o + i * 7 + 4, none⟩ = some (.slice bn l1 dn) ∧ wr.cell? ⟨b, o + i * 7 + 5, none⟩ = some (.slice bm l2 dm) ∧ wr.cell? ⟨b, o + i * 7 + 6, none⟩ = some (.slice bk l3 dk)) := KK.out wr HXB.out
      have z4 := kS.1
      have z6 := kS.2.1
      have hw0 := kept_cell HXB.out s0
      clear s0 s1 s2 s3 s4 s5 s6 ht1 e0 e1 e2 e3 e4 e5 e6
      go_wp2_with fail
      go_region_held3 (fun w' => (w'.cell? ⟨w.heap.size, 4, none⟩ = some (.slice (some ⟨g1, o1, none⟩) lk cn) ∧ w'.cell? ⟨w.heap.size, 6, none⟩ = some (.slice (some ⟨b, o, none⟩) lk ck) ∧ w'.cell? ⟨g1, o1 + i, none⟩ = some (.string N) ∧ w'.cell? ⟨b, o + i * 7, none⟩ = some (.int .i64 ki) ∧ w'.cell? ⟨b, o + i * 7 + 1, none⟩ = some (.string ni) ∧ w'.cell? ⟨b, o + i * 7 + 2, none⟩ = some (.int .i64 nn) ∧ w'.cell? ⟨b, o + i * 7 + 3, none⟩ = some (.bool fi) ∧ w'.cell? ⟨b, o + i * 7 + 4, none⟩ = some (.slice bn l1 dn) ∧ w'.cell? ⟨b, o + i * 7 + 5, none⟩ = some (.slice bm l2 dm) ∧ w'.cell? ⟨b, o + i * 7 + 6, none⟩ = some (.slice bk l3 dk)))
        (first | exact kS | exact kA _ | go_keep)
        (first
          | ((with_reducible refine hc.mono ?_); rintro e w1 ⟨rfl, hq⟩; have hbw1 : Below wr.heap.size wr w1 := bthen (below_drew1 wr) hq; have HB1 : Hid (Below W0.heap.size W0 w1) := HXB.out.trans (hbw1.mono hzr); have kS : (w1.cell? ⟨w.heap.size, 4, none⟩ = some (.slice (some ⟨g1, o1, none⟩) lk cn) ∧ w1.cell? ⟨w.heap.size, 6, none⟩ = some (.slice (some ⟨b, o, none⟩) lk ck) ∧ w1.cell? ⟨g1, o1 + i, none⟩ = some (.string N) ∧ w1.cell? ⟨b, o + i * 7, none⟩ = some (.int .i64 ki) ∧ w1.cell? ⟨b, o + i * 7 + 1, none⟩ = some (.string ni) ∧ w1.cell? ⟨b, o + i * 7 + 2, none⟩ = some (.int .i64 nn) ∧ w1.cell? ⟨b, o + i * 7 + 3, none⟩ = some (.bool fi) ∧ w1.cell? ⟨b, o + i * 7 + 4, none⟩ = some (.slice bn l1 dn) ∧ w1.cell? ⟨b, o + i * 7 + 5, none⟩ = some (.slice bm l2 dm) ∧ w1.cell? ⟨b, o + i * 7 + 6, none⟩ = some (.slice bk l3 dk)) := KK.out w1 HB1.out; have hz1 := HB1.out.size; have kA : ∀ o9, ((w1.alloc o9).cell? ⟨w.heap.size, 4, none⟩ = some (.slice (some ⟨g1, o1, none⟩) lk cn) ∧ (w1.alloc o9).cell? ⟨w.heap.size, 6, none⟩ = some (.slice (some ⟨b, o, none⟩) lk ck) ∧ (w1.alloc o9).cell? ⟨g1, o1 + i, none⟩ = some (.string N) ∧ (w1.alloc o9).cell? ⟨b, o + i * 7, none⟩ = some (.int .i64 ki) ∧ (w1.alloc o9).cell? ⟨b, o + i * 7 + 1, none⟩ = some (.string ni) ∧ (w1.alloc o9).cell? ⟨b, o + i * 7 + 2, none⟩ = some (.int .i64 nn) ∧ (w1.alloc o9).cell? ⟨b, o + i * 7 + 3, none⟩ = some (.bool fi) ∧ (w1.alloc o9).cell? ⟨b, o + i * 7 + 4, none⟩ = some (.slice bn l1 dn) ∧ (w1.alloc o9).cell? ⟨b, o + i * 7 + 5, none⟩ = some (.slice bm l2 dm) ∧ (w1.alloc o9).cell? ⟨b, o + i * 7 + 6, none⟩ = some (.slice bk l3 dk)) := (fun o9 => KK.out _ (HB1.out.alloc hz1 o9)); have HR1 : Hid (SRow w1 W0.heap.size (.slice ua l.length uc) l) := own_whole HXR.out hbw1; clear hq hc hbw1)
          | (refine step_append_lies _ (by rfl) _ _ _ (by rfl) W0.heap.size 9 i0 _ 1 16 Try.underlying22 HI.out.1 HI.out.2.1 HI.out.2.2.1 HI.out.2.2.2 rfl (by omega) (.slice ua l.length uc) l.length (sv l) (by rfl) (HR1.out.alloc _) ⟨w1.heap.size, 0, none⟩ 1 1 [.string (N ++ G)] (by rfl) (by rfl) (World.news_of_block (heap_alloc_new w1 _)) (by simp [Value.oneCell']) (by omega) (by unfold maxLen; omega) (by omega) (by simp; omega) (w1.heap.size + 1) (by simp) ?_; intro gg cap w9 hown hgrow hat hlt9; have HO9 : Hid (w9.ownsRow W0.heap.size 9 1 (.slice (some ⟨gg, 0, none⟩) (l.length + 1) cap) (l.length + 1) (sv l ++ [.string (N ++ G)])) := hown; have HB9 : Hid (Below W0.heap.size W0 w9) := (HB1.out.alloc hz1 _).grown hgrow (by simp; omega) (fun b hb => (HR1.out.blk hb).1); have kS : (w9.cell? ⟨w.heap.size, 4, none⟩ = some (.slice (some ⟨g1, o1, none⟩) lk cn) ∧ w9.cell? ⟨w.heap.size, 6, none⟩ = some (.slice (some ⟨b, o, none⟩) lk ck) ∧ w9.cell? ⟨g1, o1 + i, none⟩ = some (.string N) ∧ w9.cell? ⟨b, o + i * 7, none⟩ = some (.int .i64 ki) ∧ w9.cell? ⟨b, o + i * 7 + 1, none⟩ = some (.string ni) ∧ w9.cell? ⟨b, o + i * 7 + 2, none⟩ = some (.int .i64 nn) ∧ w9.cell? ⟨b, o + i * 7 + 3, none⟩ = some (.bool fi) ∧ w9.cell? ⟨b, o + i * 7 + 4, none⟩ = some (.slice bn l1 dn) ∧ w9.cell? ⟨b, o + i * 7 + 5, none⟩ = some (.slice bm l2 dm) ∧ w9.cell? ⟨b, o + i * 7 + 6, none⟩ = some (.slice bk l3 dk)) := KK.out w9 HB9.out; clear hown hgrow hat))
      all_goals
        go_wp2_with fail
        go_roundg (lk - (i + 1))
        case measure => omega
        case rel => exact ⟨i + 1, l ++ [T], some ⟨gg, 0, none⟩, cap, by omega, Nat.le_refl _, by go_num, by simp, by simp; exact HAI.out, HNX.out.symm, HB9.out, by
          have := HO9.out
          simp only [SRow, List.length_append, List.length_singleton]
          rw [show sv (l ++ [T]) = sv l ++ [.string (bs T)] by simp [sv], ← HEQ.out]
          exact this⟩
    · have z1 : ¬ (i : Int) < (lk : Int) := by omega
      obtain ⟨s0, s1, s2, s3, s4, s5, s6⟩ := bx7 HBK.out
      have s0 := kept_cell HX.out.2.1 s0
      have s4 := kept_cell HX.out.2.1 s4
      have s6 := kept_cell HX.out.2.1 s6
      have HE : Hid (l = L) := by
        show _ = _
        rw [HX.out.1, List.take_of_length_le (by rw [HLL.out]; omega)]
      have HW : Hid (Below w.heap.size w wr) := HB0.out.trans (HX.out.2.1.mono hz0)
      have hrow := HX.out.2.2.txb
      by_cases hl0 : l = []
      · obtain rfl := hl0
        have HRE : Hid (R = [97, 110, 121]) := by show _ = _; rw [HR.out, ← HE.out, if_pos rfl]
        clear HX hrow
        go_wp2_with fail
        go_ret
        exact ⟨by rw [HRE.out]; rfl, HW.out⟩
      · have hn0 : l.length ≠ 0 := by simpa using hl0
        have k0 := nat_bne (b := 0) hn0
        have hJ := rrow_any hrow [105, 110, 116, 101, 114, 102, 97, 99, 101] (by
          have h1 := joinF_len [59, 32] l true
          rw [HE.out] at h1 ⊢
          have h2 := HSB.out
          have h3 := HLL.out
          simp only [List.length_cons, List.length_nil] at h1
          omega) (by simp)
        have HRE : Hid (R = rowB [105, 110, 116, 101, 114, 102, 97, 99, 101] l) := by show _ = _; rw [HR.out, ← HE.out, if_neg hl0]
        rw [← HRE.out] at hJ
        clear HX hrow hl0 HRE
        generalize l.length = ll at *
        go_wp2_with (go_at_call 48; refine hJ.mono ?_; rintro e w9 ⟨rfl, hw9⟩; obtain rfl := hw9.symm; clear hJ)
        go_ret
        exact ⟨rfl, HW.out⟩
end Go.Proofs.Ytifcikhgbafegaa
