/-
  recastref1.Apply of any edits to any files.
-/
import Derived.Test.YtbgkdofjndocfaaFilesX
namespace Go.Proofs.Ytbgkdofjndocfaa
open Go.RowKit Go.Maps
attribute [local go_sem ↓] Go.wp_at_zero Go.wp_at_succ
theorem fit_here {fs : List Fi} {out : List Ed} (hf : Fit fs out) (ha : Apart fs fs.length) (j : Nat) (hj : j < fs.length) : ∀ e ∈ out, e.1 = (fs.getD j default).1 → e.2.2.1 ≤ ((fs.getD j default).2.size : Int) := by
  intro e he h1
  obtain ⟨k, hk, h2, h3⟩ := hf e he
  have hkj : k = j := by
    rcases Nat.lt_trichotomy k j with h | h | h
    · exact absurd (h2.trans h1) (ha k j h hj)
    · exact h
    · exact absurd (h2.trans h1).symm (ha j k h hk)
  subst hkj
  exact h3
theorem ofP_drop_okE {l out : List Ed} {p s : ByteArray} (h : Srt l out) (hf : ∀ e ∈ out, e.1 = p → e.2.2.1 ≤ (s.size : Int)) (k : Nat) : okE s 0 (ofP p (out.drop k)) := by
  refine okE_of s _ 0 (fun x hx => ?_) ((h.pw.sublist (List.drop_sublist k out)).filter _) (fun x hx y hy => by rw [(ofP_mem.1 hx).2, (ofP_mem.1 hy).2]) (by omega)
  obtain ⟨h1, h2⟩ := ofP_mem.1 hx
  have ho := List.mem_of_mem_drop h1
  have h3 := h.good.1 x ((h.mem x).1 ho)
  exact ⟨h3, by have := h3.1; omega, hf x ho h2⟩
theorem byte_eq {a : ByteArray} {l : List UInt8} (h : a.data.toList = l) : a = ⟨l.toArray⟩ := by
  subst h; rfl
theorem new_next {l out : List Ed} {fs : List Fi} (h : Srt l out) (hf : Fit fs out) (ha : Apart fs fs.length) (j : Nat) (hj : j < fs.length) (S : ByteArray) (hS : S.data.toList = repR (fs.getD j default).2.data.toList (ofP (fs.getD j default).1 out)) :
    flatF ((fs.take (j + 1)).map (newF out)) = flatF ((fs.take j).map (newF out)) ++ [.string (fs.getD j default).1, .string S] := by
  have hok := ofP_drop_okE h (fit_here hf ha j hj) 0
  rw [List.drop_zero] at hok
  rw [repR_eq _ _ 0 hok, List.take_zero, List.nil_append] at hS
  have e : fs.take (j + 1) = fs.take j ++ [fs.getD j default] := by
    rw [List.take_add_one, List.getElem?_eq_getElem hj]
    simp [List.getD_eq_getElem?_getD, hj]
  rw [e, List.map_append, byte_eq hS]
  simp [flatF, encF, newF]
theorem ref_step {l out : List Ed} {P s : ByteArray} (h : Srt l out) (hf : ∀ e ∈ out, e.1 = P → e.2.2.1 ≤ (s.size : Int)) (hs : s.size ≤ 1048576) (hz : ∀ x ∈ out, x.2.2.2.size ≤ 1048576) (hol : out.length ≤ 1048576) (m : Nat) (S : ByteArray) (hm : m < out.length)
    (hS : S.data.toList = repR s.data.toList (ofP P (out.drop (out.length - m)))) :
    (((out.getD (out.length - 1 - m) default).1.toList == P.toList) = false → S.data.toList = repR s.data.toList (ofP P (out.drop (out.length - (m + 1))))) ∧
    (((out.getD (out.length - 1 - m) default).1.toList == P.toList) = true → 0 ≤ (out.getD (out.length - 1 - m) default).2.1 ∧ (out.getD (out.length - 1 - m) default).2.1 ≤ (out.getD (out.length - 1 - m) default).2.2.1 ∧ (out.getD (out.length - 1 - m) default).2.2.1 ≤ (S.size : Int) ∧ S.size ≤ 2199024304128 ∧ (out.getD (out.length - 1 - m) default).2.2.2.size ≤ 1048576 ∧
      (S.extract 0 (out.getD (out.length - 1 - m) default).2.1.toNat ++ (out.getD (out.length - 1 - m) default).2.2.2 ++ S.extract (out.getD (out.length - 1 - m) default).2.2.1.toNat S.size).data.toList = repR s.data.toList (ofP P (out.drop (out.length - (m + 1))))) := by
  have hk : out.length - 1 - m < out.length := by omega
  have hd : out.drop (out.length - (m + 1)) = out.getD (out.length - 1 - m) default :: out.drop (out.length - m) := by
    have := drop_getD out (out.length - 1 - m) hk
    rw [show out.length - 1 - m + 1 = out.length - m by omega, show out.length - 1 - m = out.length - (m + 1) by omega] at this
    rw [show out.length - 1 - m = out.length - (m + 1) by omega]
    exact this
  have hok := ofP_drop_okE h hf (out.length - (m + 1))
  have hxm := getD_mem out (out.length - 1 - m) hk
  have hxz := hz _ hxm
  have hrl : (ofP P (out.drop (out.length - m))).length ≤ 1048575 := by
    have h1 : (ofP P (out.drop (out.length - m))).length ≤ (out.drop (out.length - m)).length := List.length_filter_le _ _
    have h2 : (out.drop (out.length - m)).length = m := by simp; omega
    omega
  have hrz : ∀ x ∈ ofP P (out.drop (out.length - m)), x.2.2.2.size ≤ 1048576 := fun x hx => hz x (List.mem_of_mem_drop (ofP_mem.1 hx).1)
  rw [hd] at hok ⊢
  generalize out.getD (out.length - 1 - m) default = x at *
  generalize out.drop (out.length - m) = r at *
  unfold ofP at hok ⊢
  rw [List.filter_cons] at hok ⊢
  refine ⟨fun hb => ?_, fun hb => ?_⟩
  · rw [hb]; simpa [ofP] using hS
  · rw [hb] at hok ⊢
    simp only [if_true] at hok ⊢
    obtain ⟨h1, h2, h3, h4⟩ := hok
    change okE s x.2.2.1.toNat (ofP P r) at h4
    have e := repR_eq s (ofP P r) x.2.2.1.toNat h4
    have hsl : s.data.toList.length = s.size := rfl
    have hSl : S.data.toList.length = S.size := rfl
    have hSz : S.size = (s.data.toList.take x.2.2.1.toNat).length + (repL s.data.toList x.2.2.1.toNat (ofP P r)).length := by
      rw [← hSl, hS, e, List.length_append]
    have ht : (s.data.toList.take x.2.2.1.toNat).length = x.2.2.1.toNat := by simp; omega
    have hL := repL_len s.data.toList 1048576 hs (ofP P r) x.2.2.1.toNat hrz
    refine ⟨by omega, h2, by omega, by omega, hxz, ?_⟩
    rw [repR]
    change _ = (repR s.data.toList (ofP P r)).take x.2.1.toNat ++ x.2.2.2.data.toList ++ (repR s.data.toList (ofP P r)).drop x.2.2.1.toNat
    rw [← hS]
    rw [ByteArray.data_append, ByteArray.data_append, Array.toList_append, Array.toList_append, ext_list, ext_list]
    simp only [List.drop_zero, Nat.sub_zero]
    rw [List.take_of_length_le (l := S.data.toList.drop x.2.2.1.toNat) (by simp)]
/-- Does an edit fit one of the first k files? -/
def fitK (fs : List Fi) (e : Ed) (k : Nat) : Bool := (List.range k).any fun j => (fs.getD j default).1.toList == e.1.toList && decide (e.2.2.1 ≤ ((fs.getD j default).2.size : Int))
theorem fitK_succ (fs : List Fi) (e : Ed) (k : Nat) : fitK fs e (k + 1) = (fitK fs e k || ((fs.getD k default).1.toList == e.1.toList && decide (e.2.2.1 ≤ ((fs.getD k default).2.size : Int)))) := by
  unfold fitK
  rw [List.range_succ, List.any_append]
  simp
theorem fitK_iff (fs : List Fi) (e : Ed) (k : Nat) : fitK fs e k = true ↔ ∃ j, j < k ∧ (fs.getD j default).1 = e.1 ∧ e.2.2.1 ≤ ((fs.getD j default).2.size : Int) := by
  unfold fitK
  rw [List.any_eq_true]
  constructor
  · rintro ⟨j, hj, h⟩
    rw [Bool.and_eq_true, decide_eq_true_eq] at h
    exact ⟨j, List.mem_range.1 hj, toList_inj (by simpa using h.1), h.2⟩
  · rintro ⟨j, hj, h1, h2⟩
    exact ⟨j, List.mem_range.2 hj, by rw [Bool.and_eq_true, decide_eq_true_eq, h1]; exact ⟨by simp, h2⟩⟩
theorem news_top2 (w : World) (u v : Value) : ∀ j x, [u, v][j]? = some x → (w.alloc (.cells #[u, v] 50)).cell? ((⟨w.heap.size, 0, none⟩ : Addr).add j) = some x :=
  World.news_of_block (w := w.alloc (.cells #[u, v] 50)) (heap_alloc_new w (.cells #[u, v] 50))
set_option maxRecDepth 100000 in
theorem info50_ex : ∃ i0, Try.prog.info? 50 = some i0 ∧ i0.zero = some (.agg #[.string ⟨#[]⟩, .string ⟨#[]⟩]) ∧ i0.size = 2 ∧ i0.bytes = 32 := ⟨_, rfl, rfl, rfl, rfl⟩
set_option maxRecDepth 100000 in
set_option maxHeartbeats 4000000 in
theorem rapply_any (vf vl : Value) (fs : List Fi) (l : List Ed) (w : World) (hF : FiArg w vf fs) (hE : EdArg w vl l) (hn1 : fs.length ≤ 1000000) (hl1 : l.length ≤ 1048576)
    (hsz : ∀ j, j < fs.length → (fs.getD j default).1.size ≤ 1048576 ∧ (fs.getD j default).2.size ≤ 1048576) (hesz : ∀ x ∈ l, x.1.size ≤ 1048576 ∧ x.2.2.2.size ≤ 1048576) :
    Calls Try.prog 15 #[vf, vl] w fun e w' => ApPost fs l w e w' := by
  have h11 := rsorted_sp vl l w (by omega) hE
  obtain ⟨fa, fc, rfl, hfs⟩ := hF.shape
  have HSZ : Hid (∀ j, j < fs.length → (fs.getD j default).1.size ≤ 1048576 ∧ (fs.getD j default).2.size ≤ 1048576) := hsz
  have HESZ : Hid (∀ x ∈ l, x.1.size ≤ 1048576 ∧ x.2.2.2.size ≤ 1048576) := hesz
  clear hsz hesz hF hE
  generalize hN : fs.length = n at *
  have HN : Hid (fs.length = n) := hN
  have hnl : n ≤ fs.length := by omega
  have hnl2 : fs.length ≤ n := by omega
  clear hN
  go_enter Try.func15, Try.ntmps15
  go_wp2_with fail
  refine h11.mono ?_
  rintro e w1 ⟨hb1, ⟨a, cap, out, hs, rfl, hrow⟩ | ⟨hng, rfl⟩⟩
  · clear h11
    have HS : Hid (Srt l out) := hs
    have hol := hs.len
    have HB1 : Hid (Below w.heap.size w w1) := hb1
    have hfs1 : 0 < n → ∃ F fo, fa = some ⟨F, fo, none⟩ ∧ F < w1.heap.size ∧ FilesAt w1 F fo fs := fun h => by
      obtain ⟨F, fo, h1, h2, h3⟩ := hfs h
      exact ⟨F, fo, h1, Nat.lt_of_lt_of_le h2 hb1.size, h3.below h2 hb1⟩
    have hz1 := hb1.size
    clear hs hb1 hfs
    go_wp2_with fail
    go_loopw [8] (fun x w' => ∃ i q : Nat, i ≤ n ∧ x = .int .i64 i ∧ w' = w1.drewN q ∧ Hid (Apart fs i)) (fun x _ => n - (intOf x).toNat)
    case atStart => exact ⟨0, 0, by omega, rfl, rfl, fun a b _ h => by omega⟩
    case round =>
      obtain ⟨i, q1, hi, rfl, rfl, HP⟩ := hrel
      by_cases hlt : i < n
      · go_wp2_with fail
        go_loopw [9] (fun x w' => ∃ k q : Nat, k ≤ i ∧ x = .int .i64 k ∧ w' = w1.drewN q ∧ Hid (∀ a, a < k → (fs.getD a default).1 ≠ (fs.getD i default).1)) (fun x _ => i - (intOf x).toNat)
        case atStart => exact ⟨0, q1, by omega, rfl, rfl, fun a h => by omega⟩
        case round =>
          obtain ⟨k, q2, hk, rfl, rfl, HK⟩ := hrel
          by_cases hlt2 : k < i
          · obtain ⟨F, fo, rfl, _, hfA⟩ := hfs1 (by omega)
            have p1 := (hfA.drew q2).p k (by omega)
            have p2 := (hfA.drew q2).p i (by omega)
            have z1 : (0 : Int) ≤ (k : Int) := by omega
            have z2 : (k : Int) < (n : Int) := by omega
            have z3 : (0 : Int) ≤ (i : Int) := by omega
            have z4 : (i : Int) < (n : Int) := by omega
            have HK2 : Hid ((fs.getD k default).1 ≠ (fs.getD i default).1 → ∀ a, a < k + 1 → (fs.getD a default).1 ≠ (fs.getD i default).1) := fun h a ha => by
              rcases Nat.lt_or_ge a k with h1 | h1
              · exact HK.out a h1
              · obtain rfl : a = k := by omega
                exact h
            have HNA : Hid ((fs.getD k default).1 = (fs.getD i default).1 → ¬ Apart fs fs.length) := fun h ha => ha k i hlt2 (by omega) h
            clear HK
            have HD1 : Hid (∀ r, (w1.drewN q2).drewN r = w1.drewN (q2 + r)) := fun r => drewN_two w1 q2 r
            have HBQ : Hid (Below w.heap.size w (w1.drewN q2)) := below_drewN HB1.out q2
            generalize w1.drewN q2 = W2 at *
            clear hfA
            generalize (fs.getD k default).1 = pk at *
            generalize (fs.getD i default).1 = pi at *
            cases hpe : (pk.toList == pi.toList)
            · have hne : pk ≠ pi := fun h => by
                rw [h] at hpe
                simp at hpe
              have HK3 := HK2.out hne
              have HK4 : Hid _ := HK3
              clear HK3 HK2 hne HNA
              go_wp2_with fail
              go_quiet (fail)
              go_wp2_with fail
              go_roundw
              case rel => exact ⟨k + 1, _, by omega, by go_num, HD1.out _, HK4⟩
              case measure => simp [intOf]; omega
            · have HNB : Hid (¬ Apart fs fs.length) := HNA.out (toList_inj (by simpa using hpe))
              clear HK2 HNA
              go_wp2_with fail
              go_quiet (fail)
              go_wp2_with fail
              go_ret2
              exact ⟨below_drewN HBQ.out _, .inr ⟨.inr (.inl HNB.out), rfl⟩⟩
          · obtain rfl : k = i := by omega
            have HP2 : Hid (Apart fs (k + 1)) := fun a b hab hb => by
              rcases Nat.lt_or_ge b k with h1 | h1
              · exact HP.out a b hab h1
              · obtain rfl : b = k := by omega
                exact HK.out a hab
            clear HK HP
            go_wp2_with fail
            go_roundw
            case rel => exact ⟨k + 1, q2, by omega, by go_num, rfl, HP2⟩
            case measure => simp [intOf]; omega
      · obtain rfl : i = n := by omega
        have HAP : Hid (Apart fs fs.length) := by rw [HN.out]; exact HP.out
        clear HP
        go_wp2_with fail
        go_loopw [10] (fun x w' => ∃ j q : Nat, j ≤ out.length ∧ x = .int .i64 j ∧ w' = w1.drewN q ∧ Hid (∀ e ∈ out.take j, ∃ k, k < fs.length ∧ (fs.getD k default).1 = e.1 ∧ e.2.2.1 ≤ ((fs.getD k default).2.size : Int))) (fun x _ => out.length - (intOf x).toNat)
        case atStart => exact ⟨0, q1, by omega, rfl, rfl, fun e he => by simp at he⟩
        case round =>
          obtain ⟨j, q3, hj, rfl, rfl, HJ⟩ := hrel
          by_cases hlt3 : j < out.length
          · obtain ⟨g, rfl, hrw⟩ := hrow (by omega)
            go_wp2_with fail
            go_loopw [11, 12] (fun fb x w' => ∃ k q : Nat, k ≤ i ∧ x = .int .i64 k ∧ fb = .bool (fitK fs (out.getD j default) k) ∧ w' = w1.drewN q) (fun _ x _ => i - (intOf x).toNat)
            case atStart => exact ⟨0, q3, by omega, rfl, rfl, rfl⟩
            case round =>
              obtain ⟨k, q4, hk, rfl, rfl, rfl⟩ := hrel
              by_cases hlt4 : k < i
              · obtain ⟨F, fo, rfl, _, hfA⟩ := hfs1 (by omega)
                have p1 := (hfA.drew q4).p k (by omega)
                have p2 := (hfA.drew q4).t k (by omega)
                obtain ⟨a0, a1, a2, a3⟩ := (hrw.eds j hlt3).drew q4
                have z1 : (0 : Int) ≤ (k : Int) := by omega
                have z2 : (k : Int) < (i : Int) := by omega
                have z3 : (0 : Int) ≤ (j : Int) := by omega
                have z4 : (j : Int) < (out.length : Int) := by omega
                have hst := fitK_succ fs (out.getD j default) k
                have HST : Hid _ := hst
                have HD1 : Hid (∀ r, (w1.drewN q4).drewN r = w1.drewN (q4 + r)) := fun r => drewN_two w1 q4 r
                clear hst hfA
                generalize w1.drewN q4 = W2 at *
                cases hfk : fitK fs (out.getD j default) k
                · rw [hfk] at HST
                  cases hpe : ((fs.getD k default).1.toList == (out.getD j default).1.toList)
                  · have hf1 : fitK fs (out.getD j default) (k + 1) = false := by rw [HST.out, hpe]; rfl
                    have HF1 : Hid (fitK fs (out.getD j default) (k + 1) = false) := hf1
                    clear HST hf1 hfk
                    generalize fs.getD k default = fx at *
                    obtain ⟨pk, tk⟩ := fx
                    generalize hXX : out.getD j default = xx at *
                    have HXX : Hid (out.getD j default = xx) := hXX
                    clear hXX
                    obtain ⟨xp, xa, xb, xt⟩ := xx
                    simp only at p1 p2 a0 a1 a2 a3 hpe
                    go_wp2_with fail
                    go_quiet (fail)
                    go_wp2_with fail
                    go_roundw
                    case rel => exact ⟨k + 1, _, by omega, by go_num, by rw [HF1.out], HD1.out _⟩
                    case measure => simp [intOf]; omega
                  · by_cases hle : (out.getD j default).2.2.1 ≤ ((fs.getD k default).2.size : Int)
                    · have hf1 : fitK fs (out.getD j default) (k + 1) = true := by rw [HST.out, hpe, decide_eq_true hle]; rfl
                      have HF1 : Hid (fitK fs (out.getD j default) (k + 1) = true) := hf1
                      clear HST hf1 hfk
                      generalize fs.getD k default = fx at *
                      obtain ⟨pk, tk⟩ := fx
                      generalize hXX : out.getD j default = xx at *
                      have HXX : Hid (out.getD j default = xx) := hXX
                      clear hXX
                      obtain ⟨xp, xa, xb, xt⟩ := xx
                      simp only at p1 p2 a0 a1 a2 a3 hpe hle
                      go_wp2_with fail
                      go_quiet (fail)
                      go_wp2_with fail
                      go_roundw
                      case rel => exact ⟨k + 1, _, by omega, by go_num, by rw [HF1.out], HD1.out _⟩
                      case measure => simp [intOf]; omega
                    · have hf1 : fitK fs (out.getD j default) (k + 1) = false := by rw [HST.out, hpe, decide_eq_false hle]; rfl
                      have HF1 : Hid (fitK fs (out.getD j default) (k + 1) = false) := hf1
                      clear HST hf1 hfk
                      have hle' : decide ((out.getD j default).2.2.1 ≤ ((fs.getD k default).2.size : Int)) = false := decide_eq_false hle
                      have hle2 : ((fs.getD k default).2.size : Int) < (out.getD j default).2.2.1 := by omega
                      generalize fs.getD k default = fx at *
                      obtain ⟨pk, tk⟩ := fx
                      generalize hXX : out.getD j default = xx at *
                      have HXX : Hid (out.getD j default = xx) := hXX
                      clear hXX
                      obtain ⟨xp, xa, xb, xt⟩ := xx
                      simp only at p1 p2 a0 a1 a2 a3 hpe hle hle' hle2
                      go_wp2_with fail
                      go_quiet (fail)
                      go_wp2_with fail
                      go_roundw
                      case rel => exact ⟨k + 1, _, by omega, by go_num, by rw [HF1.out], HD1.out _⟩
                      case measure => simp [intOf]; omega
                · have hf1 : fitK fs (out.getD j default) (k + 1) = true := by rw [HST.out, hfk]; rfl
                  have HF1 : Hid (fitK fs (out.getD j default) (k + 1) = true) := hf1
                  clear HST hf1 hfk
                  go_wp2_with fail
                  go_quiet (fail)
                  go_wp2_with fail
                  go_roundw
                  case rel => exact ⟨k + 1, _, by omega, by go_num, by rw [HF1.out], HD1.out _⟩
                  case measure => simp [intOf]; omega
              · obtain rfl : k = i := by omega
                have HBQ : Hid (Below w.heap.size w (w1.drewN q4)) := below_drewN HB1.out q4
                cases hfk : fitK fs (out.getD j default) k
                · have HNF : Hid (¬ Fit fs out) := fun hf => by
                    have h1 := hf _ (getD_mem out j hlt3)
                    rw [HN.out] at h1
                    rw [(fitK_iff _ _ _).2 h1] at hfk
                    cases hfk
                  clear hfk
                  go_wp2_with fail
                  go_ret2
                  exact ⟨HBQ.out, .inr ⟨.inr (.inr ⟨out, HS.out, HNF.out⟩), rfl⟩⟩
                · have HJ2 : Hid (∀ e ∈ out.take (j + 1), ∃ k, k < fs.length ∧ (fs.getD k default).1 = e.1 ∧ e.2.2.1 ≤ ((fs.getD k default).2.size : Int)) := fun e he => by
                    rw [take_snoc out j hlt3] at he
                    rcases List.mem_append.1 he with he | he
                    · exact HJ.out e he
                    · rw [List.mem_singleton.1 he]
                      obtain ⟨x, hx, h2⟩ := (fitK_iff _ _ _).1 hfk
                      exact ⟨x, by omega, h2⟩
                  clear hfk
                  go_wp2_with fail
                  go_roundw
                  case rel => exact ⟨j + 1, q4, by omega, by go_num, rfl, HJ2⟩
                  case measure => simp [intOf]; omega
          · obtain rfl : j = out.length := by omega
            have hft := HJ.out
            rw [List.take_length] at hft
            have HFT : Hid (Fit fs out) := hft
            clear hft HJ
            obtain ⟨info50, i1, i2, i3, i4⟩ := info50_ex
            have HI : Hid (Try.prog.info? 50 = some info50 ∧ info50.zero = some (.agg #[.string ⟨#[]⟩, .string ⟨#[]⟩]) ∧ info50.size = 2 ∧ info50.bytes = 32) := ⟨i1, i2, i3, i4⟩
            clear i1 i2 i3 i4
            go_wp2_with fail
            go_loopw [13, 14] (fun v x w' => ∃ j : Nat, j ≤ i ∧ x = .int .i64 j ∧ w'.ownsRow w1.heap.size 50 2 v j (flatF ((fs.take j).map (newF out))) ∧ Below w1.heap.size w1 w') (fun _ x _ => i - (intOf x).toNat)
            case atStart => exact ⟨0, by omega, rfl, by simpa [flatF] using World.ownsRow_nil (w1.drewN q3) w1.heap.size 50 2, below_drewN (Below.refl _ _) q3⟩
            case round =>
              obtain ⟨j, hj, rfl, hown, hbl⟩ := hrel
              have HO : Hid (wr.ownsRow w1.heap.size 50 2 u13 j (flatF ((fs.take j).map (newF out)))) := hown
              have HB : Hid (Below w1.heap.size w1 wr) := hbl
              have hz2 := hbl.size
              by_cases hlt : j < i
              · obtain ⟨F, fo, rfl, hFb, hfA⟩ := hfs1 (by omega)
                have hfW : FilesAt wr F fo fs := hfA.below hFb hbl
                have p1 := hfW.p j (by omega)
                have p2 := hfW.t j (by omega)
                have y1 : (0 : Int) ≤ (j : Int) := by omega
                have y2 : (j : Int) < (i : Int) := by omega
                have hrw : 0 < out.length → ∃ g, a = some ⟨g, 0, none⟩ ∧ ∀ x, x < out.length → EdAt wr g x (out.getD x default) := fun h => by
                  obtain ⟨g, h1, h2⟩ := hrow h
                  exact ⟨g, h1, fun x hx => (h2.eds x hx).below h2.hi hbl⟩
                have HNEW : Hid (∀ S : ByteArray, S.data.toList = repR (fs.getD j default).2.data.toList (ofP (fs.getD j default).1 out) → flatF ((fs.take (j + 1)).map (newF out)) = flatF ((fs.take j).map (newF out)) ++ [.string (fs.getD j default).1, .string S]) := fun S hS => new_next HS.out HFT.out HAP.out j (by omega) S hS
                have HSTEP : Hid (∀ (m : Nat) (S : ByteArray), m < out.length → S.data.toList = repR (fs.getD j default).2.data.toList (ofP (fs.getD j default).1 (out.drop (out.length - m))) →
                    (((out.getD (out.length - 1 - m) default).1.toList == (fs.getD j default).1.toList) = false → S.data.toList = repR (fs.getD j default).2.data.toList (ofP (fs.getD j default).1 (out.drop (out.length - (m + 1))))) ∧
                    (((out.getD (out.length - 1 - m) default).1.toList == (fs.getD j default).1.toList) = true → 0 ≤ (out.getD (out.length - 1 - m) default).2.1 ∧ (out.getD (out.length - 1 - m) default).2.1 ≤ (out.getD (out.length - 1 - m) default).2.2.1 ∧ (out.getD (out.length - 1 - m) default).2.2.1 ≤ (S.size : Int) ∧ S.size ≤ 2199024304128 ∧ (out.getD (out.length - 1 - m) default).2.2.2.size ≤ 1048576 ∧
                      (S.extract 0 (out.getD (out.length - 1 - m) default).2.1.toNat ++ (out.getD (out.length - 1 - m) default).2.2.2 ++ S.extract (out.getD (out.length - 1 - m) default).2.2.1.toNat S.size).data.toList = repR (fs.getD j default).2.data.toList (ofP (fs.getD j default).1 (out.drop (out.length - (m + 1)))))) := fun m S hm hS => ref_step HS.out (fit_here HFT.out HAP.out j (by omega)) (HSZ.out j hlt).2 (fun x hx => (HESZ.out x ((HS.out.mem x).1 hx)).2) (by omega) m S hm hS
                clear hown hbl hfA
                have ew0 : IntKind.i64.wrap ((out.length : Int) - 1) = (out.length : Int) - 1 := IntWalk.i64_in _ (by omega)
                generalize hfj : fs.getD j default = fx at *
                clear hfj
                obtain ⟨P, sx⟩ := fx
                simp only at p1 p2
                generalize wr = W0 at *
                go_wp2_with fail
                go_loopw [15, 16] (fun sv x w' => ∃ (m q : Nat) (S : ByteArray), m ≤ out.length ∧ x = .int .i64 ((out.length : Int) - 1 - m) ∧ sv = .string S ∧ w' = W0.drewN q ∧ Hid (S.data.toList = repR sx.data.toList (ofP P (out.drop (out.length - m))))) (fun _ x _ => (intOf x + 1).toNat)
                case atStart => exact ⟨0, 0, sx, by omega, by simp, rfl, rfl, by show sx.data.toList = _; simp [ofP, repR]⟩
                case round =>
                  obtain ⟨m, q5, S, hm, rfl, rfl, rfl, HM⟩ := hrel
                  have HD1 : Hid (∀ r, (W0.drewN q5).drewN r = W0.drewN (q5 + r)) := fun r => drewN_two W0 q5 r
                  by_cases hlm : m < out.length
                  · obtain ⟨g, rfl, heds⟩ := hrw (by omega)
                    obtain ⟨a0, a1, a2, a3⟩ := (heds (out.length - 1 - m) (by omega)).drew q5
                    have r1 := (drewN_cell W0 q5 _).trans p1
                    have hst := HSTEP.out m S hlm HM.out
                    have ej : ((out.length : Int) - 1 - (m : Int)).toNat = out.length - 1 - m := by omega
                    have ew1 : IntKind.i64.wrap ((out.length : Int) - 1 - (m : Int) - 1) = (out.length : Int) - 1 - (m : Int) - 1 := IntWalk.i64_in _ (by omega)
                    have x1 : (0 : Int) ≤ (out.length : Int) - 1 - (m : Int) := by omega
                    have x2 : (out.length : Int) - 1 - (m : Int) < (out.length : Int) := by omega
                    have HIX : Hid ((out.length : Int) - 1 - (m : Int) - 1 = (out.length : Int) - 1 - ((m + 1 : Nat) : Int)) := by show (out.length : Int) - 1 - (m : Int) - 1 = (out.length : Int) - 1 - ((m + 1 : Nat) : Int); omega
                    have HMS : Hid (((out.length : Int) - 1 - (m : Int) - 1 + 1).toNat < ((out.length : Int) - 1 - (m : Int) + 1).toNat) := by show ((out.length : Int) - 1 - (m : Int) - 1 + 1).toNat < ((out.length : Int) - 1 - (m : Int) + 1).toNat; omega
                    have hlz : out.length ≤ 1048576 := by omega
                    clear HSTEP heds HNEW
                    generalize out.getD (out.length - 1 - m) default = x at *
                    obtain ⟨xp, xa, xb, xt⟩ := x
                    simp only at a0 a1 a2 a3 hst
                    generalize W0.drewN q5 = W5 at *
                    generalize out.length - 1 - m = nx at *
                    cases hpe : (xp.toList == P.toList)
                    · have HM2 : Hid (S.data.toList = repR sx.data.toList (ofP P (out.drop (out.length - (m + 1))))) := hst.1 hpe
                      clear hst HM
                      generalize hix : (out.length : Int) - 1 - (m : Int) = ix at *
                      go_wp2_with fail
                      go_quiet (fail)
                      go_wp2_with fail
                      go_roundw
                      case rel => exact ⟨m + 1, _, S, by omega, by rw [HIX.out], rfl, HD1.out _, HM2⟩
                      case measure => exact HMS.out
                    · obtain ⟨b1, b2, b3, b6, b7, hn⟩ := hst.2 hpe
                      have HM2 : Hid ((S.extract 0 xa.toNat ++ xt ++ S.extract xb.toNat S.size).data.toList = repR sx.data.toList (ofP P (out.drop (out.length - (m + 1))))) := hn
                      clear hst HM hn
                      have b4 : xa ≤ (S.size : Int) := by omega
                      have b5 : (0 : Int) ≤ xb := by omega
                      generalize hix : (out.length : Int) - 1 - (m : Int) = ix at *
                      go_wp2_with fail
                      go_quiet (fail)
                      go_wp2_with fail
                      have HD2 : Hid (∀ r, (W5.drewN nq).drewN r = W0.drewN (q5 + nq + r)) := fun r => by
                        have h1 := HD1.out (nq + r)
                        rw [← drewN_two] at h1
                        rw [h1, Nat.add_assoc]
                      generalize hW6 : W5.drewN nq = W6 at *
                      have c1 : W6.cell? ⟨g, nx * 4 + 1, none⟩ = some (.int .i64 xa) := by rw [← hW6]; exact (drewN_cell W5 nq _).trans a1
                      have c2 : W6.cell? ⟨g, nx * 4 + 2, none⟩ = some (.int .i64 xb) := by rw [← hW6]; exact (drewN_cell W5 nq _).trans a2
                      have c3 : W6.cell? ⟨g, nx * 4 + 3, none⟩ = some (.string xt) := by rw [← hW6]; exact (drewN_cell W5 nq _).trans a3
                      clear hW6
                      have hadd1 : ∀ w, (Op.stringOp .add (S.extract 0 xa.toNat) xt).run Try.prog w = .ok (.string (S.extract 0 xa.toNat ++ xt)) w := fun w => run_string_add_sum w _ _ (by simp [ByteArray.size_extract]; omega)
                      have hadd2 : ∀ w, (Op.stringOp .add (S.extract 0 xa.toNat ++ xt) (S.extract xb.toNat S.size)).run Try.prog w = .ok (.string (S.extract 0 xa.toNat ++ xt ++ S.extract xb.toNat S.size)) w := fun w => run_string_add_sum w _ _ (by simp [ByteArray.size_extract, ByteArray.size_append]; omega)
                      go_quiet (fail)
                      go_wp2_with fail
                      go_roundw
                      case rel => exact ⟨m + 1, _, _, by omega, by rw [HIX.out], rfl, HD2.out _, HM2⟩
                      case measure => exact HMS.out
                  · obtain rfl : m = out.length := by omega
                    have hS := HM.out
                    rw [Nat.sub_self, List.drop_zero] at hS
                    have HAPP : Hid (flatF ((fs.take (j + 1)).map (newF out)) = flatF ((fs.take j).map (newF out)) ++ [.string P, .string S]) := HNEW.out S hS
                    have r1 := (drewN_cell W0 q5 _).trans p1
                    have HO5 : Hid ((W0.drewN q5).ownsRow w1.heap.size 50 2 u13 j (flatF ((fs.take j).map (newF out)))) := HO.out
                    have HB5 : Hid (Below w1.heap.size w1 (W0.drewN q5)) := below_drewN HB.out q5
                    have hz5 : w1.heap.size ≤ (W0.drewN q5).heap.size := HB5.out.size
                    have ei : (out.length : Int) - 1 - (out.length : Int) = -1 := by omega
                    rw [ei]
                    clear hS HM HSTEP HNEW ei
                    generalize W0.drewN q5 = W5 at *
                    go_wp2_with (at_builtin; refine wpList_append_lies _ rfl _ _ _ rfl w1.heap.size 50 info50 _ 2 32 Try.underlying34 HI.out.1 HI.out.2.1 HI.out.2.2.1 HI.out.2.2.2 rfl (by omega) u13 j _ rfl (HO5.out.alloc _) ⟨W5.heap.size, 0, none⟩ 1 1 [.string P, .string S] rfl rfl (news_top2 W5 _ _) (by simp [Value.oneCell']) (by omega) (by unfold maxLen; omega) (by omega) (by simp; omega) (W5.heap.size + 1) (by simp) ?_; intro gg cap1 w2 hown2 hgrow2 hat2 hlt2)
                    go_roundw
                    case rel => exact ⟨j + 1, by omega, by go_num, by rw [HAPP.out]; exact hown2, (HB5.out.alloc hz5 _).grown hgrow2 (by simp; omega) (fun k hk => (HO5.out.lt k hk).1)⟩
                    case measure => simp [intOf]; omega
              · obtain rfl : j = i := by omega
                have ht : fs.take j = fs := List.take_of_length_le (by omega)
                rw [ht] at hown
                have HO2 : Hid (wr.ownsRow w1.heap.size 50 2 u13 j (flatF (fs.map (newF out)))) := hown
                clear hown hbl HO
                go_wp2_with fail
                go_ret2
                refine ⟨HB1.out.trans (HB.out.mono hz1), .inl ⟨out, u13, HS.out, HAP.out, HFT.out, rfl, ?_⟩⟩
                rw [HN.out]
                exact HO2.out.mono hz1
  · clear h11
    go_wp2_with fail
    go_ret2
    exact ⟨hb1, .inr ⟨.inl hng, rfl⟩⟩
end Go.Proofs.Ytbgkdofjndocfaa
