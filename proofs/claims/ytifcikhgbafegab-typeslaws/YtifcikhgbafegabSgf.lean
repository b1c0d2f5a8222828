/-
  signature, walked.
-/
import Derived.Test.YtifcikhgbafegabKd2
namespace Go.Proofs.Ytifcikhgbafegab
open Go.RowKit
attribute [local go_sem ↓] Go.wp_at_zero Go.wp_at_succ
/-- the pieces of a function's text without func -/
def sgP (f : Bool) (N n kb ko : Nat) (el : Addr) : List ElQ :=
  [tx ⟨#[40]⟩] ++ (if f then tellP ⟨#[44, 32]⟩ (kidA kb ko (N - 1)) ++ (if 1 < N then [tx ⟨#[44, 32]⟩] else []) ++ [tx ⟨#[46, 46, 46]⟩] ++ [ty el] else tellP ⟨#[44, 32]⟩ (kidA kb ko N)) ++ [tx ⟨#[41]⟩] ++
    (if n - N = 0 then [] else if n - N = 1 then [tx ⟨#[32]⟩, ty ⟨kb, ko + N * 7, none⟩] else [tx ⟨#[32]⟩, tx ⟨#[40]⟩] ++ tellP ⟨#[44, 32]⟩ (kidA kb (ko + N * 7) (n - N)) ++ [tx ⟨#[41]⟩])
theorem kidA_take (b o n m : Nat) (h : m ≤ n) : (kidA b o n).take m = kidA b o m := by
  apply List.ext_getElem?
  intro i
  rw [List.getElem?_take]
  by_cases hi : i < m
  · rw [if_pos hi, kidA_get _ _ _ _ hi, kidA_get _ _ _ _ (by omega)]
  · rw [if_neg hi]; simp [kidA, hi]
theorem kidA_drop (b o n m : Nat) : (kidA b o n).drop m = kidA b (o + m * 7) (n - m) := by
  apply List.ext_getElem?
  intro i
  rw [List.getElem?_drop]
  by_cases hi : i < n - m
  · rw [kidA_get _ _ _ _ hi, kidA_get _ _ _ _ (by omega)]
    congr 2; omega
  · simp [kidA, hi, show ¬ m + i < n by omega]
/-- a part of a row -/
theorem PtV.cut {B : BQ} {W : World} {g n c i m c' : Nat} {l : List Addr} (h : PtV B W (.slice (some ⟨g, 0, none⟩) n c) l) (hm : i + m ≤ l.length) : PtV B W (.slice (some ⟨g, i, none⟩) m c') ((l.drop i).take m) := by
  rcases h with ⟨a, c, e, rfl⟩ | ⟨b, o, c, e, hl, hb, h1, h2⟩
  · have : m = 0 := by simp at hm; omega
    subst this
    exact .inl ⟨_, _, rfl, by simp⟩
  · obtain ⟨⟨rfl, rfl⟩, _⟩ : (g = b ∧ 0 = o) ∧ _ := by simpa using e
    refine .inr ⟨g, i, c', by rw [List.length_take, List.length_drop, Nat.min_eq_left (by omega)], by rw [List.length_take, List.length_drop]; omega, hb, h1, fun j x hx => ?_⟩
    rw [List.getElem?_take] at hx
    split at hx
    · rw [List.getElem?_drop] at hx
      have := h2 (i + j) x hx
      rwa [Nat.zero_add] at this
    · cases hx
theorem own_blk9 {g n c : Nat} {P : Nat → Prop} (h : P g) : ∀ k, (Value.slice (some ⟨g, 0, none⟩) n c).ownBlock = some k → P k := fun k hk => by
  obtain rfl : g = k := by simpa [Value.ownBlock] using hk
  exact h
theorem LQ.tellN {w w1 w2 : World} {L : Nat} {rb : Option Nat} {ps : List ElQ} (s : ByteArray) {a : Option Addr} {n c : Nat} {ts : List Addr} (h : LQ w L rb ps w1) (hb : Below w1.heap.size w1 w2) (ht : PtV (fun b => w1.heap.size ≤ b) w2 (.slice a n c) ts) (hm : ps.length + 2 * ts.length ≤ 1000000) :
    Calls Try.prog 37 #[.pointer (some ⟨L, 0, none⟩), .string s, .slice a n c] w2 fun e w' => (∃ u, e = .returned u) ∧ LQ w L rb (ps ++ tellP s ts) w' := by
  obtain ⟨rb1, hln, hr⟩ := h.ex
  have hl := hln.lt
  have hrl := hln.row_lt
  have hln2 : Ln w2 L rb1 ps := hln.kept (X := fun _ => False) (Kx.of_whole hb) (fun h => h) (fun _ _ h => h)
  refine (tell_any s hln2 (RowV.to ht (X := fun _ => False) (Kx.refl _ _) (fun b _ h => ⟨by omega, fun e => by have := (hrl _ e).1; omega⟩) (fun _ _ _ h => h)) hm).mono fun e w' ⟨he, hq⟩ => ⟨he, ?_⟩
  exact LQ.then hr (h.still hb).kx hq
set_option maxRecDepth 100000 in
set_option maxHeartbeats 8000000 in
theorem sig_f2 {w : World} {L : Nat} {rb : Option Nat} {ps : List ElQ} {b o M n kb ko c sb so sc : Nat} {a : Option Addr} (h : Ln w L rb ps) (hbL : b ≠ L) (hbr : rb ≠ some b)
    (h2 : w.cell? ⟨b, o + 2, none⟩ = some (.int .i64 ((M : Int) + 1))) (h3 : w.cell? ⟨b, o + 3, none⟩ = some (.bool true)) (h6 : w.cell? ⟨b, o + 6, none⟩ = some (.slice a n c)) (ha : 0 < n → a = some ⟨kb, ko, none⟩) (hn1 : n = M + 2) (hM : 1 ≤ M) (hn : ps.length + 2 * n + 20 ≤ 1000000) (hkL : kb ≠ L) (hkr : rb ≠ some kb) (hk0 : w.cell? ⟨kb, ko + M * 7, none⟩ = some (.int .i64 11)) (hk6 : w.cell? ⟨kb, ko + M * 7 + 6, none⟩ = some (.slice (some ⟨sb, so, none⟩) 1 sc)) :
    Calls Try.prog 39 #[.pointer (some ⟨L, 0, none⟩), pv ⟨b, o, none⟩] w fun e w' => (∃ u, e = .returned u) ∧ LQ w L rb (ps ++ sgP true (M + 1) (M + 2) kb ko ⟨sb, so, none⟩) w' := by
  have hk := kids2_any (kb := kb) (ko := ko) h6 ha (by omega)
  have hLw := h.lt
  have hrw := h.row_lt
  have HH : Hid (Ln w L rb ps) := h
  have HK0 : Hid (w.cell? ⟨kb, ko + M * 7, none⟩ = some (.int .i64 11)) := hk0
  have HK6 : Hid (w.cell? ⟨kb, ko + M * 7 + 6, none⟩ = some (.slice (some ⟨sb, so, none⟩) 1 sc)) := hk6
  have H2 : Hid (w.cell? ⟨b, o + 2, none⟩ = some (.int .i64 ((M : Int) + 1))) := h2
  have H3 : Hid (w.cell? ⟨b, o + 3, none⟩ = some (.bool true)) := h3
  subst hn1
  have hmx : max (0 : Int) ((M : Int) + 1) = (M : Int) + 1 := by omega
  have hmn : min ((M : Int) + 1) ((M : Int) + 2) = (M : Int) + 1 := by omega
  clear h h2 h3 h6 hk0 hk6 ha
  go_enter Try.func39, Try.ntmps39
  go_wp2_with fail
  refine hk.mono ?_
  intro e w1 hq
  obtain ⟨g, c1, rfl, hr⟩ := hq.ex
  rw [kidA_len] at hr
  rw [kidA_len]
  have hcap : M + 2 ≤ c1 := by
    rcases hr.2 with ⟨h, _⟩ | ⟨g', cap', cur, h, _, _, h4, _⟩
    · cases h
    · cases h; exact h4
  have hcI : ((M : Int) + 2) ≤ (c1 : Int) := by omega
  have hgw := (hr.lt g rfl)
  have HP : Hid (PtV (fun b => b ≠ L ∧ rb ≠ some b) w1 (.slice (some ⟨g, 0, none⟩) (M + 2) c1) (kidA kb ko (M + 2))) := ptV_own hr (by rw [kidA_len]) (by omega) (own_blk9 ⟨by omega, fun e => by have := (hrw _ e).1; omega⟩)
  have HB1 : Hid (Below w.heap.size w w1) := hq.bl
  have HQ0 : Hid (LQ w1 L rb ps w1) := LQ.refl (HH.out.kept (X := fun _ => False) (Kx.of_whole hq.bl) (fun h => h) (fun _ _ h => h))
  have HEND : Hid (∀ ps' w', LQ w1 L rb ps' w' → LQ w L rb ps' w') := fun ps' w' hq' => LQ.then (fun _ h => .inl h) (Kx.of_whole HB1.out) hq'
  have k2 : w1.cell? ⟨b, o + 2, none⟩ = some (.int .i64 ((M : Int) + 1)) := kept_cell hq.bl H2.out
  have H3' : Hid (w1.cell? ⟨b, o + 3, none⟩ = some (.bool true)) := kept_cell hq.bl H3.out
  clear hq hr hk
  have HPP : Hid (PtV (fun b => b ≠ L ∧ rb ≠ some b) w1 (.slice (some ⟨g, 0, none⟩) M c1) (kidA kb ko M)) := by
    have := HP.out.cut (i := 0) (m := M) (c' := c1) (by rw [kidA_len]; omega)
    rwa [List.drop_zero, kidA_take _ _ _ _ (by omega)] at this
  have HPR : Hid (PtV (fun b => b ≠ L ∧ rb ≠ some b) w1 (.slice (some ⟨g, M + 1, none⟩) 1 (c1 - (M + 1))) [⟨kb, ko + (M + 1) * 7, none⟩]) := by
    have := HP.out.cut (i := M + 1) (m := 1) (c' := c1 - (M + 1)) (by rw [kidA_len]; omega)
    rwa [kidA_drop, show M + 2 - (M + 1) = 1 by omega, kidA_one, List.take_of_length_le (by simp)] at this
  have hCM : w1.cell? ⟨g, M, none⟩ = some (pv ⟨kb, ko + M * 7, none⟩) := by
    obtain ⟨b9, o9, e9, h9⟩ := HP.out.get (i := M) (by rw [kidA_len]; omega)
    obtain ⟨rfl, rfl⟩ : g = b9 ∧ 0 = o9 := by simpa using e9
    rw [Nat.zero_add] at h9
    rw [h9]
    simp [kidA]
  have HCM : Hid (w1.cell? ⟨g, M, none⟩ = some (pv ⟨kb, ko + M * 7, none⟩)) := hCM
  clear hCM
  have HgL : Hid (g ≠ L ∧ rb ≠ some g) := ⟨by omega, fun e => by have := (hrw _ e).1; omega⟩
  have HK0' : Hid (w1.cell? ⟨kb, ko + M * 7, none⟩ = some (.int .i64 11)) := kept_cell HB1.out HK0.out
  have HK6' : Hid (w1.cell? ⟨kb, ko + M * 7 + 6, none⟩ = some (.slice (some ⟨sb, so, none⟩) 1 sc)) := kept_cell HB1.out HK6.out
  have z1 : decide (((M : Int) + 1) ≤ (c1 : Int)) = true := by simp; omega
  have z2 : decide (((M : Int) + 1) ≤ ((M : Int) + 2)) = true := by simp
  have z3 : ((M : Int) + 1) ≤ (c1 : Int) := by omega
  have z4 : M + 1 ≤ c1 := by omega
  have z5 : c1 ≠ M + 1 := by omega
  have z6 : M + 1 ≠ c1 := by omega
  have z7 : ¬ c1 - (M + 1) = 0 := by omega
  go_wp2_with fail
  first | go_quiet (fail) | go_big_quiet (fail)
  go_wp2_with fail
  have HQa : Hid (LQ w1 L rb ps (w1.drewN nq)) := HQ0.out.still (below_dn _ _)
  refine (HQa.out.put ⟨#[40]⟩ (by omega)).mono ?_
  rintro e v1 ⟨⟨u1, rfl⟩, hq⟩
  have HQ1 : Hid _ := hq
  have y3 := hq.cell H3'.out hbL hbr
  have zM : (0 : Int) < (M : Int) + 1 := by omega
  have zM2 : decide ((0 : Int) < (M : Int) + 1) = true := decide_eq_true zM
  have zw : wrap64 ((M : Int) + 1 - 1) = (M : Int) := by unfold wrap64; omega
  have zw2 : ((M : Int) + 1 - 1) = (M : Int) := by omega
  have zM3 : (1 : Int) < (M : Int) + 1 := by omega
  have zM4 : (M : Int) ≤ (c1 : Int) := by omega
  have zM5 : (M : Int) < (M : Int) + 1 := by omega
  clear hq
  go_wp2_with fail
  refine (HQ1.out.tell ⟨#[44, 32]⟩ HPP.out (by simp [kidA_len]; omega)).mono ?_
  rintro e v2 ⟨⟨u2, rfl⟩, hq⟩
  have HQ2 : Hid _ := hq
  clear hq
  go_wp2_with fail
  refine (HQ2.out.put ⟨#[44, 32]⟩ (by have := tellP_len ⟨#[44, 32]⟩ (kidA kb ko M); simp [kidA_len, tellP] at this ⊢; omega)).mono ?_
  rintro e v3 ⟨⟨u3, rfl⟩, hq⟩
  have HQ3 : Hid _ := hq
  clear hq
  go_wp2_with fail
  refine (HQ3.out.put ⟨#[46, 46, 46]⟩ (by have := tellP_len ⟨#[44, 32]⟩ (kidA kb ko M); simp [kidA_len, tellP] at this ⊢; omega)).mono ?_
  rintro e v4 ⟨⟨u4, rfl⟩, hq⟩
  have HQ4 : Hid _ := hq
  clear hq
  have y5 := HQ4.out.cell HCM.out HgL.out.1 HgL.out.2
  have hel := elem_any (HQ4.out.cell HK0'.out hkL hkr) (HQ4.out.cell HK6'.out hkL hkr)
  go_wp2_with fail
  refine hel.mono ?_
  rintro e ve ⟨ae, ce, rfl, hpe, hbe⟩
  have HPE : Hid (PtV (fun b => v4.heap.size ≤ b) ve (.slice ae 1 ce) [⟨sb, so, none⟩]) := hpe
  have HBE : Hid _ := hbe
  clear hpe hbe hel y5
  go_wp2_with fail
  refine (HQ4.out.tellN ⟨#[]⟩ HBE.out HPE.out (by have := tellP_len ⟨#[44, 32]⟩ (kidA kb ko M); simp [kidA_len, tellP] at this ⊢; omega)).mono ?_
  rintro e v5 ⟨⟨u5, rfl⟩, hq⟩
  have HQ5 : Hid _ := hq
  clear hq
  go_wp2_with fail
  refine (HQ5.out.put ⟨#[41]⟩ (by have := tellP_len ⟨#[44, 32]⟩ (kidA kb ko M); simp [kidA_len, tellP] at this ⊢; omega)).mono ?_
  rintro e v6 ⟨⟨u6, rfl⟩, hq⟩
  have HQ6 : Hid _ := hq
  clear hq
  go_wp2_with fail
  refine (HQ6.out.put ⟨#[32]⟩ (by have := tellP_len ⟨#[44, 32]⟩ (kidA kb ko M); simp [kidA_len, tellP] at this ⊢; omega)).mono ?_
  rintro e v7 ⟨⟨u7, rfl⟩, hq⟩
  have HQ7 : Hid _ := hq
  clear hq
  go_wp2_with fail
  refine (HQ7.out.tell ⟨#[]⟩ HPR.out (by have := tellP_len ⟨#[44, 32]⟩ (kidA kb ko M); simp [kidA_len, tellP] at this ⊢; omega)).mono ?_
  rintro e v8 ⟨⟨u8, rfl⟩, hq⟩
  have HQ8 : Hid _ := hq
  clear hq
  go_wp2_with fail
  go_end0
  refine ⟨⟨_, rfl⟩, HEND.out _ _ ?_⟩
  have hfin := HQ8.out
  have e1 : M + 2 - (M + 1) = 1 := by omega
  have e2 : 1 < M + 1 := by omega
  simpa [sgP, tellP, e1, e2, List.append_assoc] using hfin
end Go.Proofs.Ytifcikhgbafegab

