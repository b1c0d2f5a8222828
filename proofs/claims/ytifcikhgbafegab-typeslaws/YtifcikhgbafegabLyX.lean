/-
  lay at names, signs, unions and tuples, walked.
-/
import Derived.Test.YtifcikhgbafegabLay
namespace Go.Proofs.Ytifcikhgbafegab
open Go.RowKit
attribute [local go_sem ↓] Go.wp_at_zero Go.wp_at_succ
set_option maxRecDepth 100000 in
set_option maxHeartbeats 4000000 in
theorem lay_name8 {w : World} {L : Nat} {rb : Option Nat} {ps : List ElQ} {b o : Nat} {s : ByteArray} (h : Ln w L rb ps) (h0 : w.cell? ⟨b, o, none⟩ = some (.int .i64 8)) (h1 : w.cell? ⟨b, o + 1, none⟩ = some (.string s)) (hm : ps.length + 1 ≤ 1000000) :
    Calls Try.prog 19 #[.pointer (some ⟨L, 0, none⟩), pv ⟨b, o, none⟩] w fun e w' => (∃ u, e = .returned u) ∧ LQ w L rb (ps ++ [tx s]) w' := by
  have HQ : Hid (LQ w L rb ps w) := LQ.refl h
  clear h
  go_enter Try.func19, Try.ntmps19
  go_wp2_with fail
  refine (HQ.out.put s hm).mono ?_
  rintro e w2 ⟨⟨u2, rfl⟩, hq⟩
  have HQ2 : Hid _ := hq
  clear hq
  go_wp2_with fail
  go_end0
  exact ⟨⟨_, rfl⟩, HQ2.out⟩
set_option maxRecDepth 100000 in
set_option maxHeartbeats 4000000 in
theorem lay_name9 {w : World} {L : Nat} {rb : Option Nat} {ps : List ElQ} {b o : Nat} {s : ByteArray} (h : Ln w L rb ps) (h0 : w.cell? ⟨b, o, none⟩ = some (.int .i64 9)) (h1 : w.cell? ⟨b, o + 1, none⟩ = some (.string s)) (hm : ps.length + 1 ≤ 1000000) :
    Calls Try.prog 19 #[.pointer (some ⟨L, 0, none⟩), pv ⟨b, o, none⟩] w fun e w' => (∃ u, e = .returned u) ∧ LQ w L rb (ps ++ [tx s]) w' := by
  have HQ : Hid (LQ w L rb ps w) := LQ.refl h
  clear h
  go_enter Try.func19, Try.ntmps19
  go_wp2_with fail
  refine (HQ.out.put s hm).mono ?_
  rintro e w2 ⟨⟨u2, rfl⟩, hq⟩
  have HQ2 : Hid _ := hq
  clear hq
  go_wp2_with fail
  go_end0
  exact ⟨⟨_, rfl⟩, HQ2.out⟩
set_option maxRecDepth 100000 in
set_option maxHeartbeats 4000000 in
theorem lay_one10 {w : World} {L : Nat} {rb : Option Nat} {ps : List ElQ} {b o kb ko c : Nat} (h : Ln w L rb ps) (hbL : b ≠ L) (hbr : rb ≠ some b) (h0 : w.cell? ⟨b, o, none⟩ = some (.int .i64 10)) (h6 : w.cell? ⟨b, o + 6, none⟩ = some (.slice (some ⟨kb, ko, none⟩) 1 c)) (hm : ps.length + 3 ≤ 1000000) :
    Calls Try.prog 19 #[.pointer (some ⟨L, 0, none⟩), pv ⟨b, o, none⟩] w fun e w' => (∃ u, e = .returned u) ∧ LQ w L rb (ps ++ [tx ⟨#[42]⟩, ty ⟨kb, ko, none⟩]) w' := by
  have HQ : Hid (LQ w L rb ps w) := LQ.refl h
  have H6 : Hid (w.cell? ⟨b, o + 6, none⟩ = some (.slice (some ⟨kb, ko, none⟩) 1 c)) := h6
  clear h h6
  go_enter Try.func19, Try.ntmps19
  go_wp2_with fail
  refine (HQ.out.put ⟨#[42]⟩ (by omega)).mono ?_
  rintro e w2 ⟨⟨u2, rfl⟩, hq⟩
  have HQ2 : Hid _ := hq
  clear hq
  have hel := one_any (HQ2.out.cell H6.out hbL hbr)
  go_wp2_with fail
  refine hel.mono ?_
  rintro e ve ⟨ae, ce, rfl, hpe, hbe⟩
  have HPE : Hid (PtV (fun b => w2.heap.size ≤ b) ve (.slice ae 1 ce) [⟨kb, ko, none⟩]) := hpe
  have HBE : Hid _ := hbe
  clear hpe hbe hel
  go_wp2_with fail
  refine (HQ2.out.tellN ⟨#[]⟩ HBE.out HPE.out (by simp; omega)).mono ?_
  rintro e w3 ⟨⟨u3, rfl⟩, hq⟩
  have HQ3 : Hid _ := hq
  clear hq
  go_wp2_with fail
  go_end0
  refine ⟨⟨_, rfl⟩, ?_⟩
  have hfin := HQ3.out
  simpa [tellP] using hfin
set_option maxRecDepth 100000 in
set_option maxHeartbeats 4000000 in
theorem lay_one11 {w : World} {L : Nat} {rb : Option Nat} {ps : List ElQ} {b o kb ko c : Nat} (h : Ln w L rb ps) (hbL : b ≠ L) (hbr : rb ≠ some b) (h0 : w.cell? ⟨b, o, none⟩ = some (.int .i64 11)) (h6 : w.cell? ⟨b, o + 6, none⟩ = some (.slice (some ⟨kb, ko, none⟩) 1 c)) (hm : ps.length + 3 ≤ 1000000) :
    Calls Try.prog 19 #[.pointer (some ⟨L, 0, none⟩), pv ⟨b, o, none⟩] w fun e w' => (∃ u, e = .returned u) ∧ LQ w L rb (ps ++ [tx ⟨#[91, 93]⟩, ty ⟨kb, ko, none⟩]) w' := by
  have HQ : Hid (LQ w L rb ps w) := LQ.refl h
  have H6 : Hid (w.cell? ⟨b, o + 6, none⟩ = some (.slice (some ⟨kb, ko, none⟩) 1 c)) := h6
  clear h h6
  go_enter Try.func19, Try.ntmps19
  go_wp2_with fail
  refine (HQ.out.put ⟨#[91, 93]⟩ (by omega)).mono ?_
  rintro e w2 ⟨⟨u2, rfl⟩, hq⟩
  have HQ2 : Hid _ := hq
  clear hq
  have hel := one_any (HQ2.out.cell H6.out hbL hbr)
  go_wp2_with fail
  refine hel.mono ?_
  rintro e ve ⟨ae, ce, rfl, hpe, hbe⟩
  have HPE : Hid (PtV (fun b => w2.heap.size ≤ b) ve (.slice ae 1 ce) [⟨kb, ko, none⟩]) := hpe
  have HBE : Hid _ := hbe
  clear hpe hbe hel
  go_wp2_with fail
  refine (HQ2.out.tellN ⟨#[]⟩ HBE.out HPE.out (by simp; omega)).mono ?_
  rintro e w3 ⟨⟨u3, rfl⟩, hq⟩
  have HQ3 : Hid _ := hq
  clear hq
  go_wp2_with fail
  go_end0
  refine ⟨⟨_, rfl⟩, ?_⟩
  have hfin := HQ3.out
  simpa [tellP] using hfin
set_option maxRecDepth 100000 in
set_option maxHeartbeats 4000000 in
theorem lay_one12 {w : World} {L : Nat} {rb : Option Nat} {ps : List ElQ} {b o kb ko c : Nat} (h : Ln w L rb ps) (hbL : b ≠ L) (hbr : rb ≠ some b) (h0 : w.cell? ⟨b, o, none⟩ = some (.int .i64 12)) (h6 : w.cell? ⟨b, o + 6, none⟩ = some (.slice (some ⟨kb, ko, none⟩) 1 c)) (hm : ps.length + 3 ≤ 1000000) :
    Calls Try.prog 19 #[.pointer (some ⟨L, 0, none⟩), pv ⟨b, o, none⟩] w fun e w' => (∃ u, e = .returned u) ∧ LQ w L rb (ps ++ [tx ⟨#[99, 104, 97, 110, 32]⟩, ty ⟨kb, ko, none⟩]) w' := by
  have HQ : Hid (LQ w L rb ps w) := LQ.refl h
  have H6 : Hid (w.cell? ⟨b, o + 6, none⟩ = some (.slice (some ⟨kb, ko, none⟩) 1 c)) := h6
  clear h h6
  go_enter Try.func19, Try.ntmps19
  go_wp2_with fail
  refine (HQ.out.put ⟨#[99, 104, 97, 110, 32]⟩ (by omega)).mono ?_
  rintro e w2 ⟨⟨u2, rfl⟩, hq⟩
  have HQ2 : Hid _ := hq
  clear hq
  have hel := one_any (HQ2.out.cell H6.out hbL hbr)
  go_wp2_with fail
  refine hel.mono ?_
  rintro e ve ⟨ae, ce, rfl, hpe, hbe⟩
  have HPE : Hid (PtV (fun b => w2.heap.size ≤ b) ve (.slice ae 1 ce) [⟨kb, ko, none⟩]) := hpe
  have HBE : Hid _ := hbe
  clear hpe hbe hel
  go_wp2_with fail
  refine (HQ2.out.tellN ⟨#[]⟩ HBE.out HPE.out (by simp; omega)).mono ?_
  rintro e w3 ⟨⟨u3, rfl⟩, hq⟩
  have HQ3 : Hid _ := hq
  clear hq
  go_wp2_with fail
  go_end0
  refine ⟨⟨_, rfl⟩, ?_⟩
  have hfin := HQ3.out
  simpa [tellP] using hfin
set_option maxRecDepth 100000 in
set_option maxHeartbeats 4000000 in
theorem union_one {w : World} {L : Nat} {rb : Option Nat} {ps : List ElQ} {b o : Nat} (h : Ln w L rb ps) (h2 : w.cell? ⟨b, o + 2, none⟩ = some (.int .i64 1)) (hm : ps.length + 1 ≤ 1000000) :
    Calls Try.prog 43 #[.pointer (some ⟨L, 0, none⟩), pv ⟨b, o, none⟩] w fun e w' => (∃ u, e = .returned u) ∧ LQ w L rb (ps ++ [tx ⟨#[99, 111, 109, 112, 97, 114, 97, 98, 108, 101]⟩]) w' := by
  have HQ : Hid (LQ w L rb ps w) := LQ.refl h
  clear h
  go_enter Try.func43, Try.ntmps43
  go_wp2_with fail
  refine (HQ.out.put ⟨#[99, 111, 109, 112, 97, 114, 97, 98, 108, 101]⟩ hm).mono ?_
  rintro e w2 ⟨⟨u2, rfl⟩, hq⟩
  have HQ2 : Hid _ := hq
  clear hq
  go_wp2_with fail
  exact bodyPost_ret (results_none rfl _ _ _) rfl ⟨⟨_, rfl⟩, HQ2.out⟩
set_option maxRecDepth 100000 in
set_option maxHeartbeats 4000000 in
theorem union_all {N : Int} {w : World} {L : Nat} {rb : Option Nat} {ps : List ElQ} {b o kb ko n c : Nat} {a : Option Addr} (h : Ln w L rb ps) (h2 : w.cell? ⟨b, o + 2, none⟩ = some (.int .i64 N)) (hN : N ≠ 1) (h6 : w.cell? ⟨b, o + 6, none⟩ = some (.slice a n c)) (ha : 0 < n → a = some ⟨kb, ko, none⟩) (hm : ps.length + 2 * n + 3 ≤ 1000000) :
    Calls Try.prog 43 #[.pointer (some ⟨L, 0, none⟩), pv ⟨b, o, none⟩] w fun e w' => (∃ u, e = .returned u) ∧ LQ w L rb (ps ++ tellP ⟨#[32, 124, 32]⟩ (kidA kb ko n)) w' := by
  have hk := kids_any (kb := kb) (ko := ko) h6 ha (by omega)
  have HH : Hid (Ln w L rb ps) := h
  have hLw := h.lt
  have hrw := h.row_lt
  have zN := int_bne hN
  clear h h6 ha
  go_enter Try.func43, Try.ntmps43
  go_wp2_with fail
  refine hk.mono ?_
  intro e w1 hq
  obtain ⟨a1, c1, rfl, hr⟩ := hq.ex
  rw [kidA_len] at hr
  rw [kidA_len]
  have HP : Hid (PtV (fun b => b ≠ L ∧ rb ≠ some b) w1 (.slice a1 n c1) (kidA kb ko n)) := ptV_own hr (by rw [kidA_len]) (by omega) (fun k hk => by have := hr.lt k hk; exact ⟨by omega, fun e => by have := (hrw _ e).1; omega⟩)
  have HB1 : Hid (Below w.heap.size w w1) := hq.bl
  have HQ0 : Hid (LQ w1 L rb ps w1) := LQ.refl (HH.out.kept (X := fun _ => False) (Kx.of_whole hq.bl) (fun h => h) (fun _ _ h => h))
  have HEND : Hid (∀ ps' w', LQ w1 L rb ps' w' → LQ w L rb ps' w') := fun ps' w' hq' => LQ.then (fun _ h => .inl h) (Kx.of_whole HB1.out) hq'
  clear hq hr hk
  go_wp2_with fail
  refine (HQ0.out.tell ⟨#[32, 124, 32]⟩ HP.out (by simp [kidA_len]; omega)).mono ?_
  rintro e w2 ⟨⟨u2, rfl⟩, hq⟩
  have HQ2 : Hid _ := hq
  clear hq
  go_wp2_with fail
  go_end0
  exact ⟨⟨_, rfl⟩, HEND.out _ _ HQ2.out⟩
set_option maxRecDepth 100000 in
set_option maxHeartbeats 4000000 in
theorem lay_union {w : World} {L : Nat} {rb : Option Nat} {ps : List ElQ} {b o : Nat} {P : List ElQ} (h0 : w.cell? ⟨b, o, none⟩ = some (.int .i64 16)) (hu : Calls Try.prog 43 #[.pointer (some ⟨L, 0, none⟩), pv ⟨b, o, none⟩] w fun e w' => (∃ u, e = .returned u) ∧ LQ w L rb (ps ++ P) w') :
    Calls Try.prog 19 #[.pointer (some ⟨L, 0, none⟩), pv ⟨b, o, none⟩] w fun e w' => (∃ u, e = .returned u) ∧ LQ w L rb (ps ++ P) w' := by
  go_enter Try.func19, Try.ntmps19
  go_wp2_with fail
  refine (hu).mono ?_
  rintro e w2 ⟨⟨u2, rfl⟩, hq⟩
  have HQ2 : Hid _ := hq
  clear hq
  go_wp2_with fail
  go_end0
  exact ⟨⟨_, rfl⟩, HQ2.out⟩
set_option maxRecDepth 100000 in
set_option maxHeartbeats 4000000 in
theorem lay_tuple {w : World} {L : Nat} {rb : Option Nat} {ps : List ElQ} {b o kb ko n c : Nat} {a : Option Addr} (h : Ln w L rb ps) (h0 : w.cell? ⟨b, o, none⟩ = some (.int .i64 17)) (h6 : w.cell? ⟨b, o + 6, none⟩ = some (.slice a n c)) (ha : 0 < n → a = some ⟨kb, ko, none⟩) (hm : ps.length + 2 * n + 3 ≤ 1000000) :
    Calls Try.prog 19 #[.pointer (some ⟨L, 0, none⟩), pv ⟨b, o, none⟩] w fun e w' => (∃ u, e = .returned u) ∧ LQ w L rb (ps ++ ([tx ⟨#[40]⟩] ++ tellP ⟨#[44, 32]⟩ (kidA kb ko n) ++ [tx ⟨#[41]⟩])) w' := by
  have hk := kids_any (kb := kb) (ko := ko) h6 ha (by omega)
  have HH : Hid (Ln w L rb ps) := h
  have hLw := h.lt
  have hrw := h.row_lt
  clear h h6 ha
  go_enter Try.func19, Try.ntmps19
  go_wp2_with fail
  refine hk.mono ?_
  intro e w1 hq
  obtain ⟨a1, c1, rfl, hr⟩ := hq.ex
  rw [kidA_len] at hr
  rw [kidA_len]
  have HP : Hid (PtV (fun b => b ≠ L ∧ rb ≠ some b) w1 (.slice a1 n c1) (kidA kb ko n)) := ptV_own hr (by rw [kidA_len]) (by omega) (fun k hk => by have := hr.lt k hk; exact ⟨by omega, fun e => by have := (hrw _ e).1; omega⟩)
  have HB1 : Hid (Below w.heap.size w w1) := hq.bl
  have HQ0 : Hid (LQ w1 L rb ps w1) := LQ.refl (HH.out.kept (X := fun _ => False) (Kx.of_whole hq.bl) (fun h => h) (fun _ _ h => h))
  have HEND : Hid (∀ ps' w', LQ w1 L rb ps' w' → LQ w L rb ps' w') := fun ps' w' hq' => LQ.then (fun _ h => .inl h) (Kx.of_whole HB1.out) hq'
  clear hq hr hk
  go_wp2_with fail
  refine (brk_any HQ0.out HP.out (by simp [kidA_len]; omega)).mono ?_
  rintro e w2 ⟨⟨u2, rfl⟩, hq⟩
  have HQ2 : Hid _ := hq
  clear hq
  go_wp2_with fail
  go_end0
  refine ⟨⟨_, rfl⟩, HEND.out _ _ ?_⟩
  have hfin := HQ2.out
  simpa [List.append_assoc] using hfin
end Go.Proofs.Ytifcikhgbafegab

/-
  nameOf, field, method and members, walked.
-/
namespace Go.Proofs.Ytifcikhgbafegab
open Go.RowKit
attribute [local go_sem ↓] Go.wp_at_zero Go.wp_at_succ
section
variable {w v : World} {L : Nat} {rb : Option Nat} {ps : List ElQ}
theorem LQ.put2 (s t : ByteArray) (h : LQ w L rb ps v) (hm : ps.length + 2 ≤ 1000000) :
    Calls Try.prog 36 #[.pointer (some ⟨L, 0, none⟩), .slice (some ⟨v.heap.size, 0, none⟩) 2 2] (v.alloc (.cells #[.string s, .string t] 9)) fun e w' => (∃ u, e = .returned u) ∧ LQ w L rb (ps ++ [tx s, tx t]) w' := by
  obtain ⟨rb1, hln, hr⟩ := h.ex
  have hL := hln.lt
  have hrl := hln.row_lt
  have h1 := put_any (ts := [s, t]) (a := some ⟨v.heap.size, 0, none⟩) (n := 2) (c := 2) (hln.alloc (.cells #[.string s, .string t] 9)) (.inr ⟨v.heap.size, 0, 2, rfl, by simp, by simp, ⟨by omega, fun e => by have := hrl _ e; omega⟩, fun i x hx => by
    cases i with
    | zero => obtain rfl : s = x := by simpa using hx
              simp
    | succ i => cases i with
      | zero => obtain rfl : t = x := by simpa using hx
                simp
      | succ i => simp at hx⟩) (by simpa using hm)
  refine h1.mono ?_
  rintro e w' ⟨he, hq⟩
  exact ⟨he, LQ.then hr h.kx (LQ.then (rb1 := rb1) (fun _ h => .inl h) kx_new hq)⟩
theorem LQ.tell1 (s : ByteArray) (x : Addr) (h : LQ w L rb ps v) (hm : ps.length + 2 ≤ 1000000) :
    Calls Try.prog 37 #[.pointer (some ⟨L, 0, none⟩), .string s, .slice (some ⟨v.heap.size, 0, none⟩) 1 1] (v.alloc (.cells #[pv x] 37)) fun e w' => (∃ u, e = .returned u) ∧ LQ w L rb (ps ++ [ty x]) w' := by
  have := h.tellN (a := some ⟨v.heap.size, 0, none⟩) (n := 1) (c := 1) (ts := [x]) s (below_alloc v (.cells #[pv x] 37)) (.inr ⟨v.heap.size, 0, 1, rfl, by simp, by simp, Nat.le_refl _, fun i y hy => by
    cases i with
    | zero => obtain rfl : x = y := by simpa using hy
              simp
    | succ i => simp at hy⟩) (by simpa using hm)
  simpa [tellP] using this
end
set_option maxRecDepth 100000 in
set_option maxHeartbeats 2000000 in
theorem nameOf_any {w : World} {b o nb no nn cn i : Nat} {s : ByteArray} (h4 : w.cell? ⟨b, o + 4, none⟩ = some (.slice (some ⟨nb, no, none⟩) nn cn)) (hi : i < nn) (hs : w.cell? ⟨nb, no + i, none⟩ = some (.string s)) :
    Calls Try.prog 57 #[pv ⟨b, o, none⟩, .int .i64 i] w fun e w' => e = .returned (.string s) ∧ w' = w := by
  have z1 : (i : Int) < (nn : Int) := by omega
  have z0 : (0 : Int) ≤ (i : Int) := by omega
  go_enter Try.func57, Try.ntmps57
  go_wp2_with fail
  go_ret
  exact ⟨rfl, rfl⟩
set_option maxRecDepth 100000 in
set_option maxHeartbeats 4000000 in
theorem field_true {mb mo nm cm : Nat} {w v : World} {L : Nat} {rb : Option Nat} {ps : List ElQ} {b o kb ko n c i : Nat} (h : LQ w L rb ps v) (hbL : b ≠ L) (hbr : rb ≠ some b)
    (h6 : w.cell? ⟨b, o + 6, none⟩ = some (.slice (some ⟨kb, ko, none⟩) n c)) (hik : i < n) (hmL : mb ≠ L) (hmr : rb ≠ some mb) (h5 : w.cell? ⟨b, o + 5, none⟩ = some (.slice (some ⟨mb, mo, none⟩) nm cm)) (him : i < nm) (hmk : w.cell? ⟨mb, mo + i, none⟩ = some (.bool true)) (hm : ps.length + 6 ≤ 1000000) :
    Calls Try.prog 41 #[.pointer (some ⟨L, 0, none⟩), pv ⟨b, o, none⟩, .int .i64 i] v fun e w' => (∃ u, e = .returned u) ∧ LQ w L rb (ps ++ [ty ⟨kb, ko + i * 7, none⟩]) w' := by
  have z0 : (0 : Int) ≤ (i : Int) := by omega
  have z5 : (i : Int) < (nm : Int) := by omega
  have z5b : decide ((nm : Int) ≤ (i : Int)) = false := by simp; omega
  have z6 : (i : Int) < (n : Int) := by omega
  have c5 := h.cell h5 hbL hbr
  have cm5 := h.cell hmk hmL hmr
  have HQ : Hid (LQ w L rb ps v) := h
  have c6 := h.cell h6 hbL hbr
  clear h h5 hmk h6
  go_enter Try.func41, Try.ntmps41
  go_wp2_with fail
  refine (HQ.out.tell1 ⟨#[]⟩ ⟨kb, ko + i * 7, none⟩ (by omega)).mono ?_
  rintro e v3 ⟨⟨u3, rfl⟩, hq⟩
  have HQ3 : Hid _ := hq
  clear hq
  go_wp2_with fail
  go_end0
  exact ⟨⟨_, rfl⟩, HQ3.out⟩
set_option maxRecDepth 100000 in
set_option maxHeartbeats 4000000 in
theorem field_false {mb mo nm cm : Nat} {w v : World} {L : Nat} {rb : Option Nat} {ps : List ElQ} {b o nb no nn cn kb ko n c i : Nat} {s : ByteArray} (h : LQ w L rb ps v) (hbL : b ≠ L) (hbr : rb ≠ some b) (hnL : nb ≠ L) (hnr : rb ≠ some nb)
    (h4 : w.cell? ⟨b, o + 4, none⟩ = some (.slice (some ⟨nb, no, none⟩) nn cn)) (hin : i < nn) (hs : w.cell? ⟨nb, no + i, none⟩ = some (.string s)) (h6 : w.cell? ⟨b, o + 6, none⟩ = some (.slice (some ⟨kb, ko, none⟩) n c)) (hik : i < n) (hmL : mb ≠ L) (hmr : rb ≠ some mb) (h5 : w.cell? ⟨b, o + 5, none⟩ = some (.slice (some ⟨mb, mo, none⟩) nm cm)) (him : i < nm) (hmk : w.cell? ⟨mb, mo + i, none⟩ = some (.bool false)) (hm : ps.length + 6 ≤ 1000000) :
    Calls Try.prog 41 #[.pointer (some ⟨L, 0, none⟩), pv ⟨b, o, none⟩, .int .i64 i] v fun e w' => (∃ u, e = .returned u) ∧ LQ w L rb (ps ++ [tx s, tx ⟨#[32]⟩, ty ⟨kb, ko + i * 7, none⟩]) w' := by
  have z0 : (0 : Int) ≤ (i : Int) := by omega
  have z5 : (i : Int) < (nm : Int) := by omega
  have z5b : decide ((nm : Int) ≤ (i : Int)) = false := by simp; omega
  have z6 : (i : Int) < (n : Int) := by omega
  have c5 := h.cell h5 hbL hbr
  have cm5 := h.cell hmk hmL hmr
  have HQ : Hid (LQ w L rb ps v) := h
  have hnm := nameOf_any (h.cell h4 hbL hbr) hin (h.cell hs hnL hnr)
  have H6 : Hid (w.cell? ⟨b, o + 6, none⟩ = some (.slice (some ⟨kb, ko, none⟩) n c)) := h6
  clear h h4 hs h5 hmk h6
  go_enter Try.func41, Try.ntmps41
  go_wp2_with fail
  refine hnm.mono ?_
  rintro e v1 ⟨rfl, hv1⟩
  obtain rfl := hv1.symm
  clear hnm hv1 c5 cm5
  go_wp2_with fail
  refine (HQ.out.put2 s ⟨#[32]⟩ (by omega)).mono ?_
  rintro e v2 ⟨⟨u2, rfl⟩, hq⟩
  have HQ2 : Hid _ := hq
  clear hq
  have c6 := HQ2.out.cell H6.out hbL hbr
  go_wp2_with fail
  refine (HQ2.out.tell1 ⟨#[]⟩ ⟨kb, ko + i * 7, none⟩ (by simp; omega)).mono ?_
  rintro e v3 ⟨⟨u3, rfl⟩, hq⟩
  have HQ3 : Hid _ := hq
  clear hq
  go_wp2_with fail
  go_end0
  refine ⟨⟨_, rfl⟩, ?_⟩
  have hfin := HQ3.out
  simpa [List.append_assoc] using hfin
set_option maxRecDepth 100000 in
set_option maxHeartbeats 4000000 in
theorem method_any {w v : World} {L : Nat} {rb : Option Nat} {ps : List ElQ} {b o nb no nn cn kb ko n c i : Nat} {s : ByteArray} (h : LQ w L rb ps v) (hbL : b ≠ L) (hbr : rb ≠ some b) (hnL : nb ≠ L) (hnr : rb ≠ some nb)
    (h4 : w.cell? ⟨b, o + 4, none⟩ = some (.slice (some ⟨nb, no, none⟩) nn cn)) (hin : i < nn) (hs : w.cell? ⟨nb, no + i, none⟩ = some (.string s)) (h6 : w.cell? ⟨b, o + 6, none⟩ = some (.slice (some ⟨kb, ko, none⟩) n c)) (hik : i < n) {P : List ElQ} (hkL : kb ≠ L) (hkr : rb ≠ some kb) (hk : w.cell? ⟨kb, ko + i * 7, none⟩ = some (.int .i64 13)) (hm : ps.length + 6 ≤ 1000000) (hsg : ∀ v', LQ w L rb (ps ++ [tx s]) v' → Calls Try.prog 39 #[.pointer (some ⟨L, 0, none⟩), pv ⟨kb, ko + i * 7, none⟩] v' fun e w' => (∃ u, e = .returned u) ∧ LQ w L rb (ps ++ P) w') :
    Calls Try.prog 42 #[.pointer (some ⟨L, 0, none⟩), pv ⟨b, o, none⟩, .int .i64 i] v fun e w' => (∃ u, e = .returned u) ∧ LQ w L rb (ps ++ P) w' := by
  have z0 : (0 : Int) ≤ (i : Int) := by omega
  have z6 : (i : Int) < (n : Int) := by omega
  have hnm := nameOf_any (h.cell h4 hbL hbr) hin (h.cell hs hnL hnr)
  have HQ : Hid (LQ w L rb ps v) := h
  have H6 : Hid (w.cell? ⟨b, o + 6, none⟩ = some (.slice (some ⟨kb, ko, none⟩) n c)) := h6
  have HK : Hid (w.cell? ⟨kb, ko + i * 7, none⟩ = some (.int .i64 13)) := hk
  have HS : Hid (∀ v', LQ w L rb (ps ++ [tx s]) v' → Calls Try.prog 39 #[.pointer (some ⟨L, 0, none⟩), pv ⟨kb, ko + i * 7, none⟩] v' fun e w' => (∃ u, e = .returned u) ∧ LQ w L rb (ps ++ P) w') := hsg
  clear h h4 hs h6 hk hsg
  go_enter Try.func42, Try.ntmps42
  go_wp2_with fail
  refine hnm.mono ?_
  rintro e v1 ⟨rfl, hv1⟩
  obtain rfl := hv1.symm
  clear hnm hv1
  go_wp2_with fail
  refine (HQ.out.put s (by omega)).mono ?_
  rintro e v2 ⟨⟨u2, rfl⟩, hq⟩
  have HQ2 : Hid _ := hq
  clear hq
  have c6 := HQ2.out.cell H6.out hbL hbr
  have ck := HQ2.out.cell HK.out hkL hkr
  go_wp2_with fail
  refine (HS.out _ HQ2.out).mono ?_
  rintro e v3 ⟨⟨u3, rfl⟩, hq⟩
  have HQ3 : Hid _ := hq
  clear hq
  go_wp2_with fail
  exact bodyPost_ret (results_none rfl _ _ _) rfl ⟨⟨_, rfl⟩, HQ3.out⟩
end Go.Proofs.Ytifcikhgbafegab

/-
  members, walked.
-/
namespace Go.Proofs.Ytifcikhgbafegab
open Go.RowKit
attribute [local go_sem ↓] Go.wp_at_zero Go.wp_at_succ
/-- the pieces of members -/
def memP (fp : Nat → List ElQ) (i : Nat) : List ElQ := (List.range i).flatMap fun j => (if j = 0 then [] else [tx ⟨#[59]⟩]) ++ [tx ⟨#[32]⟩] ++ fp j
theorem memP_succ (fp : Nat → List ElQ) (i : Nat) : memP fp (i + 1) = memP fp i ++ ((if i = 0 then [] else [tx ⟨#[59]⟩]) ++ [tx ⟨#[32]⟩] ++ fp i) := by simp [memP, List.range_succ, List.flatMap_append]
theorem memP_le (fp : Nat → List ElQ) {i n : Nat} (h : i ≤ n) : (memP fp i).length ≤ (memP fp n).length := by
  induction n with
  | zero => obtain rfl : i = 0 := by omega
            exact Nat.le_refl _
  | succ n ih =>
    by_cases e : i = n + 1
    · subst e; exact Nat.le_refl _
    · have := ih (by omega)
      rw [memP_succ, List.length_append]; omega
set_option maxRecDepth 100000 in
set_option maxHeartbeats 4000000 in
theorem mem_fld0 {w : World} {L : Nat} {rb : Option Nat} {ps : List ElQ} {b o c : Nat} {a : Option Addr} {op nn : ByteArray} (h : Ln w L rb ps) (h6 : w.cell? ⟨b, o + 6, none⟩ = some (.slice a 0 c)) (hm : ps.length + 1 ≤ 1000000) :
    Calls Try.prog 40 #[.pointer (some ⟨L, 0, none⟩), pv ⟨b, o, none⟩, .string op, .string nn, .func (.func 41) #[.pointer (some ⟨L, 0, none⟩)] #[]] w fun e w' => (∃ u, e = .returned u) ∧ LQ w L rb (ps ++ [tx nn]) w' := by
  have HQ : Hid (LQ w L rb ps w) := LQ.refl h
  clear h
  go_enter Try.func40, Try.ntmps40
  go_wp2_with fail
  refine (HQ.out.put nn hm).mono ?_
  rintro e v2 ⟨⟨u2, rfl⟩, hq⟩
  have HQ2 : Hid _ := hq
  clear hq
  go_wp2_with fail
  exact bodyPost_ret (results_none rfl _ _ _) rfl ⟨⟨_, rfl⟩, HQ2.out⟩
set_option maxRecDepth 100000 in
set_option maxHeartbeats 4000000 in
theorem mem_fld {w : World} {L : Nat} {rb : Option Nat} {ps : List ElQ} {b o n c : Nat} {a : Option Addr} {op nn : ByteArray} {fp : Nat → List ElQ} (h : Ln w L rb ps) (hbL : b ≠ L) (hbr : rb ≠ some b) (h6 : w.cell? ⟨b, o + 6, none⟩ = some (.slice a n c)) (hn : 0 < n) (hm : ps.length + (memP fp n).length + 5 ≤ 1000000) (hn2 : n ≤ 1000000)
    (hlay : ∀ i, i < n → ∀ v, LQ w L rb (ps ++ [tx op] ++ memP fp i ++ (if i = 0 then [] else [tx ⟨#[59]⟩]) ++ [tx ⟨#[32]⟩]) v → Calls Try.prog 41 #[.pointer (some ⟨L, 0, none⟩), pv ⟨b, o, none⟩, .int .i64 i] v fun e w' => (∃ u, e = .returned u) ∧ LQ w L rb (ps ++ [tx op] ++ memP fp (i + 1)) w') :
    Calls Try.prog 40 #[.pointer (some ⟨L, 0, none⟩), pv ⟨b, o, none⟩, .string op, .string nn, .func (.func 41) #[.pointer (some ⟨L, 0, none⟩)] #[]] w fun e w' => (∃ u, e = .returned u) ∧ LQ w L rb (ps ++ [tx op] ++ memP fp n ++ [tx ⟨#[32, 125]⟩]) w' := by
  have HQ : Hid (LQ w L rb ps w) := LQ.refl h
  have H6 : Hid (w.cell? ⟨b, o + 6, none⟩ = some (.slice a n c)) := h6
  have HL : Hid (∀ i, i < n → ∀ v, LQ w L rb (ps ++ [tx op] ++ memP fp i ++ (if i = 0 then [] else [tx ⟨#[59]⟩]) ++ [tx ⟨#[32]⟩]) v → Calls Try.prog 41 #[.pointer (some ⟨L, 0, none⟩), pv ⟨b, o, none⟩, .int .i64 i] v fun e w' => (∃ u, e = .returned u) ∧ LQ w L rb (ps ++ [tx op] ++ memP fp (i + 1)) w') := hlay
  have hz : ((n : Int) == 0) = false := int_bne (by omega)
  clear h hlay
  go_enter Try.func40, Try.ntmps40
  go_wp2_with fail
  refine (HQ.out.put op (by omega)).mono ?_
  rintro e v2 ⟨⟨u2, rfl⟩, hq⟩
  have HQ2 : Hid _ := hq
  clear hq
  have c6 := HQ2.out.cell H6.out hbL hbr
  clear h6
  go_wp2_with fail
  go_loopg [30] n (fun g u30 wr => ∃ i : Nat, i ≤ n ∧ n - i ≤ g ∧ u30 = .int .i64 i ∧ Hid (LQ w L rb (ps ++ [tx op] ++ memP fp i) wr))
  case atStart => exact ⟨0, Nat.zero_le _, Nat.le_refl _, rfl, by show LQ _ _ _ _ _; simpa [memP] using HQ2.out⟩
  case round =>
    obtain ⟨i, hi9, hg, rfl, HX⟩ := hrel
    have hle := memP_le fp hi9
    by_cases hlt : i < n
    · have z1 : (i : Int) < (n : Int) := by omega
      by_cases h0 : i = 0
      · subst h0
        have HX1 : Hid (LQ w L rb (ps ++ [tx op] ++ memP fp 0 ++ (if (0 : Nat) = 0 then [] else [tx ⟨#[59]⟩])) wr) := by show LQ _ _ _ _ _; simpa using HX.out
        go_wp2_with fail
        refine (HX1.out.put ⟨#[32]⟩ (by simp at hle ⊢; omega)).mono ?_
        rintro e v4 ⟨⟨u4, rfl⟩, hq⟩
        have HQ4 : Hid _ := hq
        clear hq
        go_wp2_with fail
        refine (HL.out 0 hlt _ HQ4.out).mono ?_
        rintro e v5 ⟨⟨u5, rfl⟩, hq⟩
        have HQ5 : Hid _ := hq
        clear hq
        go_wp2_with fail
        go_roundg (n - (0 + 1))
        case measure => omega
        case rel => exact ⟨0 + 1, by omega, Nat.le_refl _, by go_num, HQ5⟩
      · have zi : (0 : Int) < (i : Int) := by omega
        have zi2 : decide ((0 : Int) < (i : Int)) = true := decide_eq_true zi
        go_wp2_with fail
        refine (HX.out.put ⟨#[59]⟩ (by simp; omega)).mono ?_
        rintro e v3 ⟨⟨u3, rfl⟩, hq⟩
        have HQ3 : Hid _ := hq
        clear hq
        have HX1 : Hid (LQ w L rb (ps ++ [tx op] ++ memP fp i ++ (if i = 0 then [] else [tx ⟨#[59]⟩])) v3) := by show LQ _ _ _ _ _; rw [if_neg h0]; exact HQ3.out
        go_wp2_with fail
        refine (HX1.out.put ⟨#[32]⟩ (by simp [h0]; omega)).mono ?_
        rintro e v4 ⟨⟨u4, rfl⟩, hq⟩
        have HQ4 : Hid _ := hq
        clear hq
        go_wp2_with fail
        refine (HL.out i hlt _ HQ4.out).mono ?_
        rintro e v5 ⟨⟨u5, rfl⟩, hq⟩
        have HQ5 : Hid _ := hq
        clear hq
        go_wp2_with fail
        go_roundg (n - (i + 1))
        case measure => omega
        case rel => exact ⟨i + 1, by omega, Nat.le_refl _, by go_num, HQ5⟩
    · obtain rfl : i = n := by omega
      have z1 : ¬ (i : Int) < (i : Int) := by omega
      go_wp2_with fail
      refine (HX.out.put ⟨#[32, 125]⟩ (by simp; omega)).mono ?_
      rintro e v6 ⟨⟨u6, rfl⟩, hq⟩
      have HQ6 : Hid _ := hq
      clear hq
      go_wp2_with fail
      go_end0
      exact ⟨⟨_, rfl⟩, HQ6.out⟩
set_option maxRecDepth 100000 in
set_option maxHeartbeats 4000000 in
theorem mem_mth0 {w : World} {L : Nat} {rb : Option Nat} {ps : List ElQ} {b o c : Nat} {a : Option Addr} {op nn : ByteArray} (h : Ln w L rb ps) (h6 : w.cell? ⟨b, o + 6, none⟩ = some (.slice a 0 c)) (hm : ps.length + 1 ≤ 1000000) :
    Calls Try.prog 40 #[.pointer (some ⟨L, 0, none⟩), pv ⟨b, o, none⟩, .string op, .string nn, .func (.func 42) #[.pointer (some ⟨L, 0, none⟩)] #[]] w fun e w' => (∃ u, e = .returned u) ∧ LQ w L rb (ps ++ [tx nn]) w' := by
  have HQ : Hid (LQ w L rb ps w) := LQ.refl h
  clear h
  go_enter Try.func40, Try.ntmps40
  go_wp2_with fail
  refine (HQ.out.put nn hm).mono ?_
  rintro e v2 ⟨⟨u2, rfl⟩, hq⟩
  have HQ2 : Hid _ := hq
  clear hq
  go_wp2_with fail
  exact bodyPost_ret (results_none rfl _ _ _) rfl ⟨⟨_, rfl⟩, HQ2.out⟩
set_option maxRecDepth 100000 in
set_option maxHeartbeats 4000000 in
theorem mem_mth {w : World} {L : Nat} {rb : Option Nat} {ps : List ElQ} {b o n c : Nat} {a : Option Addr} {op nn : ByteArray} {fp : Nat → List ElQ} (h : Ln w L rb ps) (hbL : b ≠ L) (hbr : rb ≠ some b) (h6 : w.cell? ⟨b, o + 6, none⟩ = some (.slice a n c)) (hn : 0 < n) (hm : ps.length + (memP fp n).length + 5 ≤ 1000000) (hn2 : n ≤ 1000000)
    (hlay : ∀ i, i < n → ∀ v, LQ w L rb (ps ++ [tx op] ++ memP fp i ++ (if i = 0 then [] else [tx ⟨#[59]⟩]) ++ [tx ⟨#[32]⟩]) v → Calls Try.prog 42 #[.pointer (some ⟨L, 0, none⟩), pv ⟨b, o, none⟩, .int .i64 i] v fun e w' => (∃ u, e = .returned u) ∧ LQ w L rb (ps ++ [tx op] ++ memP fp (i + 1)) w') :
    Calls Try.prog 40 #[.pointer (some ⟨L, 0, none⟩), pv ⟨b, o, none⟩, .string op, .string nn, .func (.func 42) #[.pointer (some ⟨L, 0, none⟩)] #[]] w fun e w' => (∃ u, e = .returned u) ∧ LQ w L rb (ps ++ [tx op] ++ memP fp n ++ [tx ⟨#[32, 125]⟩]) w' := by
  have HQ : Hid (LQ w L rb ps w) := LQ.refl h
  have H6 : Hid (w.cell? ⟨b, o + 6, none⟩ = some (.slice a n c)) := h6
  have HL : Hid (∀ i, i < n → ∀ v, LQ w L rb (ps ++ [tx op] ++ memP fp i ++ (if i = 0 then [] else [tx ⟨#[59]⟩]) ++ [tx ⟨#[32]⟩]) v → Calls Try.prog 42 #[.pointer (some ⟨L, 0, none⟩), pv ⟨b, o, none⟩, .int .i64 i] v fun e w' => (∃ u, e = .returned u) ∧ LQ w L rb (ps ++ [tx op] ++ memP fp (i + 1)) w') := hlay
  have hz : ((n : Int) == 0) = false := int_bne (by omega)
  clear h hlay
  go_enter Try.func40, Try.ntmps40
  go_wp2_with fail
  refine (HQ.out.put op (by omega)).mono ?_
  rintro e v2 ⟨⟨u2, rfl⟩, hq⟩
  have HQ2 : Hid _ := hq
  clear hq
  have c6 := HQ2.out.cell H6.out hbL hbr
  clear h6
  go_wp2_with fail
  go_loopg [30] n (fun g u30 wr => ∃ i : Nat, i ≤ n ∧ n - i ≤ g ∧ u30 = .int .i64 i ∧ Hid (LQ w L rb (ps ++ [tx op] ++ memP fp i) wr))
  case atStart => exact ⟨0, Nat.zero_le _, Nat.le_refl _, rfl, by show LQ _ _ _ _ _; simpa [memP] using HQ2.out⟩
  case round =>
    obtain ⟨i, hi9, hg, rfl, HX⟩ := hrel
    have hle := memP_le fp hi9
    by_cases hlt : i < n
    · have z1 : (i : Int) < (n : Int) := by omega
      by_cases h0 : i = 0
      · subst h0
        have HX1 : Hid (LQ w L rb (ps ++ [tx op] ++ memP fp 0 ++ (if (0 : Nat) = 0 then [] else [tx ⟨#[59]⟩])) wr) := by show LQ _ _ _ _ _; simpa using HX.out
        go_wp2_with fail
        refine (HX1.out.put ⟨#[32]⟩ (by simp at hle ⊢; omega)).mono ?_
        rintro e v4 ⟨⟨u4, rfl⟩, hq⟩
        have HQ4 : Hid _ := hq
        clear hq
        go_wp2_with fail
        refine (HL.out 0 hlt _ HQ4.out).mono ?_
        rintro e v5 ⟨⟨u5, rfl⟩, hq⟩
        have HQ5 : Hid _ := hq
        clear hq
        go_wp2_with fail
        go_roundg (n - (0 + 1))
        case measure => omega
        case rel => exact ⟨0 + 1, by omega, Nat.le_refl _, by go_num, HQ5⟩
      · have zi : (0 : Int) < (i : Int) := by omega
        have zi2 : decide ((0 : Int) < (i : Int)) = true := decide_eq_true zi
        go_wp2_with fail
        refine (HX.out.put ⟨#[59]⟩ (by simp; omega)).mono ?_
        rintro e v3 ⟨⟨u3, rfl⟩, hq⟩
        have HQ3 : Hid _ := hq
        clear hq
        have HX1 : Hid (LQ w L rb (ps ++ [tx op] ++ memP fp i ++ (if i = 0 then [] else [tx ⟨#[59]⟩])) v3) := by show LQ _ _ _ _ _; rw [if_neg h0]; exact HQ3.out
        go_wp2_with fail
        refine (HX1.out.put ⟨#[32]⟩ (by simp [h0]; omega)).mono ?_
        rintro e v4 ⟨⟨u4, rfl⟩, hq⟩
        have HQ4 : Hid _ := hq
        clear hq
        go_wp2_with fail
        refine (HL.out i hlt _ HQ4.out).mono ?_
        rintro e v5 ⟨⟨u5, rfl⟩, hq⟩
        have HQ5 : Hid _ := hq
        clear hq
        go_wp2_with fail
        go_roundg (n - (i + 1))
        case measure => omega
        case rel => exact ⟨i + 1, by omega, Nat.le_refl _, by go_num, HQ5⟩
    · obtain rfl : i = n := by omega
      have z1 : ¬ (i : Int) < (i : Int) := by omega
      go_wp2_with fail
      refine (HX.out.put ⟨#[32, 125]⟩ (by simp; omega)).mono ?_
      rintro e v6 ⟨⟨u6, rfl⟩, hq⟩
      have HQ6 : Hid _ := hq
      clear hq
      go_wp2_with fail
      go_end0
      exact ⟨⟨_, rfl⟩, HQ6.out⟩
set_option maxRecDepth 100000 in
set_option maxHeartbeats 4000000 in
theorem lay_struct {w : World} {L : Nat} {rb : Option Nat} {P : List ElQ} {b o : Nat} (h0 : w.cell? ⟨b, o, none⟩ = some (.int .i64 14)) (hm : Calls Try.prog 40 #[.pointer (some ⟨L, 0, none⟩), pv ⟨b, o, none⟩, .string ⟨#[115, 116, 114, 117, 99, 116, 32, 123]⟩, .string ⟨#[115, 116, 114, 117, 99, 116, 32, 123, 125]⟩, .func (.func 41) #[.pointer (some ⟨L, 0, none⟩)] #[]] w fun e w' => (∃ u, e = .returned u) ∧ LQ w L rb P w') :
    Calls Try.prog 19 #[.pointer (some ⟨L, 0, none⟩), pv ⟨b, o, none⟩] w fun e w' => (∃ u, e = .returned u) ∧ LQ w L rb P w' := by
  go_enter Try.func19, Try.ntmps19
  go_wp2_with fail
  refine (hm).mono ?_
  rintro e v2 ⟨⟨u2, rfl⟩, hq⟩
  have HQ2 : Hid _ := hq
  clear hq
  go_wp2_with fail
  go_end0
  exact ⟨⟨_, rfl⟩, HQ2.out⟩
set_option maxRecDepth 100000 in
set_option maxHeartbeats 4000000 in
theorem lay_iface {w : World} {L : Nat} {rb : Option Nat} {P : List ElQ} {b o : Nat} (h0 : w.cell? ⟨b, o, none⟩ = some (.int .i64 15)) (hm : Calls Try.prog 40 #[.pointer (some ⟨L, 0, none⟩), pv ⟨b, o, none⟩, .string ⟨#[105, 110, 116, 101, 114, 102, 97, 99, 101, 32, 123]⟩, .string ⟨#[97, 110, 121]⟩, .func (.func 42) #[.pointer (some ⟨L, 0, none⟩)] #[]] w fun e w' => (∃ u, e = .returned u) ∧ LQ w L rb P w') :
    Calls Try.prog 19 #[.pointer (some ⟨L, 0, none⟩), pv ⟨b, o, none⟩] w fun e w' => (∃ u, e = .returned u) ∧ LQ w L rb P w' := by
  go_enter Try.func19, Try.ntmps19
  go_wp2_with fail
  refine (hm).mono ?_
  rintro e v2 ⟨⟨u2, rfl⟩, hq⟩
  have HQ2 : Hid _ := hq
  clear hq
  go_wp2_with fail
  go_end0
  exact ⟨⟨_, rfl⟩, HQ2.out⟩
end Go.Proofs.Ytifcikhgbafegab

