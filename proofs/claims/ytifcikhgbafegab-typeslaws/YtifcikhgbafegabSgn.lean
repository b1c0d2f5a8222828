/-
  one, element, inBrackets, walked; how a line is carried on.
-/
import Derived.Test.YtifcikhgbafegabTel
namespace Go.Proofs.Ytifcikhgbafegab
open Go.RowKit
attribute [local go_sem ↓] Go.wp_at_zero Go.wp_at_succ
section
variable {w w1 : World} {L : Nat} {rb : Option Nat} {ps : List ElQ}
theorem LQ.hold {a : Value} {ts : List Addr} (h : LQ w L rb ps w1) (ht : PtV (fun b => b ≠ L ∧ rb ≠ some b) w a ts) {rb1 : Option Nat} (hr : ∀ k, rb1 = some k → rb = some k ∨ w.heap.size ≤ k) : PtV (fun b => b ≠ L ∧ rb1 ≠ some b) w1 a ts :=
  ht.to h.kx (fun b hb hB => ⟨hB.1, fun e => by rcases hr b e with h | h; exact hB.2 h; omega⟩) (fun b _ hB e => by rcases e with e | e; exact hB.1 e; exact hB.2 e)
theorem LQ.put (s : ByteArray) (h : LQ w L rb ps w1) (hm : ps.length + 1 ≤ 1000000) :
    Calls Try.prog 36 #[.pointer (some ⟨L, 0, none⟩), .slice (some ⟨w1.heap.size, 0, none⟩) 1 1] (w1.alloc (.cells #[.string s] 9)) fun e w' => (∃ u, e = .returned u) ∧ LQ w L rb (ps ++ [tx s]) w' := by
  obtain ⟨rb1, hln, hr⟩ := h.ex
  exact (put_one s hln hm).mono fun e w' ⟨he, hq⟩ => ⟨he, LQ.then hr h.kx hq⟩
theorem LQ.tell (s : ByteArray) {a : Option Addr} {n c : Nat} {ts : List Addr} (h : LQ w L rb ps w1) (ht : PtV (fun b => b ≠ L ∧ rb ≠ some b) w (.slice a n c) ts) (hm : ps.length + 2 * ts.length ≤ 1000000) :
    Calls Try.prog 37 #[.pointer (some ⟨L, 0, none⟩), .string s, .slice a n c] w1 fun e w' => (∃ u, e = .returned u) ∧ LQ w L rb (ps ++ tellP s ts) w' := by
  obtain ⟨rb1, hln, hr⟩ := h.ex
  exact (tell_any s hln (h.hold ht hr) hm).mono fun e w' ⟨he, hq⟩ => ⟨he, LQ.then hr h.kx hq⟩
/-- the line through what leaves all old blocks alone -/
theorem LQ.still {w2 : World} (h : LQ w L rb ps w1) (hb : Below w1.heap.size w1 w2) : LQ w L rb ps w2 := by
  obtain ⟨rb1, hln, hr⟩ := h.ex
  exact ⟨⟨rb1, hln.kept (X := fun _ => False) (Kx.of_whole hb) (fun h => h) (fun _ _ h => h), hr⟩, h.kx.andThen (Kx.of_whole (X := fun _ => False) hb) (fun _ _ h => h) (fun _ _ h => h.elim)⟩
theorem LQ.cell (h : LQ w L rb ps w1) {a : Addr} {v : Value} (hc : w.cell? a = some v) (h1 : a.block ≠ L) (h2 : rb ≠ some a.block) : w1.cell? a = some v := h.kx.cell hc (fun e => by rcases e with e | e; exact h1 e; exact h2 e)
end
set_option maxRecDepth 100000 in
set_option maxHeartbeats 2000000 in
theorem brk_any {w w1 : World} {L : Nat} {rb : Option Nat} {ps : List ElQ} {a : Option Addr} {n c : Nat} {ts : List Addr} (h : LQ w L rb ps w1) (ht : PtV (fun b => b ≠ L ∧ rb ≠ some b) w (.slice a n c) ts) (hm : ps.length + 2 * ts.length + 2 ≤ 1000000) :
    Calls Try.prog 44 #[.pointer (some ⟨L, 0, none⟩), .slice a n c] w1 fun e w' => (∃ u, e = .returned u) ∧ LQ w L rb (ps ++ [tx ⟨#[40]⟩] ++ tellP ⟨#[44, 32]⟩ ts ++ [tx ⟨#[41]⟩]) w' := by
  have htl := tellP_len ⟨#[44, 32]⟩ ts
  have HT : Hid (PtV (fun b => b ≠ L ∧ rb ≠ some b) w (.slice a n c) ts) := ht
  have HQ : Hid (LQ w L rb ps w1) := h
  clear h ht
  go_enter Try.func44, Try.ntmps44
  go_wp2_with fail
  refine (HQ.out.put ⟨#[40]⟩ (by omega)).mono ?_
  rintro e w2 ⟨⟨u2, rfl⟩, hq⟩
  have HQ2 : Hid _ := hq
  clear hq HQ
  go_wp2_with fail
  refine (HQ2.out.tell ⟨#[44, 32]⟩ HT.out (by simp; omega)).mono ?_
  rintro e w3 ⟨⟨u3, rfl⟩, hq⟩
  have HQ3 : Hid _ := hq
  clear hq HQ2
  go_wp2_with fail
  refine (HQ3.out.put ⟨#[41]⟩ (by simp; omega)).mono ?_
  rintro e w4 ⟨⟨u4, rfl⟩, hq⟩
  have HQ4 : Hid _ := hq
  clear hq HQ3
  go_wp2_with fail
  go_end0
  exact ⟨⟨_, rfl⟩, HQ4.out⟩
/-- the one kid of a type -/
theorem kidA_one (b o : Nat) : kidA b o 1 = [⟨b, o, none⟩] := by simp [kidA]
theorem ptV_own {W : World} {base n : Nat} {v : Value} {l : List Addr} {B : BQ} (h : W.ownsRow base 37 1 v n (l.map pv)) (hn : n = l.length) (hm : n ≤ 9223372036854775807) (hB : ∀ k, v.ownBlock = some k → B k) : PtV B W v l :=
  rowV_own h hn hm hB (Nat.le_refl _) (fun _ _ _ _ h => h)
set_option maxRecDepth 100000 in
set_option maxHeartbeats 2000000 in
theorem one_any {w : World} {b o kb ko c : Nat} (h : w.cell? ⟨b, o + 6, none⟩ = some (.slice (some ⟨kb, ko, none⟩) 1 c)) : Calls Try.prog 38 #[pv ⟨b, o, none⟩] w fun e w' => ∃ a c, e = .returned (.slice a 1 c) ∧ PtV (fun b => w.heap.size ≤ b) w' (.slice a 1 c) [⟨kb, ko, none⟩] ∧ Below w.heap.size w w' := by
  have hk := kids_any (kb := kb) (ko := ko) h (fun _ => rfl) (by omega)
  clear h
  go_enter Try.func38, Try.ntmps38
  go_wp2_with fail
  refine hk.mono ?_
  intro e w1 hq
  obtain ⟨a1, c1, rfl, hr⟩ := hq.ex
  rw [kidA_len, kidA_one] at hr
  rw [kidA_len]
  obtain ⟨g, cap, he⟩ := ownsRow_succ hr
  obtain ⟨rfl, rfl⟩ : a1 = some ⟨g, 0, none⟩ ∧ c1 = cap := by simpa using he
  have hcap : 1 ≤ c1 := by
    rcases hr.2 with ⟨h, _⟩ | ⟨g', cap', cur, h, _, _, h4, _⟩
    · cases h
    · cases h; exact h4
  have HR : Hid (w1.ownsRow w.heap.size 37 1 (.slice (some ⟨g, 0, none⟩) 1 c1) 1 ([(⟨kb, ko, none⟩ : Addr)].map pv)) := hr
  have HB : Hid _ := hq.bl
  clear hq hr hk he
  go_wp2_with fail
  go_ret
  exact ⟨_, _, rfl, ptV_own HR.out rfl (by omega) (fun k hk => (HR.out.lt k hk).1), HB.out⟩
set_option maxRecDepth 100000 in
set_option maxHeartbeats 2000000 in
theorem elem_any {w : World} {b o kb ko c : Nat} (h0 : w.cell? ⟨b, o, none⟩ = some (.int .i64 11)) (h : w.cell? ⟨b, o + 6, none⟩ = some (.slice (some ⟨kb, ko, none⟩) 1 c)) : Calls Try.prog 56 #[pv ⟨b, o, none⟩] w fun e w' => ∃ a c, e = .returned (.slice a 1 c) ∧ PtV (fun b => w.heap.size ≤ b) w' (.slice a 1 c) [⟨kb, ko, none⟩] ∧ Below w.heap.size w w' := by
  have hk := one_any h
  clear h
  go_enter Try.func56, Try.ntmps56
  go_wp2_with fail
  refine hk.mono ?_
  rintro e w1 ⟨a, c, rfl, hp, hb⟩
  have HP : Hid _ := hp
  have HB : Hid _ := hb
  clear hp hb hk
  go_wp2_with fail
  go_ret
  exact ⟨_, _, rfl, HP.out, HB.out⟩
end Go.Proofs.Ytifcikhgbafegab

