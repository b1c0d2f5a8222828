/-
  The document's World without declared types: Find, Under, Nilable and Comparable, walked.
-/
import Derived.Test.YtifcikhgbafegaaRmk
namespace Go.Proofs.Ytifcikhgbafegaa
open Go.RowKit
attribute [local go_sem ↓] Go.wp_at_zero Go.wp_at_succ
/-- a World that has no declared types -/
abbrev Wz (w : World) (V : Nat) : Prop := w.heap[V]? = some (.cells #[.slice none 0 0] 59 (0, 0))
theorem wz_cell {w : World} {V : Nat} (h : Wz w V) : w.cell? ⟨V, 0, none⟩ = some (.slice none 0 0) := by simp [World.cell?, h]
set_option maxRecDepth 100000 in
set_option maxHeartbeats 2000000 in
theorem rfind0 {w : World} {V : Nat} (h : Wz w V) (s : ByteArray) : Calls Try.prog 62 #[.pointer (some ⟨V, 0, none⟩), .string s] w fun e w' => e = .returned (.int .i64 (-1)) ∧ w' = w := by
  have c0 := wz_cell h
  clear h
  go_enter Try.func62, Try.ntmps62
  go_wp2_with fail
  go_loopg [5] 0 (fun g u5 wr => u5 = .int .i64 0 ∧ wr = w)
  case atStart => exact ⟨rfl, rfl⟩
  case round =>
    obtain ⟨rfl, hw⟩ := hrel
    obtain rfl := hw.symm
    clear hw
    go_wp2_with fail
    go_ret
    exact ⟨rfl, rfl⟩
/-- a type answered with just these parts -/
structure TyE (w : World) (t : Ty) (vn vm vk : Value) (e : Ending) (w' : World) : Prop where
  bl : Below w.heap.size w w'
  eq : e = .returned (agT t vn vm vk)
set_option maxRecDepth 100000 in
set_option maxHeartbeats 4000000 in
theorem runder0 {w : World} {V : Nat} (h : Wz w V) (t : Ty) (an am ak : Option Addr) (ln cn lm cm lk ck : Nat) : Calls Try.prog 30 #[.pointer (some ⟨V, 0, none⟩), agT t (.slice an ln cn) (.slice am lm cm) (.slice ak lk ck)] w (TyE w t (.slice an ln cn) (.slice am lm cm) (.slice ak lk ck)) := by
  have hV : V < w.heap.size := (Array.getElem?_eq_some_iff.1 h).1
  obtain ⟨k, nm, n, f, ns, ms, ks⟩ := t
  unfold agT
  simp only [Ty.kind, Ty.name, Ty.n, Ty.flag]
  have hb2 : Below w.heap.size w ((w.alloc (.cells #[.int .i64 k, .string nm, .int .i64 n, .bool f, .slice an ln cn, .slice am lm cm, .slice ak lk ck] 26)).alloc (.cells #[.int .i64 0, .string ⟨#[]⟩, .int .i64 0, .bool false, .slice none 0 0, .slice none 0 0, .slice none 0 0] 26)) := bthen (below_alloc _ _) (below_alloc _ _)
  have hw2 : Wz ((w.alloc (.cells #[.int .i64 k, .string nm, .int .i64 n, .bool f, .slice an ln cn, .slice am lm cm, .slice ak lk ck] 26)).alloc (.cells #[.int .i64 0, .string ⟨#[]⟩, .int .i64 0, .bool false, .slice none 0 0, .slice none 0 0, .slice none 0 0] 26)) V := blk_kept hb2 h
  have hb9 : Below w.heap.size w ((w.alloc (.cells #[.int .i64 k, .string nm, .int .i64 n, .bool f, .slice an ln cn, .slice am lm cm, .slice ak lk ck] 26)).alloc (.cells #[.int .i64 k, .string nm, .int .i64 n, .bool f, .slice an ln cn, .slice am lm cm, .slice ak lk ck] 26)) := bthen (below_alloc _ _) (below_alloc _ _)
  have hn9 := heap_new (w.alloc (.cells #[.int .i64 k, .string nm, .int .i64 n, .bool f, .slice an ln cn, .slice am lm cm, .slice ak lk ck] 26)) (.cells #[.int .i64 k, .string nm, .int .i64 n, .bool f, .slice an ln cn, .slice am lm cm, .slice ak lk ck] 26)
  rw [show (w.alloc (.cells #[.int .i64 k, .string nm, .int .i64 n, .bool f, .slice an ln cn, .slice am lm cm, .slice ak lk ck] 26)).heap.size = w.heap.size + 1 by simp] at hn9
  have HB9 : Hid (Below w.heap.size w ((w.alloc (.cells #[.int .i64 k, .string nm, .int .i64 n, .bool f, .slice an ln cn, .slice am lm cm, .slice ak lk ck] 26)).alloc (.cells #[.int .i64 k, .string nm, .int .i64 n, .bool f, .slice an ln cn, .slice am lm cm, .slice ak lk ck] 26))) := hb9
  have HN9 : Hid (((w.alloc (.cells #[.int .i64 k, .string nm, .int .i64 n, .bool f, .slice an ln cn, .slice am lm cm, .slice ak lk ck] 26)).alloc (.cells #[.int .i64 k, .string nm, .int .i64 n, .bool f, .slice an ln cn, .slice am lm cm, .slice ak lk ck] 26)).heap[w.heap.size + 1]? = some (.cells #[.int .i64 k, .string nm, .int .i64 n, .bool f, .slice an ln cn, .slice am lm cm, .slice ak lk ck] 26 (0, 0))) := hn9
  have hf := rfind0 hw2 nm
  clear hb2 hw2 hb9 hn9 h
  by_cases h8 : k = 8
  · subst h8
    go_enter Try.func30, Try.ntmps30
    go_wp2_with fail
    go_loopg [5] 0 (fun g u5 wr => wr = (w.alloc (.cells #[.int .i64 8, .string nm, .int .i64 n, .bool f, .slice an ln cn, .slice am lm cm, .slice ak lk ck] 26)).alloc (.cells #[.int .i64 0, .string ⟨#[]⟩, .int .i64 0, .bool false, .slice none 0 0, .slice none 0 0, .slice none 0 0] 26))
    case atStart => rfl
    case round =>
      obtain rfl := hrel
      go_wp2_with (go_at_call 62; refine hf.mono ?_; rintro e w1 ⟨rfl, hw1⟩; obtain rfl := hw1.symm; clear hf)
      refine bodyPost_ret (v := .agg #[.int .i64 8, .string nm, .int .i64 n, .bool f, .slice an ln cn, .slice am lm cm, .slice ak lk ck]) (results_cell rfl rfl (resT HN9.out)) rfl ?_
      exact ⟨HB9.out, rfl⟩
  · go_enter Try.func30, Try.ntmps30
    go_wp2_with fail
    go_loopg [5] 0 (fun g u5 wr => wr = (w.alloc (.cells #[.int .i64 k, .string nm, .int .i64 n, .bool f, .slice an ln cn, .slice am lm cm, .slice ak lk ck] 26)).alloc (.cells #[.int .i64 0, .string ⟨#[]⟩, .int .i64 0, .bool false, .slice none 0 0, .slice none 0 0, .slice none 0 0] 26))
    case atStart => rfl
    case round =>
      obtain rfl := hrel
      go_wp2_with fail
      refine bodyPost_ret (v := .agg #[.int .i64 k, .string nm, .int .i64 n, .bool f, .slice an ln cn, .slice am lm cm, .slice ak lk ck]) (results_cell rfl rfl (resT HN9.out)) rfl ?_
      exact ⟨HB9.out, rfl⟩
end Go.Proofs.Ytifcikhgbafegaa
/-
  Nilable and Comparable of a World without declared types, walked.
-/
namespace Go.Proofs.Ytifcikhgbafegaa
open Go.RowKit
attribute [local go_sem ↓] Go.wp_at_zero Go.wp_at_succ
set_option maxRecDepth 100000 in
theorem fldT_0 (a b c d e f g : Value) (w : World) : (Instr.field 26 (.agg #[a, b, c, d, e, f, g]) 0).run Try.prog w = .ok a w := by rfl
attribute [local go_sem ↓] fldT_0
/-- may it be nil? (nothing is declared) -/
def nilK (k : Int) : Bool := decide (k = 10 ∨ k = 11 ∨ k = 12 ∨ k = 13 ∨ k = 15)
set_option maxRecDepth 100000 in
set_option maxHeartbeats 4000000 in
theorem rnil0 {w : World} {V : Nat} (h : Wz w V) (t : Ty) (an am ak : Option Addr) (ln cn lm cm lk ck : Nat) : Calls Try.prog 36 #[.pointer (some ⟨V, 0, none⟩), agT t (.slice an ln cn) (.slice am lm cm) (.slice ak lk ck)] w fun e w' => e = .returned (.bool (nilK t.kind)) ∧ Below w.heap.size w w' := by
  have h1 := runder0 (blk_kept (below_alloc w (.cells #[.int .i64 t.kind, .string t.name, .int .i64 t.n, .bool t.flag, .slice an ln cn, .slice am lm cm, .slice ak lk ck] 26)) h) t an am ak ln cn lm cm lk ck
  have HB0 : Hid (Below w.heap.size w (w.alloc (.cells #[.int .i64 t.kind, .string t.name, .int .i64 t.n, .bool t.flag, .slice an ln cn, .slice am lm cm, .slice ak lk ck] 26))) := below_alloc _ _
  obtain ⟨R, hR⟩ : ∃ R, R = nilK t.kind := ⟨_, rfl⟩
  rw [← hR]
  have HR : Hid (∀ k, t.kind = k → R = nilK k) := fun k e => by rw [hR, e]
  have h2 : Calls Try.prog 30 #[.pointer (some ⟨V, 0, none⟩), agT t (.slice an ln cn) (.slice am lm cm) (.slice ak lk ck)] (w.alloc (.cells #[.int .i64 t.kind, .string t.name, .int .i64 t.n, .bool t.flag, .slice an ln cn, .slice am lm cm, .slice ak lk ck] 26)) fun e w' => e = .returned (agT t (.slice an ln cn) (.slice am lm cm) (.slice ak lk ck)) ∧ Below w.heap.size w w' := h1.mono fun e w' hq => ⟨hq.eq, bthen HB0.out hq.bl⟩
  unfold agT at h2 ⊢
  clear h hR h1
  generalize t.kind = k at *
  generalize t.name = nm at *
  generalize t.n = n at *
  generalize t.flag = f at *
  by_cases c10 : k = 10
  · subst c10
    have HN : Hid (R = true) := HR.out _ rfl
    go_enter Try.func36, Try.ntmps36
    go_wp2_with (go_at_call 30; refine h2.mono ?_; rintro e w1 ⟨rfl, hb1⟩; have HB1 : Hid (Below w.heap.size w w1) := hb1; clear hb1 h2)
    go_ret
    exact ⟨by rw [HN.out]; rfl, HB1.out⟩
  by_cases c11 : k = 11
  · subst c11
    have HN : Hid (R = true) := HR.out _ rfl
    go_enter Try.func36, Try.ntmps36
    go_wp2_with (go_at_call 30; refine h2.mono ?_; rintro e w1 ⟨rfl, hb1⟩; have HB1 : Hid (Below w.heap.size w w1) := hb1; clear hb1 h2)
    go_ret
    exact ⟨by rw [HN.out]; rfl, HB1.out⟩
  by_cases c12 : k = 12
  · subst c12
    have HN : Hid (R = true) := HR.out _ rfl
    go_enter Try.func36, Try.ntmps36
    go_wp2_with (go_at_call 30; refine h2.mono ?_; rintro e w1 ⟨rfl, hb1⟩; have HB1 : Hid (Below w.heap.size w w1) := hb1; clear hb1 h2)
    go_ret
    exact ⟨by rw [HN.out]; rfl, HB1.out⟩
  by_cases c13 : k = 13
  · subst c13
    have HN : Hid (R = true) := HR.out _ rfl
    go_enter Try.func36, Try.ntmps36
    go_wp2_with (go_at_call 30; refine h2.mono ?_; rintro e w1 ⟨rfl, hb1⟩; have HB1 : Hid (Below w.heap.size w w1) := hb1; clear hb1 h2)
    go_ret
    exact ⟨by rw [HN.out]; rfl, HB1.out⟩
  by_cases c15 : k = 15
  · subst c15
    have HN : Hid (R = true) := HR.out _ rfl
    go_enter Try.func36, Try.ntmps36
    go_wp2_with (go_at_call 30; refine h2.mono ?_; rintro e w1 ⟨rfl, hb1⟩; have HB1 : Hid (Below w.heap.size w w1) := hb1; clear hb1 h2)
    go_ret
    exact ⟨by rw [HN.out]; rfl, HB1.out⟩
  have HN : Hid (R = false) := by
    show _ = _
    rw [HR.out k rfl]; unfold nilK; simp [c10, c11, c12, c13, c15]
  go_enter Try.func36, Try.ntmps36
  go_wp2_with (go_at_call 30; refine h2.mono ?_; rintro e w1 ⟨rfl, hb1⟩; have HB1 : Hid (Below w.heap.size w w1) := hb1; clear hb1 h2)
  go_ret
  exact ⟨by rw [HN.out]; rfl, HB1.out⟩
/-- may it be compared? (nothing is declared) -/
def basK (k : Int) : Bool := decide (k = 1 ∨ k = 2 ∨ k = 3 ∨ k = 4 ∨ k = 5 ∨ k = 6 ∨ k = 10 ∨ k = 12 ∨ k = 15)
mutual
def Ty.cmp : Ty → Bool
  | .mk k _ _ _ _ _ ks => basK k || (decide (k = 14) && cmpL ks) || (decide (k = 9) && cmpP ks)
def cmpL : List Ty → Bool
  | [] => true
  | x :: r => x.cmp && cmpL r
def cmpP : List Ty → Bool
  | [x] => x.cmpU
  | _ => false
def Ty.cmpU : Ty → Bool
  | .mk k _ n _ _ _ ks => decide (k = 16) && (decide (n = 1) || cmpL ks)
end
theorem cmpL_iff (l : List Ty) : cmpL l = true ↔ ∀ i (h : i < l.length), (l[i]).cmp = true := by
  induction l with
  | nil => simp [cmpL]
  | cons x r ih =>
    simp only [cmpL, Bool.and_eq_true, ih]
    constructor
    · rintro ⟨h1, h2⟩ i h
      cases i with
      | zero => exact h1
      | succ i => exact h2 i (by simpa using h)
    · intro h
      exact ⟨h 0 (by simp), fun i hi => h (i + 1) (by simpa using hi)⟩
end Go.Proofs.Ytifcikhgbafegaa
/-
  Comparable of a World without declared types, walked.
-/
namespace Go.Proofs.Ytifcikhgbafegaa
open Go.RowKit
attribute [local go_sem ↓] Go.wp_at_zero Go.wp_at_succ
/-- what is asked of Comparable at a type -/
def CmC (t : Ty) : Prop := ∀ (B : BQ) (w : World) (V : Nat) (vn vm vk : Value), Wz w V → Prt B w t vn vm vk → Calls Try.prog 34 #[.pointer (some ⟨V, 0, none⟩), agT t vn vm vk] w fun e w' => e = .returned (.bool t.cmp) ∧ Below w.heap.size w w'
set_option maxRecDepth 100000 in
set_option maxHeartbeats 8000000 in
theorem cmp_of (t : Ty) (hk1 : ∀ x ∈ t.kids, CmC x) (hk2 : ∀ x ∈ t.kids, ∀ y ∈ x.kids, CmC y) : CmC t := by
  intro B w V vn vm vk hV hp
  obtain ⟨k, nm, n, f, ns, ms, ks⟩ := t
  obtain ⟨an, cn, am, cm, ak, ck, rfl, rfl, rfl⟩ := hp.form
  simp only [Ty.kids] at hk1 hk2
  have HI : Hid (∀ x ∈ ks, CmC x) := hk1
  have HI2 : Hid (∀ x ∈ ks, ∀ y ∈ x.kids, CmC y) := hk2
  clear hk1 hk2
  unfold agT
  simp only [Ty.kind, Ty.name, Ty.n, Ty.flag, Ty.names, Ty.marks, Ty.kids] at hp ⊢
  obtain ⟨lk, hlk⟩ : ∃ l, l = ks.length := ⟨_, rfl⟩
  obtain ⟨ln, hln⟩ : ∃ l, l = ns.length := ⟨_, rfl⟩
  obtain ⟨lm, hlm⟩ : ∃ l, l = ms.length := ⟨_, rfl⟩
  rw [← hlk, ← hln, ← hlm] at hp ⊢
  have HLK : Hid (lk = ks.length) := hlk
  have hb0 : Below w.heap.size w (w.alloc (.cells #[.int .i64 k, .string nm, .int .i64 n, .bool f, .slice an ln cn, .slice am lm cm, .slice ak lk ck] 26)) := below_alloc _ _
  have HB0 : Hid (Below w.heap.size w (w.alloc (.cells #[.int .i64 k, .string nm, .int .i64 n, .bool f, .slice an ln cn, .slice am lm cm, .slice ak lk ck] 26))) := hb0
  have HU : Hid (∀ t, agT t (.slice an ln cn) (.slice am lm cm) (.slice ak lk ck) = .agg #[.int .i64 k, .string nm, .int .i64 n, .bool f, .slice an ln cn, .slice am lm cm, .slice ak lk ck] → Calls Try.prog 30 #[.pointer (some ⟨V, 0, none⟩), .agg #[.int .i64 k, .string nm, .int .i64 n, .bool f, .slice an ln cn, .slice am lm cm, .slice ak lk ck]] (w.alloc (.cells #[.int .i64 k, .string nm, .int .i64 n, .bool f, .slice an ln cn, .slice am lm cm, .slice ak lk ck] 26)) fun e w' => e = .returned (.agg #[.int .i64 k, .string nm, .int .i64 n, .bool f, .slice an ln cn, .slice am lm cm, .slice ak lk ck]) ∧ Below w.heap.size w w') := fun t e => by
    have := runder0 (blk_kept hb0 hV) t an am ak ln cn lm cm lk ck
    rw [e] at this
    exact this.mono fun e1 w' hq => ⟨by rw [hq.eq, e], bthen HB0.out hq.bl⟩
  have h2 := HU.out (.mk k nm n f ns ms ks) rfl
  obtain ⟨a0, c0, e0, hlen, hel⟩ := hp.ks.open
  obtain ⟨rfl, hq9, rfl⟩ : ak = a0 ∧ lk = ks.length ∧ ck = c0 := by simpa [Ty.kids] using e0
  have HEL : Hid (∀ i (hi : i < ks.length), ∃ b o, ak = some ⟨b, o, none⟩ ∧ b < w.heap.size ∧ B b ∧ (ks[i]).lies B w b (o + i * 7)) := hel
  have hlen : (lk : Int) ≤ 9223372036854775807 := by rw [hlk]; exact hlen
  have HV : Hid (Wz w V) := hV
  obtain ⟨R, hR⟩ : ∃ R, R = Ty.cmp (.mk k nm n f ns ms ks) := ⟨_, rfl⟩
  rw [← hR]
  have HR : Hid (R = (basK k || (decide (k = 14) && cmpL ks) || (decide (k = 9) && cmpP ks))) := by show _ = _; rw [hR]; simp only [Ty.cmp]
  clear hR hb0 HU hp e0 hel hq9 hlk hln hlm hV
  by_cases c1 : k = 1
  · subst c1
    have HN : Hid (R = true) := by show _ = _; rw [HR.out]; rfl
    go_enter Try.func34, Try.ntmps34
    go_wp2_with (go_at_call 30; refine h2.mono ?_; rintro e w1 ⟨rfl, hb1⟩; have HB1 : Hid (Below w.heap.size w w1) := hb1; have hz1 := hb1.size; clear hb1 h2)
    go_ret
    exact ⟨by rw [HN.out]; rfl, bthen HB1.out (below_alloc w1 (.cells #[.int .i64 1, .string nm, .int .i64 n, .bool f, .slice an ln cn, .slice am lm cm, .slice ak lk ck] 26))⟩
  by_cases c2 : k = 2
  · subst c2
    have HN : Hid (R = true) := by show _ = _; rw [HR.out]; rfl
    go_enter Try.func34, Try.ntmps34
    go_wp2_with (go_at_call 30; refine h2.mono ?_; rintro e w1 ⟨rfl, hb1⟩; have HB1 : Hid (Below w.heap.size w w1) := hb1; have hz1 := hb1.size; clear hb1 h2)
    go_ret
    exact ⟨by rw [HN.out]; rfl, bthen HB1.out (below_alloc w1 (.cells #[.int .i64 2, .string nm, .int .i64 n, .bool f, .slice an ln cn, .slice am lm cm, .slice ak lk ck] 26))⟩
  by_cases c3 : k = 3
  · subst c3
    have HN : Hid (R = true) := by show _ = _; rw [HR.out]; rfl
    go_enter Try.func34, Try.ntmps34
    go_wp2_with (go_at_call 30; refine h2.mono ?_; rintro e w1 ⟨rfl, hb1⟩; have HB1 : Hid (Below w.heap.size w w1) := hb1; have hz1 := hb1.size; clear hb1 h2)
    go_ret
    exact ⟨by rw [HN.out]; rfl, bthen HB1.out (below_alloc w1 (.cells #[.int .i64 3, .string nm, .int .i64 n, .bool f, .slice an ln cn, .slice am lm cm, .slice ak lk ck] 26))⟩
  by_cases c4 : k = 4
  · subst c4
    have HN : Hid (R = true) := by show _ = _; rw [HR.out]; rfl
    go_enter Try.func34, Try.ntmps34
    go_wp2_with (go_at_call 30; refine h2.mono ?_; rintro e w1 ⟨rfl, hb1⟩; have HB1 : Hid (Below w.heap.size w w1) := hb1; have hz1 := hb1.size; clear hb1 h2)
    go_ret
    exact ⟨by rw [HN.out]; rfl, bthen HB1.out (below_alloc w1 (.cells #[.int .i64 4, .string nm, .int .i64 n, .bool f, .slice an ln cn, .slice am lm cm, .slice ak lk ck] 26))⟩
  by_cases c5 : k = 5
  · subst c5
    have HN : Hid (R = true) := by show _ = _; rw [HR.out]; rfl
    go_enter Try.func34, Try.ntmps34
    go_wp2_with (go_at_call 30; refine h2.mono ?_; rintro e w1 ⟨rfl, hb1⟩; have HB1 : Hid (Below w.heap.size w w1) := hb1; have hz1 := hb1.size; clear hb1 h2)
    go_ret
    exact ⟨by rw [HN.out]; rfl, bthen HB1.out (below_alloc w1 (.cells #[.int .i64 5, .string nm, .int .i64 n, .bool f, .slice an ln cn, .slice am lm cm, .slice ak lk ck] 26))⟩
  by_cases c6 : k = 6
  · subst c6
    have HN : Hid (R = true) := by show _ = _; rw [HR.out]; rfl
    go_enter Try.func34, Try.ntmps34
    go_wp2_with (go_at_call 30; refine h2.mono ?_; rintro e w1 ⟨rfl, hb1⟩; have HB1 : Hid (Below w.heap.size w w1) := hb1; have hz1 := hb1.size; clear hb1 h2)
    go_ret
    exact ⟨by rw [HN.out]; rfl, bthen HB1.out (below_alloc w1 (.cells #[.int .i64 6, .string nm, .int .i64 n, .bool f, .slice an ln cn, .slice am lm cm, .slice ak lk ck] 26))⟩
  by_cases c10 : k = 10
  · subst c10
    have HN : Hid (R = true) := by show _ = _; rw [HR.out]; rfl
    go_enter Try.func34, Try.ntmps34
    go_wp2_with (go_at_call 30; refine h2.mono ?_; rintro e w1 ⟨rfl, hb1⟩; have HB1 : Hid (Below w.heap.size w w1) := hb1; have hz1 := hb1.size; clear hb1 h2)
    go_ret
    exact ⟨by rw [HN.out]; rfl, bthen HB1.out (below_alloc w1 (.cells #[.int .i64 10, .string nm, .int .i64 n, .bool f, .slice an ln cn, .slice am lm cm, .slice ak lk ck] 26))⟩
  by_cases c12 : k = 12
  · subst c12
    have HN : Hid (R = true) := by show _ = _; rw [HR.out]; rfl
    go_enter Try.func34, Try.ntmps34
    go_wp2_with (go_at_call 30; refine h2.mono ?_; rintro e w1 ⟨rfl, hb1⟩; have HB1 : Hid (Below w.heap.size w w1) := hb1; have hz1 := hb1.size; clear hb1 h2)
    go_ret
    exact ⟨by rw [HN.out]; rfl, bthen HB1.out (below_alloc w1 (.cells #[.int .i64 12, .string nm, .int .i64 n, .bool f, .slice an ln cn, .slice am lm cm, .slice ak lk ck] 26))⟩
  by_cases c15 : k = 15
  · subst c15
    have HN : Hid (R = true) := by show _ = _; rw [HR.out]; rfl
    go_enter Try.func34, Try.ntmps34
    go_wp2_with (go_at_call 30; refine h2.mono ?_; rintro e w1 ⟨rfl, hb1⟩; have HB1 : Hid (Below w.heap.size w w1) := hb1; have hz1 := hb1.size; clear hb1 h2)
    go_ret
    exact ⟨by rw [HN.out]; rfl, bthen HB1.out (below_alloc w1 (.cells #[.int .i64 15, .string nm, .int .i64 n, .bool f, .slice an ln cn, .slice am lm cm, .slice ak lk ck] 26))⟩
  by_cases c14 : k = 14
  · subst c14
    have HRR : Hid (R = true ↔ cmpL ks = true) := by show _ ↔ _; rw [HR.out]; simp [basK]
    go_enter Try.func34, Try.ntmps34
    go_wp2_with (go_at_call 30; refine h2.mono ?_; rintro e w1 ⟨rfl, hb1⟩; have HB1 : Hid (Below w.heap.size w w1) := hb1; have hz1 := hb1.size; clear hb1 h2)
    have HBW : Hid (Below w.heap.size w (w1.alloc (.cells #[.int .i64 14, .string nm, .int .i64 n, .bool f, .slice an ln cn, .slice am lm cm, .slice ak lk ck] 26))) := bthen HB1.out (below_alloc w1 (.cells #[.int .i64 14, .string nm, .int .i64 n, .bool f, .slice an ln cn, .slice am lm cm, .slice ak lk ck] 26))
    have HC6 : Hid ((w1.alloc (.cells #[.int .i64 14, .string nm, .int .i64 n, .bool f, .slice an ln cn, .slice am lm cm, .slice ak lk ck] 26)).cell? ⟨w1.heap.size, 6, none⟩ = some (.slice ak lk ck)) := (bx7 (heap_new w1 _)).2.2.2.2.2.2
    generalize w1.alloc (.cells #[.int .i64 14, .string nm, .int .i64 n, .bool f, .slice an ln cn, .slice am lm cm, .slice ak lk ck] 26) = W1 at *
    go_loopg [6] lk (fun g u6 wr => ∃ i : Nat, i ≤ lk ∧ lk - i ≤ g ∧ u6 = .int .i64 i ∧ Hid (Below W1.heap.size W1 wr ∧ ∀ j (h1 : j < ks.length), j < i → (ks[j]).cmp = true))
    case atStart => exact ⟨0, Nat.zero_le _, Nat.le_refl _, rfl, Below.refl _ _, fun j _ hj => by omega⟩
    case round =>
      obtain ⟨i, hi, hg, rfl, HX⟩ := hrel
      have x6 := kept_cell HX.out.1 HC6.out
      by_cases hlt : i < lk
      · have z1 : (i : Int) < (lk : Int) := by omega
        have z0 : (0 : Int) ≤ (i : Int) := by omega
        have hlx : i < ks.length := by rw [← HLK.out]; exact hlt
        obtain ⟨b, o, rfl, _, _, hli⟩ := HEL.out i hlx
        obtain ⟨e0, e1, e2, e3, v4, v5, v6, e4, e5, e6, hpi⟩ := lies_iff.1 hli
        obtain ⟨bn, dn, bm, dm, bk, dk, rfl, rfl, rfl⟩ := hpi.form
        have hbr : Below w.heap.size w wr := bthen HBW.out HX.out.1
        have hc := (HI.out ks[i] (List.getElem_mem _)) B wr V _ _ _ (blk_kept hbr HV.out) (hpi.kept hbr)
        have e0 := kept_cell hbr e0
        have e1 := kept_cell hbr e1
        have e2 := kept_cell hbr e2
        have e3 := kept_cell hbr e3
        have e4 := kept_cell hbr e4
        have e5 := kept_cell hbr e5
        have e6 := kept_cell hbr e6
        have HXB : Hid (Below W1.heap.size W1 wr) := HX.out.1
        have HXE : Hid (∀ j (h1 : j < ks.length), j < i → (ks[j]).cmp = true) := HX.out.2
        obtain ⟨bb, hbb⟩ : ∃ bb, (ks[i]).cmp = bb := ⟨_, rfl⟩
        have HBB : Hid ((ks[i]).cmp = bb) := hbb
        rw [hbb] at hc
        unfold agT at hc
        clear hli hpi HX hbb hbr
        generalize (ks[i]).kind = ki at *
        generalize (ks[i]).name = ni at *
        generalize (ks[i]).n = nn at *
        generalize (ks[i]).flag = fi at *
        generalize (ks[i]).names.length = l1 at *
        generalize (ks[i]).marks.length = l2 at *
        generalize (ks[i]).kids.length = l3 at *
        go_wp2_with (go_at_call 34; refine hc.mono ?_; rintro e w3 ⟨rfl, hb3⟩; have HB3 : Hid (Below W1.heap.size W1 w3) := HXB.out.trans (hb3.mono HXB.out.size); clear hb3 hc; cases bb)
        · have HN : Hid (R = false) := by
            show _ = _
            rw [Bool.eq_false_iff]; intro e
            have := (cmpL_iff _).1 (HRR.out.1 e) i hlx
            rw [HBB.out] at this; cases this
          go_ret
          exact ⟨by rw [HN.out]; rfl, bthen HBW.out HB3.out⟩
        · go_roundg (lk - (i + 1))
          case measure => omega
          case rel => exact ⟨i + 1, by omega, Nat.le_refl _, by go_num, HB3.out, fun j h1 hj => by
            rcases Nat.lt_or_ge j i with h | h
            · exact HXE.out j h1 h
            · have e : j = i := by omega
              subst e; exact HBB.out⟩
      · have z1 : ¬ (i : Int) < (lk : Int) := by omega
        have HN : Hid (R = true) := HRR.out.2 ((cmpL_iff _).2 fun j hj => HX.out.2 j hj (by have := HLK.out; omega))
        have HXB : Hid (Below W1.heap.size W1 wr) := HX.out.1
        clear HX
        go_wp2_with fail
        go_ret
        exact ⟨by rw [HN.out]; rfl, bthen HBW.out HXB.out⟩
  by_cases c9 : k = 9
  · subst c9
    by_cases h1 : lk = 1
    case neg =>
      have k1 := nat_bne (b := 1) h1
      have HN : Hid (R = false) := by
        show _ = _
        rw [HR.out]
        have h3 : cmpP ks = false := by
          match ks, HLK.out with
          | [], _ => rfl
          | [x], h => exact absurd h h1
          | _ :: _ :: _, _ => rfl
        rw [h3]; rfl
      go_enter Try.func34, Try.ntmps34
      go_wp2_with (go_at_call 30; refine h2.mono ?_; rintro e w1 ⟨rfl, hb1⟩; have HB1 : Hid (Below w.heap.size w w1) := hb1; have hz1 := hb1.size; clear hb1 h2)
      go_ret
      exact ⟨by rw [HN.out]; rfl, bthen HB1.out (below_alloc w1 (.cells #[.int .i64 9, .string nm, .int .i64 n, .bool f, .slice an ln cn, .slice am lm cm, .slice ak lk ck] 26))⟩
    subst h1
    obtain ⟨x, rfl⟩ : ∃ x, ks = [x] := List.length_eq_one_iff.1 HLK.out.symm
    obtain ⟨b, o, rfl, hbw, hBb, hli⟩ := HEL.out 0 (by simp)
    rw [Nat.zero_mul, Nat.add_zero] at hli
    simp only [List.getElem_cons_zero] at hli
    obtain ⟨e0, e1, e2, e3, v4, v5, v6, e4, e5, e6, hpi⟩ := lies_iff.1 hli
    obtain ⟨bn, dn, bm, dm, bk, dk, rfl, rfl, rfl⟩ := hpi.form
    have HRX : Hid (R = x.cmpU) := by show _ = _; rw [HR.out]; simp [basK, cmpP]
    have HKP : Hid (∀ W, Below w.heap.size w W → W.cell? ⟨b, o, none⟩ = some (.int .i64 x.kind) ∧ W.cell? ⟨b, o + 1, none⟩ = some (.string x.name) ∧ W.cell? ⟨b, o + 2, none⟩ = some (.int .i64 x.n) ∧ W.cell? ⟨b, o + 3, none⟩ = some (.bool x.flag) ∧ W.cell? ⟨b, o + 4, none⟩ = some (.slice bn x.names.length dn) ∧ W.cell? ⟨b, o + 5, none⟩ = some (.slice bm x.marks.length dm) ∧ W.cell? ⟨b, o + 6, none⟩ = some (.slice bk x.kids.length dk)) := fun W h => ⟨kept_cell h e0, kept_cell h e1, kept_cell h e2, kept_cell h e3, kept_cell h e4, kept_cell h e5, kept_cell h e6⟩
    have HPX : Hid (Prt B w x (.slice bn x.names.length dn) (.slice bm x.marks.length dm) (.slice bk x.kids.length dk)) := hpi
    have HIX : Hid (∀ y ∈ x.kids, CmC y) := HI2.out x (by simp)
    clear e0 e1 e2 e3 e4 e5 e6 hli hpi HEL HI HI2 HLK hBb
    obtain ⟨xk, xnm, xn, xf, xns, xms, xks⟩ := x
    simp only [Ty.kind, Ty.name, Ty.n, Ty.flag, Ty.names, Ty.marks, Ty.kids] at HKP HPX HIX
    obtain ⟨xl, hxl⟩ : ∃ l, l = xks.length := ⟨_, rfl⟩
    rw [← hxl] at HKP HPX
    have HXL : Hid (xl = xks.length) := hxl
    clear hxl
    by_cases c16 : xk = 16
    case neg =>
      have HN : Hid (R = false) := by show _ = _; rw [HRX.out]; simp [Ty.cmpU, c16]
      go_enter Try.func34, Try.ntmps34
      go_wp2_with (go_at_call 30; refine h2.mono ?_; rintro e w1 ⟨rfl, hb1⟩; have HB1 : Hid (Below w.heap.size w w1) := hb1; have hz1 := hb1.size; obtain ⟨e0, e1, e2, e3, e4, e5, e6⟩ := HKP.out _ (bthen hb1 (below_alloc w1 (.cells #[.int .i64 9, .string nm, .int .i64 n, .bool f, .slice an ln cn, .slice am lm cm, .slice (some ⟨b, o, none⟩) 1 ck] 26))); clear hb1 h2)
      go_ret
      exact ⟨by rw [HN.out]; rfl, bthen HB1.out (below_alloc w1 (.cells #[.int .i64 9, .string nm, .int .i64 n, .bool f, .slice an ln cn, .slice am lm cm, .slice (some ⟨b, o, none⟩) 1 ck] 26))⟩
    subst c16
    by_cases n1 : xn = 1
    · subst n1
      have HN : Hid (R = true) := by show _ = _; rw [HRX.out]; simp [Ty.cmpU]
      go_enter Try.func34, Try.ntmps34
      go_wp2_with (go_at_call 30; refine h2.mono ?_; rintro e w1 ⟨rfl, hb1⟩; have HB1 : Hid (Below w.heap.size w w1) := hb1; have hz1 := hb1.size; obtain ⟨e0, e1, e2, e3, e4, e5, e6⟩ := HKP.out _ (bthen hb1 (below_alloc w1 (.cells #[.int .i64 9, .string nm, .int .i64 n, .bool f, .slice an ln cn, .slice am lm cm, .slice (some ⟨b, o, none⟩) 1 ck] 26))); clear hb1 h2)
      go_ret
      exact ⟨by rw [HN.out]; rfl, bthen HB1.out (bthen (below_alloc w1 (.cells #[.int .i64 9, .string nm, .int .i64 n, .bool f, .slice an ln cn, .slice am lm cm, .slice (some ⟨b, o, none⟩) 1 ck] 26)) (below_alloc _ (.cells #[.int .i64 16, .string xnm, .int .i64 1, .bool xf, .slice bn xns.length dn, .slice bm xms.length dm, .slice bk xl dk] 26)))⟩
    have HRR : Hid (R = true ↔ cmpL xks = true) := by show _ ↔ _; rw [HRX.out]; simp [Ty.cmpU, n1]
    obtain ⟨a0, c0, e0, hlen2, hel⟩ := HPX.out.ks.open
    obtain ⟨rfl, hq9, rfl⟩ : bk = a0 ∧ xl = xks.length ∧ dk = c0 := by simpa [Ty.kids] using e0
    have HEX : Hid (∀ i (hi : i < xks.length), ∃ b o, bk = some ⟨b, o, none⟩ ∧ b < w.heap.size ∧ B b ∧ (xks[i]).lies B w b (o + i * 7)) := hel
    have hlen2 : (xl : Int) ≤ 9223372036854775807 := by rw [hq9]; exact hlen2
    clear e0 hel hq9
    have kn1 : (xn == 1) = false := int_bne n1
    go_enter Try.func34, Try.ntmps34
    go_wp2_with (go_at_call 30; refine h2.mono ?_; rintro e w1 ⟨rfl, hb1⟩; have HB1 : Hid (Below w.heap.size w w1) := hb1; have hz1 := hb1.size; obtain ⟨e0, e1, e2, e3, e4, e5, e6⟩ := HKP.out _ (bthen hb1 (below_alloc w1 (.cells #[.int .i64 9, .string nm, .int .i64 n, .bool f, .slice an ln cn, .slice am lm cm, .slice (some ⟨b, o, none⟩) 1 ck] 26))); clear hb1 h2)
    have HBW : Hid (Below w.heap.size w ((w1.alloc (.cells #[.int .i64 9, .string nm, .int .i64 n, .bool f, .slice an ln cn, .slice am lm cm, .slice (some ⟨b, o, none⟩) 1 ck] 26)).alloc (.cells #[.int .i64 16, .string xnm, .int .i64 xn, .bool xf, .slice bn xns.length dn, .slice bm xms.length dm, .slice bk xl dk] 26))) := bthen HB1.out (bthen (below_alloc w1 _) (below_alloc _ _))
    have HC6 : Hid (((w1.alloc (.cells #[.int .i64 9, .string nm, .int .i64 n, .bool f, .slice an ln cn, .slice am lm cm, .slice (some ⟨b, o, none⟩) 1 ck] 26)).alloc (.cells #[.int .i64 16, .string xnm, .int .i64 xn, .bool xf, .slice bn xns.length dn, .slice bm xms.length dm, .slice bk xl dk] 26)).cell? ⟨w1.heap.size + 1, 6, none⟩ = some (.slice bk xl dk)) := by
      have h9 := (bx7 (heap_new (w1.alloc (.cells #[.int .i64 9, .string nm, .int .i64 n, .bool f, .slice an ln cn, .slice am lm cm, .slice (some ⟨b, o, none⟩) 1 ck] 26)) (.cells #[.int .i64 16, .string xnm, .int .i64 xn, .bool xf, .slice bn xns.length dn, .slice bm xms.length dm, .slice bk xl dk] 26))).2.2.2.2.2.2
      rw [show (w1.alloc (.cells #[.int .i64 9, .string nm, .int .i64 n, .bool f, .slice an ln cn, .slice am lm cm, .slice (some ⟨b, o, none⟩) 1 ck] 26)).heap.size = w1.heap.size + 1 by simp] at h9
      exact h9
    clear e0 e1 e2 e3 e4 e5 e6
    generalize (w1.alloc (.cells #[.int .i64 9, .string nm, .int .i64 n, .bool f, .slice an ln cn, .slice am lm cm, .slice (some ⟨b, o, none⟩) 1 ck] 26)).alloc (.cells #[.int .i64 16, .string xnm, .int .i64 xn, .bool xf, .slice bn xns.length dn, .slice bm xms.length dm, .slice bk xl dk] 26) = W1 at *
    go_loopg [8] xl (fun g u8 wr => ∃ i : Nat, i ≤ xl ∧ xl - i ≤ g ∧ u8 = .int .i64 i ∧ Hid (Below W1.heap.size W1 wr ∧ ∀ j (h1 : j < xks.length), j < i → (xks[j]).cmp = true))
    case atStart => exact ⟨0, Nat.zero_le _, Nat.le_refl _, rfl, Below.refl _ _, fun j _ hj => by omega⟩
    case round =>
      obtain ⟨i, hi, hg, rfl, HX⟩ := hrel
      have x6 := kept_cell HX.out.1 HC6.out
      by_cases hlt : i < xl
      · have z1 : (i : Int) < (xl : Int) := by omega
        have z0 : (0 : Int) ≤ (i : Int) := by omega
        have hlx : i < xks.length := by rw [← HXL.out]; exact hlt
        obtain ⟨b, o, rfl, _, _, hli⟩ := HEX.out i hlx
        obtain ⟨e0, e1, e2, e3, v4, v5, v6, e4, e5, e6, hpi⟩ := lies_iff.1 hli
        obtain ⟨bn, dn, bm, dm, bk, dk, rfl, rfl, rfl⟩ := hpi.form
        have hbr : Below w.heap.size w wr := bthen HBW.out HX.out.1
        have hc := (HIX.out xks[i] (List.getElem_mem _)) B wr V _ _ _ (blk_kept hbr HV.out) (hpi.kept hbr)
        have e0 := kept_cell hbr e0
        have e1 := kept_cell hbr e1
        have e2 := kept_cell hbr e2
        have e3 := kept_cell hbr e3
        have e4 := kept_cell hbr e4
        have e5 := kept_cell hbr e5
        have e6 := kept_cell hbr e6
        have HXB : Hid (Below W1.heap.size W1 wr) := HX.out.1
        have HXE : Hid (∀ j (h1 : j < xks.length), j < i → (xks[j]).cmp = true) := HX.out.2
        obtain ⟨bb, hbb⟩ : ∃ bb, (xks[i]).cmp = bb := ⟨_, rfl⟩
        have HBB : Hid ((xks[i]).cmp = bb) := hbb
        rw [hbb] at hc
        unfold agT at hc
        clear hli hpi HX hbb hbr
        generalize (xks[i]).kind = ki at *
        generalize (xks[i]).name = ni at *
        generalize (xks[i]).n = nn at *
        generalize (xks[i]).flag = fi at *
        generalize (xks[i]).names.length = l1 at *
        generalize (xks[i]).marks.length = l2 at *
        generalize (xks[i]).kids.length = l3 at *
        go_wp2_with (go_at_call 34; refine hc.mono ?_; rintro e w3 ⟨rfl, hb3⟩; have HB3 : Hid (Below W1.heap.size W1 w3) := HXB.out.trans (hb3.mono HXB.out.size); clear hb3 hc; cases bb)
        · have HN : Hid (R = false) := by
            show _ = _
            rw [Bool.eq_false_iff]; intro e
            have := (cmpL_iff _).1 (HRR.out.1 e) i hlx
            rw [HBB.out] at this; cases this
          go_ret
          exact ⟨by rw [HN.out]; rfl, bthen HBW.out HB3.out⟩
        · go_roundg (xl - (i + 1))
          case measure => omega
          case rel => exact ⟨i + 1, by omega, Nat.le_refl _, by go_num, HB3.out, fun j h1 hj => by
            rcases Nat.lt_or_ge j i with h | h
            · exact HXE.out j h1 h
            · have e : j = i := by omega
              subst e; exact HBB.out⟩
      · have z1 : ¬ (i : Int) < (xl : Int) := by omega
        have HN : Hid (R = true) := HRR.out.2 ((cmpL_iff _).2 fun j hj => HX.out.2 j hj (by have := HXL.out; omega))
        have HXB : Hid (Below W1.heap.size W1 wr) := HX.out.1
        clear HX
        go_wp2_with fail
        go_ret
        exact ⟨by rw [HN.out]; rfl, bthen HBW.out HXB.out⟩
  have HN : Hid (R = false) := by
    show _ = _
    rw [HR.out]; unfold basK; simp [c1, c2, c3, c4, c5, c6, c10, c12, c15, c14, c9]
  go_enter Try.func34, Try.ntmps34
  go_wp2_with (go_at_call 30; refine h2.mono ?_; rintro e w1 ⟨rfl, hb1⟩; have HB1 : Hid (Below w.heap.size w w1) := hb1; have hz1 := hb1.size; clear hb1 h2)
  go_ret
  exact ⟨by rw [HN.out]; rfl, bthen HB1.out (below_alloc w1 (.cells #[.int .i64 k, .string nm, .int .i64 n, .bool f, .slice an ln cn, .slice am lm cm, .slice ak lk ck] 26))⟩
theorem cmp0_any (t : Ty) : CmC t := by
  have h : ∀ t : Ty, CmC t ∧ ∀ x ∈ t.kids, CmC x := Ty.ind fun k nm n f ns ms ks ih =>
    ⟨cmp_of _ (fun x hx => (ih x hx).1) (fun x hx y hy => (ih x hx).2 y hy), fun x hx => (ih x hx).1⟩
  exact (h t).1
end Go.Proofs.Ytifcikhgbafegaa
