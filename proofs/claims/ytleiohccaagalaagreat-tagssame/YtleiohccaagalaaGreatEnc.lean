/-
  A rule in memory; the reader in memory; took.
-/
import Derived.Test.YtleiohccaagalaaGreatIdn
import Derived.Deep.LoopGhost
namespace Go.Proofs.YtleiohccaagalaaGreat
open Go.RowKit
attribute [local go_sem ↓] Go.wp_at_zero Go.wp_at_succ
/-- bytes as a string -/
def bs (l : Bs) : ByteArray := ⟨l.toArray⟩
theorem bs_size (l : Bs) : (bs l).size = l.length := by simp [bs, ByteArray.size]
theorem bs_list (l : Bs) : (bs l).data.toList = l := by simp [bs]
theorem bs_toList (l : Bs) : (bs l).toList = l := by rw [Lib.toList_data, bs_list]
theorem bs_of (S : ByteArray) : bs S.data.toList = S := by cases S; simp [bs]
theorem bs_inj {a b : Bs} (h : bs a = bs b) : a = b := by rw [← bs_list a, h, bs_list]
/-- a rule as a value -/
def enc : Pt → Value
  | .yes => .iface 70 (.agg #[])
  | .tag s => .iface 112 (.string (bs s))
  | .not p => .iface 104 (.agg #[enc p])
  | .both l r => .iface 88 (.agg #[enc l, enc r])
  | .either l r => .iface 80 (.agg #[enc l, enc r])
theorem enc_if (p : Pt) : ∃ t x, enc p = .iface t x := by cases p <;> exact ⟨_, _, rfl⟩
/-- a slice that reads as these texts, which don't lie in block B -/
structure RestV (B : Nat) (w : World) (a : Option Addr) (n c : Nat) (ts : List Bs) : Prop where
  len : n = ts.length
  cap : n ≤ c
  small : c ≤ 9223372036854775807
  at_ : ts ≠ [] → ∃ g o, a = some ⟨g, o, none⟩ ∧ g ≠ B ∧ ∀ i t, ts[i]? = some t → w.cell? ⟨g, o + i, none⟩ = some (.string (bs t))
/-- the reader at block B has these texts before it -/
structure Rs (B : Nat) (w : World) (ts : List Bs) : Prop where
  ex : ∃ a n c, w.heap[B]? = some (.cells #[.slice a n c] 62 (0, 0)) ∧ RestV B w a n c ts
theorem Rs.lt {B : Nat} {w : World} {ts : List Bs} (h : Rs B w ts) : B < w.heap.size := by
  obtain ⟨a, n, c, hb, _⟩ := h.ex
  exact (Array.getElem?_eq_some_iff.1 hb).1
theorem RestV.kept {B : Nat} {w w' : World} {a : Option Addr} {n c : Nat} {ts : List Bs} (h : RestV B w a n c ts) (k : Kx (· = B) w w') : RestV B w' a n c ts :=
  ⟨h.len, h.cap, h.small, fun hne => by
    obtain ⟨g, o, e, hg, hc⟩ := h.at_ hne
    exact ⟨g, o, e, hg, fun i t ht => k.cell (hc i t ht) hg⟩⟩
/-- nothing that was there is changed -/
theorem Rs.whole {B : Nat} {w w' : World} {ts : List Bs} (h : Rs B w ts) (k : Below w.heap.size w w') : Rs B w' ts := by
  obtain ⟨a, n, c, hb, hr⟩ := h.ex
  exact ⟨a, n, c, (k.block B h.lt).trans hb, hr.kept (.of_whole k)⟩
theorem bx1 {w : World} {B : Nat} {v : Value} {T : TypeId} (h : w.heap[B]? = some (.cells #[v] T (0, 0))) : w.cell? ⟨B, 0, none⟩ = some v ∧ w.frozen? ⟨B, 0, none⟩ = false := by
  constructor
  · simp [World.cell?, h]
  · simp [World.frozen?, h]
theorem bx1_set {w : World} {B : Nat} {v u : Value} {T : TypeId} (h : w.heap[B]? = some (.cells #[v] T (0, 0))) : (w.setCell ⟨B, 0, none⟩ u).heap[B]? = some (.cells #[u] T (0, 0)) := by
  simp [World.setCell, Array.getElem?_modify, h]
theorem kx_set {w : World} {B o : Nat} {u : Value} : Kx (· = B) w (w.setCell ⟨B, o, none⟩ u) :=
  ⟨rfl, rfl, rfl, by simp [World.setCell], fun b _ h1 h2 => (Below.heap_setCell w ⟨B, o, none⟩ u b h2).trans h1⟩
structure TookQ (B : Nat) (w : World) (sg : Bs) (ts : List Bs) (e : Ending) (w' : World) : Prop where
  kp : Kx (· = B) w w'
  ex : ∃ b : Bool, e = .returned (.bool b) ∧ (if b then ∃ r, ts = sg :: r ∧ Rs B w' r else w' = w ∧ ∀ r, ts ≠ sg :: r)
theorem str_eq {a b : Bs} (h : a = b) : ((bs a).toList == (bs b).toList) = true := by rw [bs_toList, bs_toList]; simpa using h
theorem str_ne {a b : Bs} (h : a ≠ b) : ((bs a).toList == (bs b).toList) = false := by rw [bs_toList, bs_toList]; simpa using h
set_option maxRecDepth 100000 in
set_option maxHeartbeats 1000000 in
theorem took_any {B : Nat} {w : World} {ts : List Bs} (h : Rs B w ts) (sg : Bs) : Calls Tryz.prog 50 #[.pointer (some ⟨B, 0, none⟩), .string (bs sg)] w (TookQ B w sg ts) := by
  have hlt := h.lt
  obtain ⟨a, n, c, hb, hr⟩ := h.ex
  obtain ⟨c0, f0⟩ := bx1 hb
  cases ts with
  | nil =>
    obtain rfl := hr.len
    go_enter Tryz.func50, Tryz.ntmps50
    go_wp2_with fail
    go_ret
    exact ⟨.refl _ _, false, rfl, rfl, fun _ h => by cases h⟩
  | cons t r =>
    obtain ⟨g, o, rfl, hg, hc⟩ := hr.at_ (by simp)
    have ht := hc 0 t rfl
    rw [Nat.add_zero] at ht
    have hlen := hr.len
    rw [List.length_cons] at hlen
    have HL : Hid (n = r.length + 1) := hlen
    have hcap := hr.cap
    have hsm := hr.small
    have HB : Hid (w.heap[B]? = some (.cells #[.slice (some ⟨g, o, none⟩) n c] 62 (0, 0))) := hb
    have HC : Hid (∀ i x, (t :: r)[i]? = some x → w.cell? ⟨g, o + i, none⟩ = some (.string (bs x))) := hc
    have k0 : ((n : Int) == 0) = false := nat_bne (b := 0) (by omega)
    have k1 : (0 : Int) < (n : Int) := by omega
    by_cases he : t = sg
    · have k2 := str_eq he
      have k3 : ¬ (c : Int) < 1 := by omega
      have k4 : ¬ (n : Int) < 1 := by omega
      clear hb hc hr hlen
      by_cases hc1 : c = 1
      · subst hc1
        go_enter Tryz.func50, Tryz.ntmps50
        go_wp2_with fail
        go_ret
        have := HL.out
        exact ⟨kx_set, true, rfl, r, by simp, ⟨_, _, _, bx1_set HB.out, ⟨by omega, by omega, by omega, fun hne => absurd (List.length_pos_iff.2 hne) (by omega)⟩⟩⟩
      · have k5 : (c = 1) = False := eq_false hc1
        go_enter Tryz.func50, Tryz.ntmps50
        go_wp2_with fail
        go_ret
        have := HL.out
        exact ⟨kx_set, true, rfl, r, by simp, ⟨_, _, _, bx1_set HB.out, ⟨by omega, by omega, by omega, fun _ => ⟨g, o + 1, rfl, hg, fun i x hx => by
          have := (kx_set (u := .slice (some ⟨g, o + 1, none⟩) (n - 1) (c - 1)) (o := 0)).cell (HC.out (i + 1) x (by simpa using hx)) hg
          rwa [show o + (i + 1) = o + 1 + i by omega] at this⟩⟩⟩⟩
    · have k2 := str_ne he
      clear hb hc hr hlen
      go_enter Tryz.func50, Tryz.ntmps50
      go_wp2_with fail
      go_ret
      exact ⟨.refl _ _, false, rfl, rfl, fun _ h => by cases h; exact he rfl⟩
end Go.Proofs.YtleiohccaagalaaGreat
