/-
  The contracts of exact.Add, Sub, Mul, Compare, Neg at every argument.
-/
import Derived.Test.YtfkkhabpnnealaaGreatDoorWalkC
namespace Go.Proofs.YtfkkhabpnnealaaGreatDoor
open Go.RowKit
attribute [local go_sem ↓] Go.wp_at_zero Go.wp_at_succ
open Go.Sort (Holds putRow holds_putRow putRow_self putRow_set cell?_putRow_other)
/-- how many words are left without the noughts at the end -/
def tk : List Nat → Nat
  | [] => 0
  | x :: l => if tk l = 0 then (if x = 0 then 0 else 1) else tk l + 1
theorem tk_trim : ∀ l : List Nat, TrimP l (tk l)
  | [] => ⟨Nat.le_refl _, fun j _ h => by simp at h, fun h => by simp [tk] at h⟩
  | x :: l => by
    have h := tk_trim l
    have hle := h.le
    by_cases h0 : tk l = 0
    · by_cases hx : x = 0
      · have e : tk (x :: l) = 0 := by simp [tk, h0, hx]
        rw [e]
        refine ⟨by simp, fun j _ hj => ?_, fun h => by omega⟩
        match j, hj with
        | 0, _ => simpa using hx
        | j + 1, hj => have := h.zero j (by omega) (by simpa using hj); simpa using this
      · have e : tk (x :: l) = 1 := by simp [tk, h0, hx]
        rw [e]
        refine ⟨by simp, fun j h1 hj => ?_, fun _ => by simpa using hx⟩
        match j, h1, hj with
        | j + 1, _, hj => have := h.zero j (by omega) (by simpa using hj); simpa using this
    · have e : tk (x :: l) = tk l + 1 := by simp [tk, h0]
      rw [e]
      refine ⟨by simpa using hle, fun j h1 hj => ?_, fun _ => ?_⟩
      · match j, h1, hj with
        | j + 1, h1, hj => have := h.zero j (by omega) (by simpa using hj); simpa using this
      · have := h.top (by omega)
        obtain ⟨k, hk⟩ : ∃ k, tk l = k + 1 := ⟨tk l - 1, by omega⟩
        rw [hk] at this ⊢
        simpa using this
theorem TrimP.uniq {l : List Nat} {a b : Nat} (ha : TrimP l a) (hb : TrimP l b) : a = b := by
  rcases Nat.lt_trichotomy a b with h | h | h
  · exact absurd (ha.zero (b - 1) (by omega) (by have := hb.le; omega)) (hb.top (by omega))
  · exact h
  · exact absurd (hb.zero (a - 1) (by omega) (by have := ha.le; omega)) (ha.top (by omega))
theorem trimmed_eq (ao : Option Addr) (n cap : Nat) (l : List Nat) (w : World) (hm : Sl w ao n cap l) :
    Calls Tryz.prog 48 #[.slice ao n cap] w fun e w' => e = .returned (.slice ao (tk l) cap) ∧ w' = w :=
  (trimmed_any ao n cap l w hm).mono fun e w' ⟨k, he, hw, ht⟩ => ⟨by rw [he, (tk_trim l).uniq ht], hw⟩
theorem Sl.trim {w : World} {ao : Option Addr} {n cap : Nat} {l : List Nat} (h : Sl w ao n cap l) : Sl w ao (tk l) cap (l.take (tk l)) := h.take _ (by have := (tk_trim l).le; have := h.len; omega)
theorem trim_form {l : List Nat} (h : Wd 4294967296 l) : Form 4294967296 (l.take (tk l)) := (tk_trim l).form h
theorem trim_val (l : List Nat) : vl 4294967296 (l.take (tk l)) = vl 4294967296 l := (tk_trim l).val
theorem tk_le {w : World} {ao : Option Addr} {n cap : Nat} {l : List Nat} (h : Sl w ao n cap l) : tk l ≤ n := by have := (tk_trim l).le; have := h.len; omega
theorem Sl.drewN {w : World} {ao : Option Addr} {n cap : Nat} {l : List Nat} (h : Sl w ao n cap l) (q : Nat) : Sl (w.drewN q) ao n cap l := h.below (below_drews (Below.refl _ _) q) (Nat.le_refl _)
/-- a box of two cells that may be written -/
structure Box (w : World) (b : Nat) (c0 c1 : Value) : Prop where
  lt : b < w.heap.size
  z0 : w.cell? ⟨b, 0, none⟩ = some c0
  z1 : w.cell? ⟨b, 1, none⟩ = some c1
  f0 : w.frozen? ⟨b, 0, none⟩ = false
  f1 : w.frozen? ⟨b, 1, none⟩ = false
theorem Box.below {w w' : World} {b : Nat} {c0 c1 : Value} (h : Box w b c0 c1) {B : Nat} (hb : Below B w w') (hB : b < B) : Box w' b c0 c1 :=
  ⟨Nat.lt_of_lt_of_le h.lt hb.size, (hb.cell (p := ⟨b, 0, none⟩) hB).trans h.z0, (hb.cell (p := ⟨b, 1, none⟩) hB).trans h.z1, (hb.frozen (p := ⟨b, 0, none⟩) hB).trans h.f0, (hb.frozen (p := ⟨b, 1, none⟩) hB).trans h.f1⟩
theorem Box.new (w : World) (c0 c1 : Value) (t : TypeId) : Box (w.alloc (.cells #[c0, c1] t)) w.heap.size c0 c1 := by
  refine ⟨by simp, ?_, ?_, ?_, ?_⟩
  · rw [World.cell?_alloc_new]; rfl
  · rw [World.cell?_alloc_new]; rfl
  · rw [World.frozen?_alloc_new]
  · rw [World.frozen?_alloc_new]
theorem boxes2 (w : World) (a0 a1 b0 b1 : Value) (t1 t2 : TypeId) (q : Nat) {W : World} (hW : ((w.alloc (.cells #[a0, a1] t1)).alloc (.cells #[b0, b1] t2)).drewN q = W) :
    Box W w.heap.size a0 a1 ∧ Box W (w.heap.size + 1) b0 b1 ∧ Below w.heap.size w W ∧ W.heap.size = w.heap.size + 1 + 1 := by
  subst hW
  have e1 : (w.alloc (.cells #[a0, a1] t1)).heap.size = w.heap.size + 1 := by simp
  have n1 := Box.new w a0 a1 t1
  have n2 := Box.new (w.alloc (.cells #[a0, a1] t1)) b0 b1 t2
  rw [e1] at n2
  refine ⟨(n1.below ((Below.refl (w.heap.size + 1) _).alloc (by omega) _) (by omega)).below (below_drews (Below.refl (w.heap.size + 1) _) q) (by omega), n2.below (below_drews (Below.refl (w.heap.size + 1 + 1) _) q) (by omega), below_drews (((Below.refl _ _).alloc (Nat.le_refl _) _).alloc (by simp) _) q, ?_⟩
  show ((w.alloc _).alloc _).heap.size = _
  simp
theorem boxes3 (w : World) (a0 a1 b0 b1 r0 r1 : Value) (t1 t2 t3 : TypeId) (q : Nat) {W : World} (hW : (((w.alloc (.cells #[a0, a1] t1)).alloc (.cells #[b0, b1] t2)).alloc (.cells #[r0, r1] t3)).drewN q = W) :
    Box W w.heap.size a0 a1 ∧ Box W (w.heap.size + 1) b0 b1 ∧ Box W (w.heap.size + 1 + 1) r0 r1 ∧ Below w.heap.size w W ∧ W.heap.size = w.heap.size + 1 + 1 + 1 := by
  obtain ⟨h1, h2, h3, h4⟩ := boxes2 w a0 a1 b0 b1 t1 t2 0 (W := (w.alloc (.cells #[a0, a1] t1)).alloc (.cells #[b0, b1] t2)) rfl
  subst hW
  have n3 := Box.new ((w.alloc (.cells #[a0, a1] t1)).alloc (.cells #[b0, b1] t2)) r0 r1 t3
  rw [h4] at n3
  have hb : Below (w.heap.size + 1 + 1) ((w.alloc (.cells #[a0, a1] t1)).alloc (.cells #[b0, b1] t2)) ((((w.alloc (.cells #[a0, a1] t1)).alloc (.cells #[b0, b1] t2)).alloc (.cells #[r0, r1] t3)).drewN q) := below_drews ((Below.refl _ _).alloc (by omega) _) q
  refine ⟨h1.below hb (by omega), h2.below hb (by omega), n3.below (below_drews (Below.refl (w.heap.size + 1 + 1 + 1) _) q) (by omega), h3.trans (hb.mono (by omega)), ?_⟩
  show (((w.alloc _).alloc _).alloc _).heap.size = _
  simp
theorem Own.setCell {w : World} {base : Nat} {ao : Option Addr} {n cap : Nat} {l : List Nat} (h : Own w base ao n cap l) {a : Addr} (ha : a.block < base) (u : Value) : Own (w.setCell a u) base ao n cap l := by
  have hne : ∀ b j, base ≤ b → a ≠ (⟨b, j, none⟩ : Addr) := fun b j hb e => by subst e; simp at ha; omega
  refine ⟨⟨h.sl.len, h.sl.lec, h.sl.mx, h.sl.wd, fun h0 => ?_⟩, fun h0 => ?_⟩
  · obtain ⟨b, e, h1, h2, h3⟩ := h.own h0
    refine ⟨b, 0, e, by simpa using h2, fun j hj => ?_⟩
    rw [World.cell?_setCell_other _ _ _ _ (hne b (0 + j) h1)]
    exact (holds_cell h3 j (by have := h.sl.len; omega)).1
  · obtain ⟨b, e, h1, h2, h3⟩ := h.own h0
    refine ⟨b, e, h1, by simpa using h2, holds_of fun j hj => ?_⟩
    rw [World.cell?_setCell_other _ _ _ _ (hne b (0 + j) h1), World.frozen?_setCell]
    exact holds_cell h3 j hj
theorem set2_other {w : World} {b b' o : Nat} {u v : Value} (h : b ≠ b') : ((w.setCell ⟨b, 0, none⟩ u).setCell ⟨b, 1, none⟩ v).cell? ⟨b', o, none⟩ = w.cell? ⟨b', o, none⟩ := by
  rw [World.cell?_setCell_other _ _ _ _ (by intro e; injection e; omega), World.cell?_setCell_other _ _ _ _ (by intro e; injection e; omega)]
theorem set2_new {w : World} {b : Nat} {c0 c1 u v : Value} (h : Box w b c0 c1) : Box ((w.setCell ⟨b, 0, none⟩ u).setCell ⟨b, 1, none⟩ v) b u v := by
  have e1 : (w.setCell ⟨b, 0, none⟩ u).cell? ⟨b, 1, none⟩ = some c1 := by rw [World.cell?_setCell_other _ _ _ _ (by intro e; injection e with _ h2; cases h2)]; exact h.z1
  refine ⟨by simpa using h.lt, ?_, World.cell?_setCell_same _ _ _ e1, by simpa using h.f0, by simpa using h.f1⟩
  rw [World.cell?_setCell_other _ _ _ _ (by intro e; injection e with _ h2; cases h2)]
  exact World.cell?_setCell_same _ _ _ h.z0
theorem end_box {w W w2 w3 : World} {R k2 cap2 N : Nat} {ao2 : Option Addr} {r2 : List Nat} {v3 u x : Value} {s : Bool} (hbW : Below w.heap.size w W) (hb2 : Below W.heap.size W w2) (hb3 : Below w2.heap.size w2 w3) (hR : w.heap.size ≤ R) (hRW : R < W.heap.size)
    (ho : Own w2 W.heap.size ao2 k2 cap2 r2) (hf : FormR ao2 k2 cap2 r2 v3 s N) : IntR ((w3.setCell ⟨R, 0, none⟩ u).setCell ⟨R, 1, none⟩ x) w.heap.size v3 s N ∧ Below w.heap.size w ((w3.setCell ⟨R, 0, none⟩ u).setCell ⟨R, 1, none⟩ x) := by
  have h1 := hbW.size
  have ho2 := ((ho.below hb3 (Nat.le_refl _)).setCell (a := ⟨R, 0, none⟩) hRW u).setCell (a := ⟨R, 1, none⟩) hRW x
  refine ⟨hf.int ho2.sl (ho2.mono h1).base, ?_⟩
  have h2 := hb2.size
  exact (((hbW.trans (hb2.mono h1)).trans (hb3.mono (by omega))).setCell (p := ⟨R, 0, none⟩) hR u).setCell (p := ⟨R, 1, none⟩) hR x
/-- the sign and the size of a sum -/
def addR (s1 : Bool) (N : Nat) (s2 : Bool) (M : Nat) : Bool × Nat := if s1 = s2 then (s1, N + M) else if N < M then (s2, M - N) else (s1, N - M)
def addE (s1 : Bool) (N : Nat) (s2 : Bool) (M : Nat) : Int := if bigN N || bigN M then 2 else eBig (addR s1 N s2 M).2
def addV (s1 : Bool) (N : Nat) (s2 : Bool) (M : Nat) : Nat := if bigN N || bigN M then 0 else cutN (addR s1 N s2 M).2
def addS (s1 : Bool) (N : Nat) (s2 : Bool) (M : Nat) : Bool := sgB (addR s1 N s2 M).1 (addV s1 N s2 M)
theorem cmpI_ge {a b : Int} (h : b ≤ a) : 0 ≤ cmpI a b := by
  unfold cmpI
  have : ¬ a < b := by omega
  rw [if_neg this]
  split <;> omega
theorem form_len_le {a b : List Nat} (ha : Form 4294967296 a) (hb : Form 4294967296 b) (h : vl 4294967296 a ≤ vl 4294967296 b) : a.length ≤ b.length := by
  rcases Nat.lt_or_ge b.length a.length with h1 | h1
  · have := Form.len_lt (e := 4294967296) (by omega) hb.wd ha h1
    omega
  · exact h1
set_option maxRecDepth 100000 in
set_option maxHeartbeats 2000000 in
theorem add_same (s : Bool) (ao : Option Addr) (n cap : Nat) (l : List Nat) (ap : Option Addr) (m capb : Nat) (p : List Nat) (w : World) (hl : Sl w ao n cap l) (hp : Sl w ap m capb p) (hn : n ≤ 1000) (hm : m ≤ 1000)
    (hb1 : bigN (vl 4294967296 l) = false) (hb2 : bigN (vl 4294967296 p) = false) :
    Calls Tryz.prog 62 #[.agg #[.bool s, .slice ao n cap], .agg #[.bool s, .slice ap m capb]] w fun e w' => ∃ v, e = .returned (.tuple #[v, .int .i64 (eBig (vl 4294967296 l + vl 4294967296 p))]) ∧ IntR w' w.heap.size v (sgB s (cutN (vl 4294967296 l + vl 4294967296 p))) (cutN (vl 4294967296 l + vl 4294967296 p)) ∧ Below w.heap.size w w' := by
  have HL : Hid (Sl w ao n cap l) := hl
  have HP : Hid (Sl w ap m capb p) := hp
  have B1 : Hid (bigN (vl 4294967296 l) = false) := hb1
  have B2 : Hid (bigN (vl 4294967296 p) = false) := hb2
  have K1 := tk_le hl
  have K2 := tk_le hp
  clear hl hp hb1 hb2
  go_enter Tryz.func62, Tryz.ntmps62
  go_wp2_with fail
  have HW : Hid (Below w.heap.size w (((w.alloc (Obj.cells #[Value.bool s, Value.slice ao n cap] 24)).alloc (Obj.cells #[Value.bool s, Value.slice ap m capb] 24)).alloc (Obj.cells #[Value.bool false, Value.slice none 0 0] 24))) := (((Below.refl _ _).alloc (Nat.le_refl _) _).alloc (by simp) _).alloc (by simp; omega) _
  go_quiet (first | (go_at_call_of 48 (Value.slice ao n cap); exact Calls.quiet_of_same (trimmed_eq ao n cap l _ (by exact (HL.out.below HW.out (Nat.le_refl _)).drewN _))) | (go_at_call_of 48 (Value.slice ap m capb); exact Calls.quiet_of_same (trimmed_eq ap m capb p _ (by exact (HP.out.below HW.out (Nat.le_refl _)).drewN _))))
  generalize hW : (World.alloc _ _).drewN _ = W
  obtain ⟨x1, x2, x3, hbW, hzW⟩ := boxes3 w _ _ _ _ _ _ _ _ _ _ hW
  clear hW HW
  have HBW : Hid (Below w.heap.size w W) := hbW
  have X3 : Hid (Box W (w.heap.size + 1 + 1) (.bool false) (.slice none 0 0)) := x3
  have HZ : Hid (W.heap.size = w.heap.size + 1 + 1 + 1) := hzW
  have a0 := x1.z0
  have b0 := x2.z0
  clear x3 hbW hzW x1 x2
  go_wp2_with fail
  refine (large_any ao (tk l) cap (l.take (tk l)) _ (HL.out.below HBW.out (Nat.le_refl _)).trim (trim_form HL.out.wd) (by omega)).mono ?_
  rintro e W ⟨rfl, rfl⟩
  rw [trim_val, B1.out]
  go_wp2_with fail
  refine (large_any ap (tk p) capb (p.take (tk p)) _ (HP.out.below HBW.out (Nat.le_refl _)).trim (trim_form HP.out.wd) (by omega)).mono ?_
  rintro e W ⟨rfl, rfl⟩
  rw [trim_val, B2.out]
  go_wp2_with fail
  have S1 : Hid (Sl W.drew ao (tk l) cap (l.take (tk l))) := (HL.out.below HBW.out (Nat.le_refl _)).trim.below (Below.refl _ _).drew (Nat.le_refl _)
  have S2 : Hid (Sl W.drew ap (tk p) capb (p.take (tk p))) := (HP.out.below HBW.out (Nat.le_refl _)).trim.below (Below.refl _ _).drew (Nat.le_refl _)
  have L1 : w.heap.size < W.drew.heap.size := by have := HZ.out; show _ < W.heap.size; omega
  have L2 : w.heap.size + 1 + 1 < W.drew.heap.size := by have := HZ.out; show _ < W.heap.size; omega
  go_region_held3 (fun w' => w'.cell? ⟨w.heap.size, 0, none⟩ = some (.bool s))
    (first | go_keep | (rw [set2_other (by omega)]; exact j1))
    (first | (go_at_call 85; refine (added_any ao (tk l) cap (l.take (tk l)) ap (tk p) capb (p.take (tk p)) _ (by exact S1.out) (by exact S2.out) (by omega) (by omega)).mono ?_; rintro e w2 ⟨ao2, k2, cap2, r2, rfl, hk2, ho2, hv2, hb2⟩; have j0 : w2.cell? ⟨w.heap.size, 0, none⟩ = some (.bool s) := (hb2.cell (p := ⟨w.heap.size, 0, none⟩) L1).trans a0; have HO2 : Hid (Own w2 _ _ _ _ _) := ho2; have HV2 : Hid (_ = _) := hv2; have HB2 : Hid (Below _ _ w2) := hb2; have X32 : Hid (Box w2 _ _ _) := X3.out.below ((Below.refl _ W).drew.trans hb2) L2; clear ho2 hv2 hb2) | (go_at_call 84; refine (limited_any s ao2 k2 cap2 r2 w2 HO2.out.sl (by omega)).mono ?_; rintro e w3 ⟨v3, rfl, hf3, hb3⟩; have j1 : w3.cell? ⟨w.heap.size, 0, none⟩ = some (.bool s) := (hb3.cell (p := ⟨w.heap.size, 0, none⟩) (Nat.lt_of_lt_of_le L1 HB2.out.size)).trans j0; have HF3 : Hid (FormR _ _ _ _ v3 _ _) := hf3; obtain ⟨ao', k', cap', r', rfl, h1, h2, h3, h4⟩ := hf3.ex; have HB3 : Hid (Below _ _ w3) := hb3; have X33 := X32.out.below hb3 X32.out.lt; have z0 := X33.z0; have z1 := X33.z1; have f0 := X33.f0; have f1 := X33.f1; clear hf3 h1 h2 h3 h4 hb3 X33))
  all_goals
    go_wp2_with fail
    have hv := HV2.out
    rw [trim_val, trim_val] at hv
    have L3 := HZ.out
    obtain ⟨q1, q2⟩ := end_box (R := w.heap.size + 1 + 1) (u := .bool (sgB s (cutN (vl 4294967296 r2)))) (x := .slice ao' k' cap') HBW.out ((Below.refl _ W).drew.trans HB2.out) HB3.out (by omega) (by omega) HO2.out HF3.out
    refine bodyPost_ret (v := .tuple #[.agg #[.bool (sgB s (cutN (vl 4294967296 r2))), .slice ao' k' cap'], .int .i64 (eBig (vl 4294967296 r2))]) (by simp [results, Tryz.results62, go_sem, z0, z1]) rfl ⟨.agg #[.bool (sgB s (cutN (vl 4294967296 r2))), .slice ao' k' cap'], ?_, ?_, q2⟩
    · rw [← hv]
    · rw [← hv]; exact q1
set_option maxRecDepth 100000 in
set_option maxHeartbeats 2000000 in
theorem add_less (s t : Bool) (hst : t = !s) (ao : Option Addr) (n cap : Nat) (l : List Nat) (ap : Option Addr) (m capb : Nat) (p : List Nat) (w : World) (hl : Sl w ao n cap l) (hp : Sl w ap m capb p) (hn : n ≤ 1000) (hm : m ≤ 1000)
    (hb1 : bigN (vl 4294967296 l) = false) (hb2 : bigN (vl 4294967296 p) = false) (hcmp : vl 4294967296 l < vl 4294967296 p) :
    Calls Tryz.prog 62 #[.agg #[.bool s, .slice ao n cap], .agg #[.bool t, .slice ap m capb]] w fun e w' => ∃ v, e = .returned (.tuple #[v, .int .i64 (eBig (vl 4294967296 p - vl 4294967296 l))]) ∧ IntR w' w.heap.size v (sgB t (cutN (vl 4294967296 p - vl 4294967296 l))) (cutN (vl 4294967296 p - vl 4294967296 l)) ∧ Below w.heap.size w w' := by
  have HL : Hid (Sl w ao n cap l) := hl
  have HP : Hid (Sl w ap m capb p) := hp
  have B1 : Hid (bigN (vl 4294967296 l) = false) := hb1
  have B2 : Hid (bigN (vl 4294967296 p) = false) := hb2
  have K1 := tk_le hl
  have K2 := tk_le hp
  have HC : Hid (vl 4294967296 l < vl 4294967296 p) := hcmp
  have HST : Hid ((s == t) = false) := by subst hst; show _ = _; cases s <;> rfl
  clear hl hp hb1 hb2 hcmp hst
  go_enter Tryz.func62, Tryz.ntmps62
  go_wp2_with fail
  have HW : Hid (Below w.heap.size w (((w.alloc (Obj.cells #[Value.bool s, Value.slice ao n cap] 24)).alloc (Obj.cells #[Value.bool t, Value.slice ap m capb] 24)).alloc (Obj.cells #[Value.bool false, Value.slice none 0 0] 24))) := (((Below.refl _ _).alloc (Nat.le_refl _) _).alloc (by simp) _).alloc (by simp; omega) _
  go_quiet (first | (go_at_call_of 48 (Value.slice ao n cap); exact Calls.quiet_of_same (trimmed_eq ao n cap l _ (by exact (HL.out.below HW.out (Nat.le_refl _)).drewN _))) | (go_at_call_of 48 (Value.slice ap m capb); exact Calls.quiet_of_same (trimmed_eq ap m capb p _ (by exact (HP.out.below HW.out (Nat.le_refl _)).drewN _))))
  generalize hW : (World.alloc _ _).drewN _ = W
  obtain ⟨x1, x2, x3, hbW, hzW⟩ := boxes3 w _ _ _ _ _ _ _ _ _ _ hW
  clear hW HW
  have HBW : Hid (Below w.heap.size w W) := hbW
  have X3 : Hid (Box W (w.heap.size + 1 + 1) (.bool false) (.slice none 0 0)) := x3
  have HZ : Hid (W.heap.size = w.heap.size + 1 + 1 + 1) := hzW
  have a0 := x1.z0
  have b0 := x2.z0
  have hst := HST.out
  clear x3 hbW hzW x1 x2
  go_wp2_with fail
  refine (large_any ao (tk l) cap (l.take (tk l)) _ (HL.out.below HBW.out (Nat.le_refl _)).trim (trim_form HL.out.wd) (by omega)).mono ?_
  rintro e W ⟨rfl, rfl⟩
  rw [trim_val, B1.out]
  go_wp2_with fail
  refine (large_any ap (tk p) capb (p.take (tk p)) _ (HP.out.below HBW.out (Nat.le_refl _)).trim (trim_form HP.out.wd) (by omega)).mono ?_
  rintro e W ⟨rfl, rfl⟩
  rw [trim_val, B2.out]
  go_wp2_with fail
  refine (compared_any ao (tk l) cap (l.take (tk l)) ap (tk p) capb (p.take (tk p)) _ (HL.out.below HBW.out (Nat.le_refl _)).trim (HP.out.below HBW.out (Nat.le_refl _)).trim (trim_form HL.out.wd) (trim_form HP.out.wd) (by omega) (by omega)).mono ?_
  rintro e V ⟨rfl, hbV⟩
  rw [trim_val, trim_val]
  have HBV : Hid (Below w.heap.size w V) := HBW.out.trans (hbV.mono HBW.out.size)
  have L0 := HZ.out
  have hsV := hbV.size
  have X3V : Hid (Box V (w.heap.size + 1 + 1) (.bool false) (.slice none 0 0)) := X3.out.below hbV (by omega)
  have a0 := (hbV.cell (p := ⟨w.heap.size, 0, none⟩) (by show w.heap.size < W.heap.size; omega)).trans a0
  have b0 := (hbV.cell (p := ⟨w.heap.size + 1, 0, none⟩) (by show w.heap.size + 1 < W.heap.size; omega)).trans b0
  have hcv : cmpI (vl 4294967296 l) (vl 4294967296 p) < 0 := by rw [cmpI_lt (by have := HC.out; omega)]; omega
  have hlx : tk l ≤ tk p := by
    have h1 := HC.out
    rw [← trim_val l, ← trim_val p] at h1
    have := form_len_le (trim_form HL.out.wd) (trim_form HP.out.wd) (by omega)
    simp only [List.length_take] at this
    have := (tk_trim l).le
    have := (tk_trim p).le
    omega
  have HGE : Hid (vl 4294967296 (l.take (tk l)) ≤ vl 4294967296 (p.take (tk p))) := by
    have h1 := HC.out
    show _ ≤ _
    rw [trim_val, trim_val]
    omega
  generalize cmpI (vl 4294967296 l) (vl 4294967296 p) = cc at *
  go_wp2_with fail
  have S1 : Hid (Sl V.drew ao (tk l) cap (l.take (tk l))) := (HL.out.below HBV.out (Nat.le_refl _)).trim.below (Below.refl _ _).drew (Nat.le_refl _)
  have S2 : Hid (Sl V.drew ap (tk p) capb (p.take (tk p))) := (HP.out.below HBV.out (Nat.le_refl _)).trim.below (Below.refl _ _).drew (Nat.le_refl _)
  have L1 : w.heap.size + 1 < V.drew.heap.size := by show _ < V.heap.size; omega
  have L2 : w.heap.size + 1 + 1 < V.drew.heap.size := by show _ < V.heap.size; omega
  clear hbV hsV L0
  go_region_held3 (fun w' => w'.cell? ⟨w.heap.size + 1, 0, none⟩ = some (.bool t))
    (first | go_keep | (rw [set2_other (by omega)]; exact j1))
    (first | (go_at_call 86; refine (taken_any ap (tk p) capb (p.take (tk p)) ao (tk l) cap (l.take (tk l)) _ (by exact S2.out) (by exact S1.out) (by omega) (by omega) HGE.out).mono ?_; rintro e w2 ⟨ao2, cap2, r2, rfl, ho2, hv2, hb2⟩; have j0 : w2.cell? ⟨w.heap.size + 1, 0, none⟩ = some (.bool t) := (hb2.cell (p := ⟨w.heap.size + 1, 0, none⟩) L1).trans b0; have HO2 : Hid (Own w2 _ _ _ _ _) := ho2; have HV2 : Hid (_ = _) := hv2; have HB2 : Hid (Below _ _ w2) := hb2; have X32 : Hid (Box w2 _ _ _) := X3V.out.below ((Below.refl _ V).drew.trans hb2) L2; clear ho2 hv2 hb2) | (go_at_call 84; refine (limited_any t ao2 (tk p) cap2 r2 w2 HO2.out.sl (by omega)).mono ?_; rintro e w3 ⟨v3, rfl, hf3, hb3⟩; have j1 : w3.cell? ⟨w.heap.size + 1, 0, none⟩ = some (.bool t) := (hb3.cell (p := ⟨w.heap.size + 1, 0, none⟩) (Nat.lt_of_lt_of_le L1 HB2.out.size)).trans j0; have HF3 : Hid (FormR _ _ _ _ v3 _ _) := hf3; obtain ⟨ao', k', cap', r', rfl, h1, h2, h3, h4⟩ := hf3.ex; have HB3 : Hid (Below _ _ w3) := hb3; have X33 := X32.out.below hb3 X32.out.lt; have z0 := X33.z0; have z1 := X33.z1; have f0 := X33.f0; have f1 := X33.f1; clear hf3 h1 h2 h3 h4 hb3 X33))
  all_goals
    go_wp2_with fail
    have hv := HV2.out
    rw [trim_val, trim_val] at hv
    have hv : vl 4294967296 r2 = vl 4294967296 p - vl 4294967296 l := by omega
    obtain ⟨q1, q2⟩ := end_box (R := w.heap.size + 1 + 1) (u := .bool (sgB t (cutN (vl 4294967296 r2)))) (x := .slice ao' k' cap') HBV.out ((Below.refl _ V).drew.trans HB2.out) HB3.out (by omega) L2 HO2.out HF3.out
    refine bodyPost_ret (v := .tuple #[.agg #[.bool (sgB t (cutN (vl 4294967296 r2))), .slice ao' k' cap'], .int .i64 (eBig (vl 4294967296 r2))]) (by simp [results, Tryz.results62, go_sem, z0, z1]) rfl ⟨.agg #[.bool (sgB t (cutN (vl 4294967296 r2))), .slice ao' k' cap'], ?_, ?_, q2⟩
    · rw [← hv]
    · rw [← hv]; exact q1
set_option maxRecDepth 100000 in
set_option maxHeartbeats 2000000 in
theorem add_more (s t : Bool) (hst : t = !s) (ao : Option Addr) (n cap : Nat) (l : List Nat) (ap : Option Addr) (m capb : Nat) (p : List Nat) (w : World) (hl : Sl w ao n cap l) (hp : Sl w ap m capb p) (hn : n ≤ 1000) (hm : m ≤ 1000)
    (hb1 : bigN (vl 4294967296 l) = false) (hb2 : bigN (vl 4294967296 p) = false) (hcmp : vl 4294967296 p ≤ vl 4294967296 l) :
    Calls Tryz.prog 62 #[.agg #[.bool s, .slice ao n cap], .agg #[.bool t, .slice ap m capb]] w fun e w' => ∃ v, e = .returned (.tuple #[v, .int .i64 (eBig (vl 4294967296 l - vl 4294967296 p))]) ∧ IntR w' w.heap.size v (sgB s (cutN (vl 4294967296 l - vl 4294967296 p))) (cutN (vl 4294967296 l - vl 4294967296 p)) ∧ Below w.heap.size w w' := by
  have HL : Hid (Sl w ao n cap l) := hl
  have HP : Hid (Sl w ap m capb p) := hp
  have B1 : Hid (bigN (vl 4294967296 l) = false) := hb1
  have B2 : Hid (bigN (vl 4294967296 p) = false) := hb2
  have K1 := tk_le hl
  have K2 := tk_le hp
  have HC : Hid (vl 4294967296 p ≤ vl 4294967296 l) := hcmp
  have HST : Hid ((s == t) = false) := by subst hst; show _ = _; cases s <;> rfl
  clear hl hp hb1 hb2 hcmp hst
  go_enter Tryz.func62, Tryz.ntmps62
  go_wp2_with fail
  have HW : Hid (Below w.heap.size w (((w.alloc (Obj.cells #[Value.bool s, Value.slice ao n cap] 24)).alloc (Obj.cells #[Value.bool t, Value.slice ap m capb] 24)).alloc (Obj.cells #[Value.bool false, Value.slice none 0 0] 24))) := (((Below.refl _ _).alloc (Nat.le_refl _) _).alloc (by simp) _).alloc (by simp; omega) _
  go_quiet (first | (go_at_call_of 48 (Value.slice ao n cap); exact Calls.quiet_of_same (trimmed_eq ao n cap l _ (by exact (HL.out.below HW.out (Nat.le_refl _)).drewN _))) | (go_at_call_of 48 (Value.slice ap m capb); exact Calls.quiet_of_same (trimmed_eq ap m capb p _ (by exact (HP.out.below HW.out (Nat.le_refl _)).drewN _))))
  generalize hW : (World.alloc _ _).drewN _ = W
  obtain ⟨x1, x2, x3, hbW, hzW⟩ := boxes3 w _ _ _ _ _ _ _ _ _ _ hW
  clear hW HW
  have HBW : Hid (Below w.heap.size w W) := hbW
  have X3 : Hid (Box W (w.heap.size + 1 + 1) (.bool false) (.slice none 0 0)) := x3
  have HZ : Hid (W.heap.size = w.heap.size + 1 + 1 + 1) := hzW
  have a0 := x1.z0
  have b0 := x2.z0
  have hst := HST.out
  clear x3 hbW hzW x1 x2
  go_wp2_with fail
  refine (large_any ao (tk l) cap (l.take (tk l)) _ (HL.out.below HBW.out (Nat.le_refl _)).trim (trim_form HL.out.wd) (by omega)).mono ?_
  rintro e W ⟨rfl, rfl⟩
  rw [trim_val, B1.out]
  go_wp2_with fail
  refine (large_any ap (tk p) capb (p.take (tk p)) _ (HP.out.below HBW.out (Nat.le_refl _)).trim (trim_form HP.out.wd) (by omega)).mono ?_
  rintro e W ⟨rfl, rfl⟩
  rw [trim_val, B2.out]
  go_wp2_with fail
  refine (compared_any ao (tk l) cap (l.take (tk l)) ap (tk p) capb (p.take (tk p)) _ (HL.out.below HBW.out (Nat.le_refl _)).trim (HP.out.below HBW.out (Nat.le_refl _)).trim (trim_form HL.out.wd) (trim_form HP.out.wd) (by omega) (by omega)).mono ?_
  rintro e V ⟨rfl, hbV⟩
  rw [trim_val, trim_val]
  have HBV : Hid (Below w.heap.size w V) := HBW.out.trans (hbV.mono HBW.out.size)
  have L0 := HZ.out
  have hsV := hbV.size
  have X3V : Hid (Box V (w.heap.size + 1 + 1) (.bool false) (.slice none 0 0)) := X3.out.below hbV (by omega)
  have a0 := (hbV.cell (p := ⟨w.heap.size, 0, none⟩) (by show w.heap.size < W.heap.size; omega)).trans a0
  have b0 := (hbV.cell (p := ⟨w.heap.size + 1, 0, none⟩) (by show w.heap.size + 1 < W.heap.size; omega)).trans b0
  have hcv : 0 ≤ cmpI (vl 4294967296 l) (vl 4294967296 p) := cmpI_ge (by have := HC.out; omega)
  have hlx : tk p ≤ tk l := by
    have h1 := HC.out
    rw [← trim_val l, ← trim_val p] at h1
    have := form_len_le (trim_form HP.out.wd) (trim_form HL.out.wd) (by omega)
    simp only [List.length_take] at this
    have := (tk_trim l).le
    have := (tk_trim p).le
    omega
  have HGE : Hid (vl 4294967296 (p.take (tk p)) ≤ vl 4294967296 (l.take (tk l))) := by
    have h1 := HC.out
    show _ ≤ _
    rw [trim_val, trim_val]
    omega
  generalize cmpI (vl 4294967296 l) (vl 4294967296 p) = cc at *
  go_wp2_with fail
  have S1 : Hid (Sl V.drew ao (tk l) cap (l.take (tk l))) := (HL.out.below HBV.out (Nat.le_refl _)).trim.below (Below.refl _ _).drew (Nat.le_refl _)
  have S2 : Hid (Sl V.drew ap (tk p) capb (p.take (tk p))) := (HP.out.below HBV.out (Nat.le_refl _)).trim.below (Below.refl _ _).drew (Nat.le_refl _)
  have L1 : w.heap.size < V.drew.heap.size := by show _ < V.heap.size; omega
  have L2 : w.heap.size + 1 + 1 < V.drew.heap.size := by show _ < V.heap.size; omega
  clear hbV hsV L0
  go_region_held3 (fun w' => w'.cell? ⟨w.heap.size, 0, none⟩ = some (.bool s))
    (first | go_keep | (rw [set2_other (by omega)]; exact j1))
    (first | (go_at_call 86; refine (taken_any ao (tk l) cap (l.take (tk l)) ap (tk p) capb (p.take (tk p)) _ (by exact S1.out) (by exact S2.out) (by omega) (by omega) HGE.out).mono ?_; rintro e w2 ⟨ao2, cap2, r2, rfl, ho2, hv2, hb2⟩; have j0 : w2.cell? ⟨w.heap.size, 0, none⟩ = some (.bool s) := (hb2.cell (p := ⟨w.heap.size, 0, none⟩) L1).trans a0; have HO2 : Hid (Own w2 _ _ _ _ _) := ho2; have HV2 : Hid (_ = _) := hv2; have HB2 : Hid (Below _ _ w2) := hb2; have X32 : Hid (Box w2 _ _ _) := X3V.out.below ((Below.refl _ V).drew.trans hb2) L2; clear ho2 hv2 hb2) | (go_at_call 84; refine (limited_any s ao2 (tk l) cap2 r2 w2 HO2.out.sl (by omega)).mono ?_; rintro e w3 ⟨v3, rfl, hf3, hb3⟩; have j1 : w3.cell? ⟨w.heap.size, 0, none⟩ = some (.bool s) := (hb3.cell (p := ⟨w.heap.size, 0, none⟩) (Nat.lt_of_lt_of_le L1 HB2.out.size)).trans j0; have HF3 : Hid (FormR _ _ _ _ v3 _ _) := hf3; obtain ⟨ao', k', cap', r', rfl, h1, h2, h3, h4⟩ := hf3.ex; have HB3 : Hid (Below _ _ w3) := hb3; have X33 := X32.out.below hb3 X32.out.lt; have z0 := X33.z0; have z1 := X33.z1; have f0 := X33.f0; have f1 := X33.f1; clear hf3 h1 h2 h3 h4 hb3 X33))
  all_goals
    go_wp2_with fail
    have hv := HV2.out
    rw [trim_val, trim_val] at hv
    have hv : vl 4294967296 r2 = vl 4294967296 l - vl 4294967296 p := by omega
    obtain ⟨q1, q2⟩ := end_box (R := w.heap.size + 1 + 1) (u := .bool (sgB s (cutN (vl 4294967296 r2)))) (x := .slice ao' k' cap') HBV.out ((Below.refl _ V).drew.trans HB2.out) HB3.out (by omega) L2 HO2.out HF3.out
    refine bodyPost_ret (v := .tuple #[.agg #[.bool (sgB s (cutN (vl 4294967296 r2))), .slice ao' k' cap'], .int .i64 (eBig (vl 4294967296 r2))]) (by simp [results, Tryz.results62, go_sem, z0, z1]) rfl ⟨.agg #[.bool (sgB s (cutN (vl 4294967296 r2))), .slice ao' k' cap'], ?_, ?_, q2⟩
    · rw [← hv]
    · rw [← hv]; exact q1
end Go.Proofs.YtfkkhabpnnealaaGreatDoor

