/-
  Rows of words of one's own, and the contracts of slices.Clone, cmp.Compare, and exact's compared, added, taken, multiplied, inForm at every argument.
-/
import Derived.Test.YtfkkhabpnnealaaGreatDoorWalkA
import Derived.Laws.CopyOwn
import Derived.Laws.OwnMore
import Derived.Lib.SliceRun
namespace Go.Proofs.YtfkkhabpnnealaaGreatDoor
open Go.RowKit
attribute [local go_sem ↓] Go.wp_at_zero Go.wp_at_succ
open Go.Sort (Holds putRow holds_putRow putRow_self putRow_set cell?_putRow_other mapBlock onCells)
theorem below_putRow {B : Nat} {a w : World} (h : Below B a w) {blk : Nat} (hb : B ≤ blk) (off : Nat) (d : Array Nat) : Below B a (putRow eU w blk off d) :=
  h.trans ⟨rfl, rfl, rfl, by simp, fun k hk => by
    show (w.heap.modify blk _)[k]? = w.heap[k]?
    rw [Array.getElem?_modify, if_neg (by omega)]⟩
theorem Sl.below {w w' : World} {ao : Option Addr} {n cap : Nat} {l : List Nat} (h : Sl w ao n cap l) {B : Nat} (hb : Below B w w') (hB : w.heap.size ≤ B) : Sl w' ao n cap l := by
  refine ⟨h.len, h.lec, h.mx, h.wd, fun h0 => ?_⟩
  obtain ⟨b, off, e, hlt, hc⟩ := h.at_ h0
  exact ⟨b, off, e, Nat.lt_of_lt_of_le hlt hb.size, fun j hj => (hb.cell (p := ⟨b, off + j, none⟩) (by show b < B; omega)).trans (hc j hj)⟩
theorem Sl.nil (w : World) : Sl w none 0 0 [] := ⟨rfl, Nat.le_refl _, by omega, by simp [Wd], fun h => by omega⟩
/-- a row of words of the call's own -/
structure Own (w : World) (base : Nat) (ao : Option Addr) (n cap : Nat) (l : List Nat) : Prop where
  sl : Sl w ao n cap l
  own : 0 < n → ∃ b, ao = some ⟨b, 0, none⟩ ∧ base ≤ b ∧ b < w.heap.size ∧ Holds eU w b 0 l.toArray
theorem Own.of_holds {w : World} {base b n cap : Nat} {l : List Nat} (hl : l.length = n) (hc : n ≤ cap) (hm : cap ≤ 9223372036854775807) (hw : Wd 4294967296 l) (h1 : base ≤ b) (h2 : b < w.heap.size) (h : Holds eU w b 0 l.toArray) :
    Own w base (some ⟨b, 0, none⟩) n cap l :=
  ⟨⟨hl, hc, hm, hw, fun _ => ⟨b, 0, rfl, h2, fun j hj => (holds_cell h j (by omega)).1⟩⟩, fun _ => ⟨b, rfl, h1, h2, h⟩⟩
theorem getElem?_map_eU (l : List Nat) (j : Nat) (h : j < l.length) : (l.map eU)[j]? = some (.int .u32 (l.getD j 0 : Nat)) := by
  simp [List.getD_eq_getElem?_getD, h]
theorem Own.of_row {w : World} {base : Nat} {v : Value} {n : Nat} {l : List Nat} (h : w.ownsRow base 70 1 v n (l.map eU)) (hw : Wd 4294967296 l) : ∃ ao cap, v = .slice ao n cap ∧ Own w base ao n cap l := by
  have hlen : l.length = n := by have := h.1; simpa using this
  rcases h.2 with ⟨rfl, rfl⟩ | ⟨g, cap, cur, rfl, hg, hb, hc, hm, hs, ht⟩
  · refine ⟨none, 0, rfl, ⟨hlen, Nat.le_refl _, by omega, hw, fun h => by omega⟩, fun h => by omega⟩
  · have hlt : g < w.heap.size := by
      rcases Nat.lt_or_ge g w.heap.size with h1 | h1
      · exact h1
      · rw [Array.getElem?_eq_none h1] at hb; cases hb
    refine ⟨_, cap, rfl, Own.of_holds hlen hc (by unfold maxLen at hm; omega) hw hg hlt (holds_of fun k hk => ?_)⟩
    rw [Nat.zero_add]
    refine ⟨?_, World.ownsRow.frozenAt h k⟩
    rw [World.ownsRow.cellAt h k (by omega)]
    exact getElem?_map_eU l k hk
theorem Own.put {w : World} {base b n cap : Nat} {l : List Nat} (h : Own w base (some ⟨b, 0, none⟩) n cap l) (h0 : 0 < n) {r : List Nat} (hr : r.length = l.length) (hw : Wd 4294967296 r) :
    Own (putRow eU w b 0 r.toArray) base (some ⟨b, 0, none⟩) n cap r := by
  obtain ⟨b', e, h1, h2, h3⟩ := h.own h0
  cases e
  exact Own.of_holds (hr.trans h.sl.len) h.sl.lec h.sl.mx hw h1 (by simpa using h2) (holds_putRow eU w b 0 l.toArray r.toArray h3 (by simp [hr]))
theorem Own.mono {w : World} {base base' : Nat} {ao : Option Addr} {n cap : Nat} {l : List Nat} (h : Own w base ao n cap l) (hb : base' ≤ base) : Own w base' ao n cap l :=
  ⟨h.sl, fun h0 => by obtain ⟨b, e, h1, h2⟩ := h.own h0; exact ⟨b, e, by omega, h2⟩⟩
theorem Tryz.info70 : (Tryz.prog.info? 70).map (fun i => (i.zero, i.size, i.bytes)) = some (some (.int .u32 0), 1, 4) := by kernel_rfl
theorem holds_below {w w' : World} {b off : Nat} {d : Array Nat} (h : Holds eU w b off d) {B : Nat} (hb : Below B w w') (hB : b < B) : Holds eU w' b off d := fun j hj => by
  rw [hb.cell (p := ⟨b, off + j, none⟩) hB, hb.frozen (p := ⟨b, off + j, none⟩) hB]
  exact h j hj
theorem Own.below {w w' : World} {base : Nat} {ao : Option Addr} {n cap : Nat} {l : List Nat} (h : Own w base ao n cap l) {B : Nat} (hb : Below B w w') (hB : w.heap.size ≤ B) : Own w' base ao n cap l :=
  ⟨h.sl.below hb hB, fun h0 => by
    obtain ⟨b, e, h1, h2, h3⟩ := h.own h0
    exact ⟨b, e, h1, Nat.lt_of_lt_of_le h2 hb.size, holds_below h3 hb (by omega)⟩⟩
theorem eqnil (w : World) (a : Option Addr) (n c : Nat) : (binOp .eql 22 (.slice a n c) (.slice none 0 0)).run Tryz.prog w = .ok (.bool a.isNone) w := Lib.run_eql_slice_nil w _ _ a n c 0 0 Tryz.underlying22
set_option maxRecDepth 100000 in
set_option maxHeartbeats 1000000 in
theorem clone_any (ao : Option Addr) (n cap : Nat) (l : List Nat) (w : World) (hs : Sl w ao n cap l) (hn : n ≤ 1000000) :
    Calls Tryz.prog 47 #[.slice ao n cap] w fun e w' => ∃ ao' cap', e = .returned (.slice ao' n cap') ∧ Own w' w.heap.size ao' n cap' l ∧ Below w.heap.size w w' := by
  have HS : Hid (Sl w ao n cap l) := hs
  clear hs
  have q22 := eqnil
  obtain ⟨i0, hi, hz0, hz1, hz2⟩ := info_parts Tryz.info70
  cases ao with
  | none =>
    have h0 : n = 0 := by
      rcases Nat.eq_zero_or_pos n with h | h
      · exact h
      · obtain ⟨b, off, e, _⟩ := HS.out.at_ h; cases e
    subst h0
    have hl : l = [] := List.eq_nil_of_length_eq_zero HS.out.len
    subst hl
    go_enter Tryz.func47, Tryz.ntmps47
    go_wp2
    go_ret
    exact ⟨none, 0, rfl, ⟨Sl.nil w, fun h => by omega⟩, Below.refl _ _⟩
  | some ad =>
    go_enter Tryz.func47, Tryz.ntmps47
    go_wp2_with (at_builtin; refine wpList_append_own _ rfl _ _ 22 rfl w.heap.size 70 i0 (.int .u32 0) 1 4 Tryz.underlying22 hi hz0 hz1 hz2 rfl (by decide) _ _ _ rfl (World.ownsRow_made w #[] 0 (Nat.le_refl _) (Nat.zero_le _) (by simp)) ad n cap (l.map eU) rfl ?qc1 ?qc2 ?qc3 ?qc4 ?qc5 ?qc6 ?_)
    case qc1 => rw [List.length_map, HS.out.len, Nat.mul_one]
    case qc2 =>
      intro j u hj
      have hjn : j < l.length := by
        rcases Nat.lt_or_ge j l.length with h | h
        · exact h
        · rw [List.getElem?_eq_none (by simpa using h)] at hj; cases hj
      obtain ⟨b, off, e, hb, hc⟩ := HS.out.at_ (by have := HS.out.len; omega)
      cases e
      rw [Addr.add_lit]
      refine Lib.cell?_alloc_some _ ?_
      rw [getElem?_map_eU l j hjn] at hj
      rw [← hj]
      exact hc j (by have := HS.out.len; omega)
    case qc3 => intro u hu; obtain ⟨x, _, rfl⟩ := List.mem_map.1 hu; rfl
    case qc4 => unfold maxLen; omega
    case qc5 => omega
    case qc6 => simp
    intro v' w1 hown hgrow _
    have hbl : Below w.heap.size w w1 := ((Below.refl _ w).alloc (Nat.le_refl _) _).grown hgrow (by simp) (by intro k hk; simp [Value.ownBlock] at hk; omega)
    obtain ⟨ao', cap', rfl, ho⟩ := Own.of_row hown HS.out.wd
    have HO : Hid (Own w1 w.heap.size ao' n cap' l) := ho
    clear hown hgrow ho
    go_wp2
    go_ret
    exact ⟨ao', cap', rfl, HO.out, hbl⟩
def cmpI (a b : Int) : Int := if a < b then -1 else if b < a then 1 else 0
theorem cmpI_lt {a b : Int} (h : a < b) : cmpI a b = -1 := by simp [cmpI, h]
theorem cmpI_gt {a b : Int} (h : b < a) : cmpI a b = 1 := by
  have : ¬ a < b := by omega
  simp [cmpI, h, this]
theorem cmpI_eq {a b : Int} (h : a = b) : cmpI a b = 0 := by
  subst h; simp [cmpI]
set_option maxRecDepth 100000 in
set_option maxHeartbeats 400000 in
theorem cmpInt_any (a b : Int) (w : World) :
    Calls Tryz.prog 68 #[.int .i64 a, .int .i64 b] w fun e w' => e = .returned (.int .i64 (cmpI a b)) ∧ w' = w := by
  go_enter Tryz.func68, Tryz.ntmps68
  go_wp2
  all_goals go_ret
  · exact ⟨ret_int (cmpI_lt ‹_›).symm, rfl⟩
  · exact ⟨ret_int (cmpI_gt ‹_›).symm, rfl⟩
  · exact ⟨ret_int (cmpI_eq (by omega)).symm, rfl⟩
set_option maxRecDepth 100000 in
set_option maxHeartbeats 400000 in
theorem cmpU32_any (a b : Int) (w : World) :
    Calls Tryz.prog 90 #[.int .u32 a, .int .u32 b] w fun e w' => e = .returned (.int .i64 (cmpI a b)) ∧ w' = w := by
  go_enter Tryz.func90, Tryz.ntmps90
  go_wp2
  all_goals go_ret
  · exact ⟨ret_int (cmpI_lt ‹_›).symm, rfl⟩
  · exact ⟨ret_int (cmpI_gt ‹_›).symm, rfl⟩
  · exact ⟨ret_int (cmpI_eq (by omega)).symm, rfl⟩
theorem Sl.apart {w : World} {ap : Option Addr} {m capb : Nat} {p : List Nat} (h : Sl w ap m capb p) {b : Nat} (hb : w.heap.size ≤ b) : 0 < m → ∀ b' o', ap = some ⟨b', o', none⟩ → b' ≠ b := fun hm b' o' e' => by
  obtain ⟨b2, o2, e2, hlt, _⟩ := h.at_ hm
  rw [e2] at e'; cases e'; omega
theorem TakeR.done {s l : List Nat} {n : Nat} {r : List Nat} {c : Nat} (h : TakeR s l 1 n r c) (hs : s.length = n) (hl : l.length ≤ n) (hge : vl 4294967296 l ≤ vl 4294967296 s) : vl 4294967296 r + vl 4294967296 l = vl 4294967296 s := by
  have e := h.eq
  rw [List.take_of_length_le (by omega), List.take_of_length_le (by omega), Nat.one_mul] at e
  have hr := vl_lt 4294967296 r h.wd
  rw [h.len] at hr
  rcases Nat.eq_zero_or_pos c with h0 | h0
  · subst h0; simpa using e
  · have := Nat.mul_le_mul_left (4294967296 ^ n) h0
    generalize 4294967296 ^ n * c = X at *
    generalize 4294967296 ^ n = Y at *
    omega
set_option maxRecDepth 100000 in
set_option maxHeartbeats 2000000 in
theorem taken_any (ao : Option Addr) (n cap : Nat) (l : List Nat) (ap : Option Addr) (m capb : Nat) (p : List Nat) (w : World) (hl : Sl w ao n cap l) (hp : Sl w ap m capb p) (hn : n ≤ 1000000) (hmn : m ≤ n) (hge : vl 4294967296 p ≤ vl 4294967296 l) :
    Calls Tryz.prog 86 #[.slice ao n cap, .slice ap m capb] w fun e w' => ∃ ao' cap' r, e = .returned (.slice ao' n cap') ∧ Own w' w.heap.size ao' n cap' r ∧ vl 4294967296 r + vl 4294967296 p = vl 4294967296 l ∧ Below w.heap.size w w' := by
  have HL : Hid (Sl w ao n cap l) := hl
  have HP : Hid (Sl w ap m capb p) := hp
  clear hl hp
  go_enter Tryz.func86, Tryz.ntmps86
  go_wp2_with fail
  refine (clone_any _ _ _ l _ HL.out hn).mono ?_
  rintro e w1 ⟨ao', cap', rfl, ho, hb⟩
  have HO : Hid (Own w1 w.heap.size ao' n cap' l) := ho
  clear ho
  go_wp2_with fail
  rcases Nat.eq_zero_or_pos n with h0 | h0
  · subst h0
    refine (takeTimes_none _ _ _ _ _ 1 _).mono ?_
    rintro e w2 ⟨rfl, rfl⟩
    go_wp2
    go_ret
    have e1 : l = [] := List.eq_nil_of_length_eq_zero HL.out.len
    subst e1
    have hv : vl 4294967296 ([] : List Nat) = 0 := rfl
    exact ⟨ao', cap', [], rfl, HO.out, by omega, hb⟩
  · obtain ⟨b, rfl, h1, h2, h3⟩ := HO.out.own h0
    refine (takeTimes_any b 0 n cap' l ap m capb p 1 w1 h3 HL.out.len HL.out.wd (HP.out.below hb (Nat.le_refl _)) (HP.out.apart h1) (by omega) hn).mono ?_
    rintro e w2 ⟨r, c, rfl, rfl, hr⟩
    have HR : Hid (TakeR l p 1 n r c) := hr
    have HB : Hid (Below w.heap.size w w1) := hb
    clear hr h3 hb
    go_wp2
    go_ret
    exact ⟨_, cap', r, rfl, HO.out.put h0 (HR.out.len.trans HL.out.len.symm) HR.out.wd, HR.out.done HL.out.len (by rw [HP.out.len]; exact hmn) hge, below_putRow HB.out h1 0 _⟩
theorem made_zeros (n : Nat) : (madeCells (Value.int .u32 0).cells (n * 1)).toList = (List.replicate n 0).map eU := by
  rw [Nat.mul_one]
  show (madeCells #[.int .u32 0] n).toList = _
  rw [toList_madeCells_one]
  simp
theorem made_heap {w : World} {base g n : Nat} {xs : List Value} (h : w.ownsRow base 70 1 (.slice (some ⟨g, 0, none⟩) n n) n xs) : w.heap[g]? = some (.cells xs.toArray 70 (0, 0)) ∧ base ≤ g := by
  rcases h.2 with ⟨e, _⟩ | ⟨g', cap, cur, e, hg, hb, hc, hm, hs, ht⟩
  · cases e
  · cases e
    refine ⟨?_, hg⟩
    rw [hb]
    rw [List.take_of_length_le (by simp [hs])] at ht
    rw [← ht]
theorem holds_heap {w : World} {g : Nat} {l : List Nat} {t : TypeId} (h : w.heap[g]? = some (.cells (l.map eU).toArray t (0, 0))) : Holds eU w g 0 l.toArray ∧ g < w.heap.size := by
  constructor
  · refine holds_of fun k hk => ?_
    rw [Nat.zero_add]
    refine ⟨?_, ?_⟩
    · simp only [World.cell?, h]
      have := getElem?_map_eU l k hk
      simpa using this
    · simp [World.frozen?, h]
  · rcases Nat.lt_or_ge g w.heap.size with h1 | h1
    · exact h1
    · rw [Array.getElem?_eq_none h1] at h; cases h
theorem wd_replicate (n : Nat) : Wd 4294967296 (List.replicate n 0) := fun x hx => by rw [(List.mem_replicate.1 hx).2]; omega
theorem Tryz.size70 : (Tryz.prog.info? 70).map (·.size) = some 1 := by kernel_rfl
theorem eU_one {l : List Nat} : ∀ v ∈ l.map eU, v.oneCell' = true := fun v hv => by obtain ⟨x, _, rfl⟩ := List.mem_map.1 hv; rfl
theorem Sl.src {w w1 : World} {ao : Option Addr} {n cap : Nat} {l : List Nat} (h : Sl w ao n cap l) (hb : Below w.heap.size w w1) (h0 : 0 < l.length) : ∃ ad, ao = some ad ∧ ∀ j v, (l.map eU)[j]? = some v → w1.cell? (ad.add j) = some v := by
  obtain ⟨b, off, e, hlt, hc⟩ := h.at_ (by have := h.len; omega)
  refine ⟨_, e, fun j v hj => ?_⟩
  have hjn : j < l.length := by
    rcases Nat.lt_or_ge j l.length with h | h
    · exact h
    · rw [List.getElem?_eq_none (by simpa using h)] at hj; cases hj
  rw [getElem?_map_eU l j hjn] at hj
  rw [Addr.add_lit, ← hj, hb.cell (p := ⟨b, off + j, none⟩) hlt]
  exact hc j (by have := h.len; omega)
theorem splice_zeros (l : List Nat) (K : Nat) : splice ((List.replicate K 0).map eU) 0 (l.map eU) = (l ++ List.replicate (K - l.length) 0).map eU := by
  simp [splice]
theorem AddR.full {s l : List Nat} {word n : Nat} {r : List Nat} {c : Nat} (h : AddR s l word n r c) (hs : s.length = n) (hl : l.length ≤ n) : vl 4294967296 r + 4294967296 ^ n * c = vl 4294967296 s + word * vl 4294967296 l := by
  have e := h.eq
  rw [List.take_of_length_le (by omega), List.take_of_length_le (by omega)] at e
  exact e
/-- a sum of two rows has no carry beyond one more word -/
theorem sum_done {l p : List Nat} {K : Nat} {r : List Nat} {c : Nat} (hl : l.length ≤ K) (hp : p.length ≤ K) (wl : Wd 4294967296 l) (wp : Wd 4294967296 p) (h : AddR (l ++ List.replicate (K + 1 - l.length) 0) p 1 (K + 1) r c) :
    vl 4294967296 r = vl 4294967296 l + vl 4294967296 p := by
  have e := h.full (by simp; omega) (by omega)
  rw [vl_append, vl_replicate, Nat.mul_zero, Nat.add_zero, Nat.pow_succ] at e
  have h1 := vl_lt 4294967296 l wl
  have h2 := vl_lt 4294967296 p wp
  have h3 : 4294967296 ^ l.length ≤ 4294967296 ^ K := Nat.pow_le_pow_right (by omega) hl
  have h4 : 4294967296 ^ p.length ≤ 4294967296 ^ K := Nat.pow_le_pow_right (by omega) hp
  have h5 := (no_carry (4294967296 ^ K) _ _ 1 _ c (by omega) (by omega) (by omega) e).2
  omega
set_option maxRecDepth 100000 in
set_option maxHeartbeats 2000000 in
theorem added_any (ao : Option Addr) (n cap : Nat) (l : List Nat) (ap : Option Addr) (m capb : Nat) (p : List Nat) (w : World) (hl : Sl w ao n cap l) (hp : Sl w ap m capb p) (hn : n ≤ 100000) (hm : m ≤ 100000) :
    Calls Tryz.prog 85 #[.slice ao n cap, .slice ap m capb] w fun e w' => ∃ ao' k cap' r, e = .returned (.slice ao' k cap') ∧ k ≤ 200000 ∧ Own w' w.heap.size ao' k cap' r ∧ vl 4294967296 r = vl 4294967296 l + vl 4294967296 p ∧ Below w.heap.size w w' := by
  have HL : Hid (Sl w ao n cap l) := hl
  have HP : Hid (Sl w ap m capb p) := hp
  clear hl hp
  obtain ⟨i0, hi, hz0, hz1, hz2⟩ := info_parts Tryz.info70
  obtain ⟨K, hKn, hKm, hK⟩ : ∃ K, n ≤ K ∧ m ≤ K ∧ (K ≤ n ∨ K ≤ m) := by
    rcases Nat.lt_or_ge n m with h | h
    · exact ⟨m, by omega, by omega, by omega⟩
    · exact ⟨n, by omega, by omega, by omega⟩
  have HLen : Hid ((l.map eU).length = Nat.min n (K + 1)) := by
    show (l.map eU).length = min n (K + 1)
    rw [List.length_map, HL.out.len]; omega
  have HFit : Hid (0 + (l.map eU).length ≤ ((List.replicate (K + 1) 0).map eU).length) := by
    show _ ≤ _
    rw [List.length_map, List.length_map, List.length_replicate, HL.out.len]; omega
  go_enter Tryz.func85, Tryz.ntmps85
  go_wp2_with (first | (at_make; refine wpList_make_full w rfl (.tmp 11) (.tmp 11) 22 rfl w.heap.size 70 i0 (.int .u32 0) 1 Tryz.underlying22 hi hz0 hz1 .i64 .i64 _ _ (K + 1) rfl rfl (by omega) (by omega) (by rw [hz2]; omega) (by unfold maxLen; omega) (Nat.le_refl _) ?_; intro w1 hown hgrow; have hb1 : Hid (Below w.heap.size w w1) := ((Below.refl _ w).grown hgrow (Nat.le_refl _) (by intro k hk; cases hk)); have HO : Hid (w1.heap[w.heap.size]? = some (.cells ((List.replicate (K + 1) 0).map eU).toArray 70 (0, 0))) := (by rw [made_zeros] at hown; exact (made_heap hown).1); clear hown hgrow) | (refine wpList_copy_splice rfl (.tmp 13) (.tmp 14) 22 22 rfl 70 Tryz.underlying22 Tryz.size70 _ _ _ _ _ _ rfl rfl w.heap.size 0 ((List.replicate (K + 1) 0).map eU) 70 HO.out (l.map eU) HLen.out (fun h0 => ⟨rfl, HL.out.src hb1.out (by simpa using h0)⟩) HFit.out eU_one w.heap.size w hb1.out (Nat.le_refl _) ?_; intro w2 HH hb2))
  all_goals
    have HH2 := HH.out
    rw [splice_zeros] at HH2
    obtain ⟨hho, hsz⟩ := holds_heap HH2
    clear HH2
    refine (addTimes_any w.heap.size 0 (K + 1) (K + 1) (l ++ List.replicate (K + 1 - l.length) 0) ap m capb p 1 w2 hho (by have := HL.out.len; simp; omega) (Wd.append.2 ⟨HL.out.wd, wd_replicate _⟩) (HP.out.below hb2 (Nat.le_refl _)) (HP.out.apart (Nat.le_refl _)) (by omega) (by omega)).mono ?_
    rintro e w3 ⟨r, c, rfl, rfl, hr⟩
    have HR : Hid (AddR (l ++ List.replicate (K + 1 - l.length) 0) p 1 (K + 1) r c) := hr
    have HB : Hid (Below w.heap.size w w2) := hb2
    have HHO : Hid (Holds eU w2 w.heap.size 0 (l ++ List.replicate (K + 1 - l.length) 0).toArray) := hho
    clear hr hho hb2 HH
    go_wp2
    go_ret
    exact ⟨_, K + 1, K + 1, r, rfl, by omega, Own.of_holds HR.out.len (Nat.le_refl _) (by omega) HR.out.wd (Nat.le_refl _) (by simpa using hsz) (holds_putRow eU w2 _ 0 _ r.toArray HHO.out (by have := HR.out.len; have := HL.out.len; simp; omega)), sum_done (by have := HL.out.len; omega) (by have := HP.out.len; omega) HL.out.wd HP.out.wd HR.out, below_putRow HB.out (Nat.le_refl _) 0 _⟩
end Go.Proofs.YtfkkhabpnnealaaGreatDoor

