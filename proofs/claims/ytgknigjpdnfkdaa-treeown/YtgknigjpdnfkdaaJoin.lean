/-
  Rows of nodes put behind one another, and cut short; the reference for At.
-/
import Derived.Test.YtgknigjpdnfkdaaRefB
import Derived.Test.YtgknigjpdnfkdaaAtP
namespace Go.Proofs.Ytgknigjpdnfkdaa
open Go.RowKit
theorem RowN.join {base : Nat} {K : BP} {W W1 : World} {v : Value} {l l2 : List Nd} {vs vs2 : List Value} (hl : vs.length = l.length)
    (hs : ∀ i (hi : i < l.length), SlV (fun b o ob => K b o ob ∧ v.ownBlock ≠ some b) W (vs[i]'(hl ▸ hi)) l[i].kids) (hl2 : vs2.length = l2.length)
    (hs2 : ∀ i (hi : i < l2.length), SlV (fun b o ob => K b o ob ∧ v.ownBlock ≠ some b) W (vs2[i]'(hl2 ▸ hi)) l2[i].kids) {g cap : Nat}
    (hg : W.grownBy W1 v.ownBlock) (hat : v.ownBlock = some g ∨ g = W.heap.size)
    (ho1 : W1.ownsRow base 24 5 (.slice (some ⟨g, 0, none⟩) (l.length + l2.length) cap) (l.length + l2.length) (flatV l vs ++ flatV l2 vs2)) :
    RowN base K W1 (.slice (some ⟨g, 0, none⟩) (l.length + l2.length) cap) (l ++ l2) := by
  have hk := grownBy_kx hg
  have conv : ∀ {z : Value} {ks : List Nd}, SlV (fun b o ob => K b o ob ∧ v.ownBlock ≠ some b) W z ks → SlV (fun b o ob => K b o ob ∧ (Value.slice (some ⟨g, 0, none⟩) (l.length + l2.length) cap).ownBlock ≠ some b) W1 z ks := fun hz =>
    hz.to' hk (fun b o ob h1 h2 => ⟨h2.1, fun e => by
      have e' : g = b := by simpa [Value.ownBlock] using e
      have hb := (Array.getElem?_eq_some_iff.1 h1).1
      rcases hat with h3 | h3
      · exact h2.2 (by rw [h3, e'])
      · omega⟩) (fun b o ob _ h2 e => h2.2 e)
  have hl1 : (vs ++ vs2).length = (l ++ l2).length := by simp [hl, hl2]
  refine ⟨vs ++ vs2, hl1, ?_, fun i hi => ?_⟩
  · rw [flatV_append l vs hl, List.length_append]
    exact ho1
  · rcases Nat.lt_or_ge i l.length with h1 | h1
    · have := conv (hs i h1)
      simpa [List.getElem_append, h1, hl ▸ h1] using this
    · have hi2 : i - l.length < l2.length := by simp at hi; omega
      have := conv (hs2 (i - l.length) hi2)
      simpa [List.getElem_append, show ¬ i < l.length by omega, show ¬ i < vs.length by omega, hl] using this
theorem flatV_len (l : List Nd) (vs : List Value) (h : vs.length = l.length) : (flatV l vs).length = l.length * 5 := by
  induction l generalizing vs with
  | nil => simp [flatV]
  | cons x l ih => cases vs with
    | nil => simp at h
    | cons v vs => simp [flatV, ih vs (by simpa using h)]; omega
theorem flatV_take (l : List Nd) (vs : List Value) (h : vs.length = l.length) (k : Nat) : (flatV l vs).take (k * 5) = flatV (l.take k) (vs.take k) := by
  induction l generalizing vs k with
  | nil => cases vs with
    | nil => simp [flatV]
    | cons _ _ => simp at h
  | cons x l ih => cases vs with
    | nil => simp at h
    | cons v vs => cases k with
      | zero => simp [flatV]
      | succ k =>
        rw [show (k + 1) * 5 = k * 5 + 5 by omega]
        simp [flatV, ih vs (by simpa using h) k]
/-- a row cut short -/
theorem RowN.cut {base : Nat} {K : BP} {W : World} {a : Option Addr} {c : Nat} {l : List Nd} (h : RowN base K W (.slice a l.length c) l) (k : Nat) (hk : k ≤ l.length) (ha : a ≠ none) : RowN base K W (.slice a k c) (l.take k) := by
  obtain ⟨vs, hl, ho, hs⟩ := h.ex
  have hkl : (l.take k).length = k := by simp; omega
  have hl1 : (vs.take k).length = (l.take k).length := by simp [hl]
  refine ⟨vs.take k, hl1, ?_, fun i hi => ?_⟩
  · rw [hkl]
    refine ⟨by rw [flatV_len _ _ hl1, hkl], ?_⟩
    rcases ho.2 with ⟨h0, _⟩ | ⟨g, cap, cur, h0, h1, h2, h3, h4, h5, h6⟩
    · simp at h0; exact (ha h0.1).elim
    · simp only [Value.slice.injEq] at h0
      obtain ⟨rfl, -, rfl⟩ := h0
      refine .inr ⟨g, c, cur, rfl, h1, h2, by omega, h4, h5, ?_⟩
      rw [← flatV_take l vs hl, ← h6, List.take_take, Nat.min_eq_left (by omega)]
  · have hi' : i < l.length := by omega
    have := hs i hi'
    cases a with
    | none => exact (ha rfl).elim
    | some ad => simpa [Value.ownBlock, List.getElem_take] using this
theorem flatV_one (l : List Nd) (vs : List Value) (h : vs.length = l.length) (h1 : ∀ i (hi : i < vs.length), (vs[i]).oneCell' = true) : ∀ u ∈ flatV l vs, u.oneCell' = true := by
  induction l generalizing vs with
  | nil => intro u hu; cases vs <;> simp [flatV] at hu
  | cons x l ih => cases vs with
    | nil => simp at h
    | cons v vs =>
      intro u hu
      simp only [flatV, List.mem_cons] at hu
      rcases hu with rfl | rfl | rfl | rfl | rfl | hu
      · rfl
      · rfl
      · rfl
      · rfl
      · exact h1 0 (by simp)
      · exact ih vs (by simpa using h) (fun i hi => h1 (i + 1) (by simpa using hi)) u hu
/-- one node by itself -/
theorem RowN.lone {base : Nat} {K : BP} (W : World) (n : Nd) (v : Value) (hb : base ≤ W.heap.size) (hv : SlV K W v n.kids) :
    RowN base K (W.alloc (.cells (encN n v) 24)) (.slice (some ⟨W.heap.size, 0, none⟩) 1 1) [n] := by
  have ho := World.ownsRow_lit (base := base) (e := 24) (size := 5) W (encN n v) 1 hb (by unfold maxLen; omega) (by simp [encN])
  refine ⟨[v], rfl, by simpa [flatV, encN] using ho, fun i hi => ?_⟩
  have : i = 0 := by simp at hi; omega
  subst this
  have h3 : SlV (fun b o ob => K b o ob ∧ (Value.slice (some ⟨W.heap.size, 0, none⟩) 1 1).ownBlock ≠ some b) (W.alloc (.cells (encN n v) 24)) v n.kids :=
    hv.to' (X := fun _ => False) (Kx.of_whole (below_alloc _ _)) (fun b o ob h1 h2 => ⟨h2, fun e => by
      have e' : W.heap.size = b := by simpa [Value.ownBlock] using e
      have := (Array.getElem?_eq_some_iff.1 h1).1
      omega⟩) (fun _ _ _ _ _ h => h)
  simpa using h3
theorem atR_len (f t : Int) (n : Nd) : (n.atR f t).length ≤ n.dep := by
  induction n using Nd.ind3 with
  | h n ih =>
    rw [Nd.atR_eq, Nd.dep_eq]
    have : ∀ l : List Nd, (∀ x ∈ l, (x.atR f t).length ≤ x.dep) → (atRL f t l).length ≤ depL l := by
      intro l
      induction l with
      | nil => intro _; simp [atRL_nil]
      | cons x r ihl =>
        intro h
        have h1 := h x (by simp)
        have h2 := ihl (fun y hy => h y (by simp [hy]))
        rw [atRL_cons, depL_cons]
        split <;> omega
    have := this n.kids ih
    split
    · split <;> simp
    · simp; omega
theorem atRL_append (f t : Int) (a b : List Nd) (h : atRL f t a = []) : atRL f t (a ++ b) = atRL f t b := by
  induction a with
  | nil => rfl
  | cons x r ih =>
    rw [List.cons_append, atRL_cons]
    rw [atRL_cons] at h
    by_cases hx : x.atR f t = []
    · rw [if_pos hx] at h ⊢
      exact ih h
    · rw [if_neg hx] at h
      exact (hx h).elim
set_option maxRecDepth 100000 in
set_option maxHeartbeats 2000000 in
theorem rat_any (f t : Int) (n0 : Nat) (n : Nd) : ∀ (w : World) (va : Value), n.dep ≤ 1000000 → n0 ≤ w.heap.size → SlV (Bl n0) w va n.kids →
    Calls Try.prog 21 #[aggN n va, .int .i64 f, .int .i64 t] w fun e w' => ∃ a c, e = .returned (.slice a (n.atR f t).length c) ∧ RowN n0 (Bl n0) w' (.slice a (n.atR f t).length c) (n.atR f t) ∧ Below w.heap.size w w' := by
  induction n using Nd.ind3
  rename_i n ih
  intro w va hd hn0 ha
  obtain ⟨a1, c1, rfl, hl1, -⟩ := ha.open
  have IH : Hid _ := ⟨ih⟩
  clear ih
  have H1 : Hid (SlV (Bl n0) w (.slice a1 n.kids.length c1) n.kids) := ⟨ha⟩
  have HE : Hid (n.atR f t = if atRL f t n.kids = [] then (if mt f t n then [n] else []) else n :: atRL f t n.kids) := ⟨Nd.atR_eq f t n⟩
  have HDP : Hid (n.dep = depL n.kids + 1) := ⟨n.dep_eq⟩
  have HAL : Hid ((n.atR f t).length ≤ n.dep) := ⟨atR_len f t n⟩
  obtain ⟨i24, i1, i2, i3, i4⟩ := info24_ex
  have HI : Hid (Try.prog.info? 24 = some i24 ∧ i24.zero = some (.agg #[.int .i64 0, .int .i64 0, .int .i64 0, .string ⟨#[]⟩, .slice none 0 0]) ∧ i24.size = 5 ∧ i24.bytes = 64) := ⟨i1, i2, i3, i4⟩
  clear ha i1 i2 i3 i4
  obtain ⟨R, hR⟩ : ∃ y, n.atR f t = y := ⟨_, rfl⟩
  rw [hR] at HE HAL ⊢
  clear hR
  have hb0 : Below w.heap.size w (w.alloc (.cells #[.int .i64 n.kind, .int .i64 n.fr, .int .i64 n.to, .string n.text, .slice a1 n.kids.length c1] 24)) := below_alloc _ _
  have k1 : (w.alloc (.cells #[.int .i64 n.kind, .int .i64 n.fr, .int .i64 n.to, .string n.text, .slice a1 n.kids.length c1] 24)).heap[w.heap.size]? = some (.cells #[.int .i64 n.kind, .int .i64 n.fr, .int .i64 n.to, .string n.text, .slice a1 n.kids.length c1] 24) := heap_alloc_new _ _
  have hz0 : (w.alloc (.cells #[.int .i64 n.kind, .int .i64 n.fr, .int .i64 n.to, .string n.text, .slice a1 n.kids.length c1] 24)).heap.size = w.heap.size + 1 := by simp
  simp only [aggN, encN]
  go_enter Try.func21, Try.ntmps21
  go_wp2
  have HB0 : Hid (Below w.heap.size w (w.alloc (.cells #[.int .i64 n.kind, .int .i64 n.fr, .int .i64 n.to, .string n.text, .slice a1 n.kids.length c1] 24))) := ⟨hb0⟩
  have HK1 : Hid ((w.alloc (.cells #[.int .i64 n.kind, .int .i64 n.fr, .int .i64 n.to, .string n.text, .slice a1 n.kids.length c1] 24)).heap[w.heap.size]? = some (.cells #[.int .i64 n.kind, .int .i64 n.fr, .int .i64 n.to, .string n.text, .slice a1 n.kids.length c1] 24)) := ⟨k1⟩
  generalize (w.alloc (.cells #[.int .i64 n.kind, .int .i64 n.fr, .int .i64 n.to, .string n.text, .slice a1 n.kids.length c1] 24)) = W0 at *
  clear hb0 k1
  go_loopw [7] (fun i wr => ∃ j : Nat, i = .int .i64 j ∧ j ≤ n.kids.length ∧ Hid (atRL f t (n.kids.take j) = []) ∧ Hid (Below W0.heap.size W0 wr)) (fun i _ => n.kids.length - (intOf i).toNat)
  case atStart => exact ⟨0, rfl, by omega, ⟨by simp [atRL_nil]⟩, ⟨Below.refl _ _⟩⟩
  case round =>
    obtain ⟨j, rfl, hj, HN, HBw⟩ := hrel
    have hbox := (HBw.out.block _ (by omega)).trans HK1.out
    have x0 := cell_of hbox 0
    have x1 := cell_of hbox 1
    have x2 := cell_of hbox 2
    have x3 := cell_of hbox 3
    have x4 := cell_of hbox 4
    simp only [List.getElem?_toArray, List.getElem?_cons_zero, List.getElem?_cons_succ] at x0 x1 x2 x3 x4
    have hwr := HBw.out.size
    have HSn : Hid (SlV (Bl n0) wr (.slice a1 n.kids.length c1) n.kids) := ⟨H1.out.kept (bthen HB0.out HBw.out)⟩
    by_cases hlt : j < n.kids.length
    · have hlt' : (j : Int) < (n.kids.length : Int) := by omega
      obtain ⟨_, _, e1, _, g1⟩ := HSn.out.open
      cases e1
      obtain ⟨b1, o1, rfl, _, l1⟩ := g1 j hlt
      obtain ⟨x, hx⟩ : ∃ x, n.kids[j] = x := ⟨_, rfl⟩
      have mx : x ∈ n.kids := hx ▸ List.getElem_mem _
      have HT : Hid (n.kids = n.kids.take j ++ x :: n.kids.drop (j + 1)) := ⟨by rw [← hx, ← List.drop_eq_getElem_cons hlt, List.take_append_drop]⟩
      have hdx : x.dep ≤ 1000000 := by
        have h2 := depL_append (n.kids.take j) (n.kids.drop j)
        rw [List.take_append_drop, List.drop_eq_getElem_cons hlt, hx, depL_cons] at h2
        have := HDP.out
        omega
      have HA1 : Hid (atRL f t n.kids = if x.atR f t = [] then atRL f t (n.kids.drop (j + 1)) else x.atR f t) := ⟨by
        rw [HT.out, atRL_append _ _ _ _ HN.out, atRL_cons]
        congr 2
        simp [List.drop_append, show min j n.kids.length = j by omega]⟩
      have HTK : Hid (n.kids.take (j + 1) = n.kids.take j ++ [x]) := ⟨by rw [List.take_succ_eq_append_getElem hlt, hx]⟩
      rw [hx] at l1
      obtain ⟨p0, p1, p2, p3, vx, p4, sx⟩ := lies_iff.1 l1
      have hbl : b1 < wr.heap.size := World.block_lt_of_cell? _ _ p0
      have IC := IH.out x mx wr vx hdx (by omega) sx
      obtain ⟨ax, cx, rfl⟩ := sx.slice
      simp only [aggN, encN] at IC
      have hxl : (x.atR f t).length ≤ 1000000 := Nat.le_trans (atR_len f t x) hdx
      have HNX : Hid (∀ (b : List Nd), x.atR f t = [] → atRL f t ([x]) = []) := ⟨fun _ h => by rw [atRL_cons, if_pos h, atRL_nil]⟩
      obtain ⟨Rx, hRx⟩ : ∃ y, x.atR f t = y := ⟨_, rfl⟩
      rw [hRx] at IC HA1 hxl HNX
      clear g1 l1 sx hRx
      by_cases he : Rx = []
      · subst he
        have h0 : ¬ (0 : Int) < (([] : List Nd).length : Int) := by simp
        go_wp2_with (go_at_call 21; refine IC.mono ?_; clear IC; rintro e w1 ⟨a2, c2, rfl, hr1, hB1⟩)
        go_roundw
        case rel => exact ⟨j + 1, by go_num, by omega, ⟨by rw [HTK.out, atRL_append _ _ _ _ HN.out]; exact HNX.out [] trivial⟩, ⟨bthen HBw.out hB1⟩⟩
        case measure => simp [intOf]; omega
      · have h0 : 0 < Rx.length := List.length_pos_iff.2 he
        have h0' : (0 : Int) < (Rx.length : Int) := by omega
        have HRR : Hid (R = n :: Rx) := ⟨by
          have e1 := HE.out
          rw [HA1.out, if_neg he, if_neg he] at e1
          exact e1⟩
        clear he
        go_wp2_with (first
          | (go_at_call 21; refine IC.mono ?_; clear IC; rintro e w1 ⟨a2, c2, rfl, hr1, hB1⟩; have hbox1 := (hB1.block _ (by omega)).trans hbox; have y0 := cell_of hbox1 0; have y1 := cell_of hbox1 1; have y2 := cell_of hbox1 2; have y3 := cell_of hbox1 3; have y4 := cell_of hbox1 4; simp only [List.getElem?_toArray, List.getElem?_cons_zero, List.getElem?_cons_succ] at y0 y1 y2 y3 y4; obtain ⟨vs2, hl2, hown2, hks2⟩ := hr1.ex; have hz1 := hB1.size; have HR1 : Hid (RowN _ _ _ _ _) := ⟨hr1⟩; obtain ⟨ga, gc, e9, _, hgl⟩ := hown2.form h0; cases e9; have HOW2 : Hid (w1.ownsRow _ _ _ _ _ _) := ⟨hown2⟩; have HKS2 : Hid _ := ⟨hks2⟩; have hll : (flatV Rx vs2).length = Rx.length * 5 := flatV_len Rx vs2 hl2; have HON : Hid (∀ u ∈ flatV Rx vs2, u.oneCell' = true) := ⟨flatV_one Rx vs2 hl2 (fun i hi => (hks2 i (hl2 ▸ hi)).one)⟩; clear hown2 hks2 hr1)
          | (at_builtin; refine wpList_append_lies _ rfl _ _ _ rfl n0 24 i24 _ 5 64 Try.underlying22 HI.out.1 HI.out.2.1 HI.out.2.2.1 HI.out.2.2.2 rfl (by omega) (.slice (some ⟨w1.heap.size, 0, none⟩) 1 1) 1 _ rfl (World.ownsRow_lit (base := n0) (e := 24) (size := 5) w1 (encN n (.slice (some ⟨b1, o1, none⟩) n.kids.length c1)) 1 (by omega) (by unfold maxLen; omega) (by simp [encN])) ⟨ga, 0, none⟩ Rx.length _ (flatV Rx vs2) rfl hll ((own_kept HOW2.out (below_alloc _ _)).cells rfl) HON.out h0 (by unfold maxLen; omega) (by omega) (by simp; omega) (w1.heap.size + 1) (by simp) ?_; intro gg cap w2 hown3 hgrow hat hlt1))
        go_ret
        have hB2 : Below w.heap.size w w2 := by
          have h2 : Kx (fun b => w1.heap.size ≤ b) (w1.alloc (.cells #[.int .i64 n.kind, .int .i64 n.fr, .int .i64 n.to, .string n.text, .slice (some ⟨b1, o1, none⟩) n.kids.length c1] 24)) w2 := (grownBy_kx hgrow).mono (fun b _ e => by have : w1.heap.size = b := (by simpa [Value.ownBlock] using e); omega)
          exact (bthen HB0.out (bthen HBw.out (bthen hB1 (below_alloc _ _)))).trans (h2.below (by simp; omega) (fun b h h' => by omega))
        have hlow : ∀ b o ob, Bl n0 b o ob → (Value.slice (some ⟨w1.heap.size, 0, none⟩) 1 1).ownBlock ≠ some b := fun b o ob h e => by
          have e' : w1.heap.size = b := by simpa [Value.ownBlock] using e
          have : b < n0 := h
          omega
        have hrow : RowN n0 (Bl n0) w2 (.slice (some ⟨gg, 0, none⟩) ([n].length + Rx.length) cap) ([n] ++ Rx) := by
          refine RowN.join (vs := [.slice (some ⟨b1, o1, none⟩) n.kids.length c1]) (vs2 := vs2) rfl (W := w1.alloc (.cells #[.int .i64 n.kind, .int .i64 n.fr, .int .i64 n.to, .string n.text, .slice (some ⟨b1, o1, none⟩) n.kids.length c1] 24)) (fun i hi => ?_) hl2 (fun i hi => ?_) hgrow (hat.imp id (fun e => by simp [e])) ?_
          · have : i = 0 := by simp at hi; omega
            subst this
            exact (HSn.out.kept (bthen hB1 (below_alloc _ _))).with (fun b o ob _ h => ⟨h, hlow b o ob h⟩)
          · exact ((HKS2.out i hi).kept (below_alloc _ _)).with (fun b o ob _ h => ⟨h.1, hlow b o ob h.1⟩)
          · simpa [flatV, encN] using hown3
        refine ⟨some ⟨gg, 0, none⟩, cap, ?_, ?_, hB2⟩
        · rw [HRR.out]; simp [Nat.add_comm]
        · rw [HRR.out]
          simpa [Nat.add_comm] using hrow
    · have hlt' : ¬ (j : Int) < (n.kids.length : Int) := by omega
      have HAN : Hid (atRL f t n.kids = []) := ⟨by have := HN.out; rwa [List.take_of_length_le (by omega)] at this⟩
      have HRR : Hid (R = if mt f t n then [n] else []) := ⟨by have e1 := HE.out; rw [HAN.out, if_pos rfl] at e1; exact e1⟩
      have HL := fun (W : World) (hW : n0 ≤ W.heap.size) (hS : SlV (Bl n0) W (.slice a1 n.kids.length c1) n.kids) => RowN.lone (base := n0) W n (.slice a1 n.kids.length c1) hW hS
      have HL' : Hid _ := ⟨HL⟩
      clear HL
      by_cases h1 : n.fr = f
      · have h1' : (n.fr == f) = true := by simp [h1]
        by_cases h2 : n.to = t
        · have h2' : (n.to == t) = true := by simp [h2]
          have hm : R = [n] := by rw [HRR.out, if_pos (by simp [mt, h1, h2])]
          subst hm
          clear h1 h2
          go_wp2
          go_ret
          exact ⟨_, _, rfl, HL'.out wr (by omega) HSn.out, bthen HB0.out (bthen HBw.out (below_alloc _ _))⟩
        · have h2' : (n.to == t) = false := by simp [h2]
          have hm : R = [] := by rw [HRR.out, if_neg (by simp [mt, h2])]
          subst hm
          clear h1 h2
          go_wp2
          go_ret
          exact ⟨_, _, rfl, RowN.nil _ _ _, bthen HB0.out HBw.out⟩
      · have h1' : (n.fr == f) = false := by simp [h1]
        have hm : R = [] := by rw [HRR.out, if_neg (by simp [mt, h1])]
        subst hm
        clear h1
        go_wp2
        go_ret
        exact ⟨_, _, rfl, RowN.nil _ _ _, bthen HB0.out HBw.out⟩
end Go.Proofs.Ytgknigjpdnfkdaa
