/-
  text of the document's scanner, walked: a string.
-/
import Derived.Test.YtmfdfkbcommjfaaDoorRefD
import Derived.Test.YtmfdfkbcommjfaaDoorWalkK
namespace Go.Proofs.YtmfdfkbcommjfaaDoor
open Go.RowKit
attribute [local go_sem ↓] Go.wp_at_zero Go.wp_at_succ
/-- the cells of bytes -/
def bC (l : List UInt8) : List Value := l.map fun b => .int .u8 (b.toNat : Int)
theorem bC_snoc (l : List UInt8) (b : UInt8) : bC (l ++ [b]) = bC l ++ [.int .u8 (b.toNat : Int)] := by simp [bC]
theorem info5_ex : ∃ i0, Tryd.prog.info? 5 = some i0 ∧ i0.zero = some (.int .u8 0) ∧ i0.size = 1 ∧ i0.bytes = 1 := ⟨_, rfl, rfl, rfl, rfl⟩
/-- a scanner, when a row of bytes grows -/
theorem Sc.grown5 {w W w1 : World} {base b5 R n : Nat} {S : ByteArray} {i : Nat} {s : St} {c a : Nat} {bv : Value} {xs : List Value} (h : Sc w base R S i s c a) (ho : w.ownsRow b5 5 1 bv n xs) (hb : Below w.heap.size w W) (hg : W.grownBy w1 bv.ownBlock) : Sc w1 base R S i s c a := by
  obtain ⟨hle, tv, rv, hR, ht, hr⟩ := h
  refine ⟨hle, tv, rv, grown_old ho hb hg hR (fun c fz h => by injection h with _ h2 _; exact absurd h2 (by decide)), own_far ht (fun k hk => ?_), own_far hr (fun k hk => ?_)⟩
  · obtain ⟨_, c, hc⟩ := own_blk ht hk
    rw [grown_old ho hb hg hc (fun c fz h => by injection h with _ h2 _; exact absurd h2 (by decide)), hc]
  · obtain ⟨_, c, hc⟩ := own_blk hr hk
    rw [grown_old ho hb hg hc (fun c fz h => by injection h with _ h2 _; exact absurd h2 (by decide)), hc]
theorem own_some {w : World} {base n : Nat} {v : Value} {l : List UInt8} (h : w.ownsRow base 5 1 v n (bC l)) : (v = .slice none 0 0 ∧ l = []) ∨ ∃ g cap, v = .slice (some ⟨g, 0, none⟩) n cap ∧ ∀ j b, l[j]? = some b → w.cell? ⟨g, j, none⟩ = some (.int .u8 (b.toNat : Int)) := by
  rcases h.2 with ⟨h1, h2⟩ | ⟨g, cap, cur, rfl, h1, h2, h3, h4, _⟩
  · refine .inl ⟨h1, ?_⟩
    have := h.1
    rw [h2] at this
    simp [bC] at this
    exact this
  · refine .inr ⟨g, cap, rfl, fun j b hb => ?_⟩
    have hj : j < l.length := (List.getElem?_eq_some_iff.1 hb).1
    have hn : n = l.length := by have := h.1; simp [bC] at this; omega
    rw [World.ownsRow.cellAt h j (by omega)]
    simp [bC, hb]
theorem own_string {w : World} {base n : Nat} {v : Value} {l : List UInt8} (h : w.ownsRow base 5 1 v n (bC l)) : (convert 34 9 v).run Tryd.prog w = .ok (.string (bsL l)) w := by
  have hn : n = l.length := by have := h.1; simp [bC] at this; omega
  rcases own_some h with ⟨rfl, rfl⟩ | ⟨g, cap, rfl, hc⟩
  · rfl
  · subst hn
    exact run_convert_bytes_back (P := Tryd.prog) w 34 9 5 ⟨g, 0, none⟩ cap l Tryd.underlying34 Tryd.underlying5 Tryd.underlying9 (fun j hj => by
      rw [Addr.add_lit, Nat.zero_add]
      exact hc j _ (List.getElem?_eq_getElem hj))
/-- the piece that a string is -/
def strPc : Except Nat (Nat × List UInt8) → Pc
  | .error o => .bad o
  | .ok (n, x) => .tok 3 n x
/-- the loop of text: at place j, acc said so far -/
structure TxR (w : World) (base R : Nat) (S : ByteArray) (s : St) (p : Nat) (V : Except Nat (Nat × List UInt8)) (u : Value) (wr : World) : Prop where
  ex : ∃ (j : Nat) (acc : List UInt8), p + 1 ≤ j ∧ j ≤ S.size ∧ Sc wr base R S j s 0 0 ∧ Below base w wr ∧ wr.ownsRow w.heap.size 5 1 u acc.length (bC acc) ∧ strL (S.data.toList.drop j) false (j - p) acc = V ∧ acc.length ≤ j
set_option maxRecDepth 100000 in
set_option maxHeartbeats 4000000 in
theorem rtext_any (w : World) (base R : Nat) (S : ByteArray) (s : St) (p : Nat) (h : Sc w base R S p s 0 0) (hp : p < S.size) (hS : S.size ≤ 65536) (hl : s.toks.length ≤ 1000000) (pc : Pc)
    (hpc : pc = strPc (strL (S.data.toList.drop (p + 1)) false 1 [])) :
    Calls Tryd.prog 41 #[.pointer (some ⟨R, 0, none⟩)] w (RP w base R S s p pc) := by
  have c1 := h.cell1
  have f1 := h.frz 1
  have HH : Hid (Sc w base R S p s 0 0) := h
  have z0 : IntKind.i64.wrap ((p : Int) + 1) = (p : Int) + 1 := wrap_small _ (by omega) (by omega)
  obtain ⟨V, hV⟩ : ∃ V, strL (S.data.toList.drop (p + 1)) false 1 [] = V := ⟨_, rfl⟩
  rw [hV] at hpc
  have HV : Hid (strL (S.data.toList.drop (p + 1)) false (p + 1 - p) [] = V) := by show _ = _; rw [show p + 1 - p = 1 by omega]; exact hV
  have HPC : Hid (pc = strPc V) := hpc
  obtain ⟨i5, i1, i2, i3, i4⟩ := info5_ex
  have HI : Hid (Tryd.prog.info? 5 = some i5 ∧ i5.zero = some (.int .u8 0) ∧ i5.size = 1 ∧ i5.bytes = 1) := ⟨i1, i2, i3, i4⟩
  have hle := h.le
  have hlt := h.lt
  clear h hV hpc i1 i2 i3 i4
  go_enter Tryd.func41, Tryd.ntmps41
  go_wp2_with fail
  go_loopw [3] (fun u wr => TxR w base R S s p V u wr) (fun _ wr => S.size - cellI wr R)
  case atStart =>
    have h2 := HH.out.put1 (p + 1)
    have e : ((p + 1 : Nat) : Int) = (p : Int) + 1 := by omega
    rw [e] at h2
    exact ⟨p + 1, [], Nat.le_refl _, hp, h2, HH.out.bl1 1 _, World.ownsRow_nil _ _ 5 1, HV.out, Nat.zero_le _⟩
  case round =>
    obtain ⟨j, acc, hpj, hj, hsc, hbl, hown, hV, hacc⟩ := hrel.ex
    clear hrel c1 f1 HV
    have c0 := hsc.cell0
    have c1 := hsc.cell1
    have f1 := hsc.frz 1
    have HSC : Hid (Sc wr base R S j s 0 0) := hsc
    have HBL : Hid (Below base w wr) := hbl
    have HOW : Hid (wr.ownsRow w.heap.size 5 1 _ acc.length (bC acc)) := hown
    have hsz : w.heap.size ≤ wr.heap.size := hbl.size
    clear hsc hbl hown
    have z2 : (0 : Int) ≤ (j : Int) := by omega
    by_cases hjl : j < S.size
    · have z1 : decide ((S.size : Int) ≤ (j : Int)) = false := decide_eq_false (by omega)
      have z3 : IntKind.i64.wrap ((j : Int) + 1) = (j : Int) + 1 := wrap_small _ (by omega) (by omega)
      have z1' : (j : Int) < (S.size : Int) := by omega
      by_cases q1 : S[j]'hjl = 10
      · have k1 : (((S[j]'hjl).toNat : Int) == 10) = true := by rw [q1]; rfl
        have HE : Hid (V = .error 0) := hV.symm.trans (str_nl hjl q1 _ _)
        clear hV q1
        go_wp2_with fail
        go_quiet (fail)
        have g51 := rwrong_any (wr.drewN nq) base R S j s 0 0 (HSC.out.drewN nq) p
        go_wp2_with (go_at_call 51; refine g51.mono ?_; intro e w3 h3; obtain rfl := h3.ret; have H3 : Hid _ := h3; clear h3)
        refine bodyPost_end (results_none rfl _ _ _) rfl ?_
        rw [HPC.out, HE.out]
        exact ⟨j, s, H3.out.after (HBL.out.trans (bl_drewN _ _ _))⟩
      have k1 : (((S[j]'hjl).toNat : Int) == 10) = false := nat_bne (b := 10) (fun h => q1 (UInt8.toNat_inj.1 h))
      go_wp2_with fail
      go_quiet (fail)
      have HS1 : Hid (Sc (wr.drewN nq) base R S j s 0 0) := HSC.out.drewN nq
      have HB1 : Hid (Below base w (wr.drewN nq)) := HBL.out.trans (bl_drewN _ _ _)
      have HO1 : Hid ((wr.drewN nq).ownsRow w.heap.size 5 1 _ acc.length (bC acc)) := HOW.out.below (bl_drewN _ _ _)
      have HCI : Hid (cellI wr R = j) := HSC.out.cellI
      have hsz : w.heap.size ≤ (wr.drewN nq).heap.size := hsz
      clear c0 c1 f1 HSC HBL HOW
      generalize wr.drewN nq = W1 at *
      have c0 := HS1.out.cell0
      have c1 := HS1.out.cell1
      have f1 := HS1.out.frz 1
      go_wp2_with fail
      go_quiet (fail)
      have HS2 : Hid (Sc (W1.drewN nq) base R S j s 0 0) := HS1.out.drewN nq
      have HB2 : Hid (Below base w (W1.drewN nq)) := HB1.out.trans (bl_drewN _ _ _)
      have HO2 : Hid ((W1.drewN nq).ownsRow w.heap.size 5 1 _ acc.length (bC acc)) := HO1.out.below (bl_drewN _ _ _)
      have hsz : w.heap.size ≤ (W1.drewN nq).heap.size := hsz
      clear c0 c1 f1 HS1 HB1 HO1
      generalize W1.drewN nq = W2 at *
      have c0 := HS2.out.cell0
      have c1 := HS2.out.cell1
      have f1 := HS2.out.frz 1
      have ez : ((j + 1 : Nat) : Int) = (j : Int) + 1 := by omega
      by_cases q2 : S[j]'hjl = 34
      · have k2 : (((S[j]'hjl).toNat : Int) == 34) = true := by rw [q2]; rfl
        have HE : Hid (V = .ok (j - p + 1, acc)) := hV.symm.trans (str_q hjl q2 _ _)
        clear hV q1 q2
        have hput := HS2.out.put1 (j + 1)
        rw [ez] at hput
        have HPUT : Hid _ := hput
        have hcv : (convert 34 9 u3).run Tryd.prog (W2.setCell ⟨R, 1, none⟩ (.int .i64 ((j : Int) + 1))) = .ok (.string (bsL acc)) (W2.setCell ⟨R, 1, none⟩ (.int .i64 ((j : Int) + 1))) := own_string (by obtain ⟨_, tv, rv, hR, _⟩ := HS2.out; exact own_setR HO2.out hR (by decide))
        have g43 := radd_any (W2.setCell ⟨R, 1, none⟩ (.int .i64 ((j : Int) + 1))) base R S (j + 1) s 0 0 hput 3 p (bsL acc) hl
        have e0 : (bsL acc).data.toList = acc := by simp [bsL]
        rw [e0] at g43
        clear hput e0 ez
        go_wp2_with (go_at_call 43; refine (g43).mono ?_; intro e w3 h3; obtain rfl := h3.ret; have H3 : Hid _ := h3; clear h3)
        refine bodyPost_end (results_none rfl _ _ _) rfl ?_
        rw [HPC.out, HE.out]
        have q := H3.out.after (HB2.out.trans (HS2.out.bl1 1 _))
        show ScP w base R S (p + (j - p + 1)) ⟨s.toks ++ [⟨3, p, p + (j - p + 1), acc⟩], s.rems⟩ 0 0 _ _
        rw [show p + (j - p + 1) = j + 1 by omega]
        exact q
      have k2 : (((S[j]'hjl).toNat : Int) == 34) = false := nat_bne (b := 34) (fun h => q2 (UInt8.toNat_inj.1 h))
      by_cases q3 : S[j]'hjl = 92
      · have k3 : (((S[j]'hjl).toNat : Int) == 92) = true := by rw [q3]; rfl
        have hV2 := hV.symm.trans (str_bs hjl q3 _ _)
        rw [head_drop] at hV2
        clear hV q1 q2 q3
        by_cases hj2 : j + 1 < S.size
        · rw [dif_pos hj2] at hV2
          have y1 : (j : Int) + 1 < (S.size : Int) := by omega
          have y2 : (0 : Int) ≤ (j : Int) + 1 := by omega
          have y3 : ((j : Int) + 1).toNat = j + 1 := by omega
          have y4 : IntKind.i64.wrap ((j : Int) + 2) = (j : Int) + 2 := wrap_small _ (by omega) (by omega)
          go_wp2_with fail
          go_quiet (fail)
          have HS4 : Hid (Sc (W2.drewN nq) base R S j s 0 0) := HS2.out.drewN nq
          have HB4 : Hid (Below base w (W2.drewN nq)) := HB2.out.trans (bl_drewN _ _ _)
          have HO4 : Hid ((W2.drewN nq).ownsRow w.heap.size 5 1 _ acc.length (bC acc)) := HO2.out.below (bl_drewN _ _ _)
          have hsz : w.heap.size ≤ (W2.drewN nq).heap.size := hsz
          clear c0 c1 f1 HS2 HB2 HO2
          generalize W2.drewN nq = W4 at *
          have c0 := HS4.out.cell0
          have c1 := HS4.out.cell1
          have f1 := HS4.out.frz 1
          go_wp2_with fail
          go_quiet (fail)
          have HS5 : Hid (Sc (W4.drewN nq) base R S j s 0 0) := HS4.out.drewN nq
          have HB5 : Hid (Below base w (W4.drewN nq)) := HB4.out.trans (bl_drewN _ _ _)
          have HO5 : Hid ((W4.drewN nq).ownsRow w.heap.size 5 1 _ acc.length (bC acc)) := HO4.out.below (bl_drewN _ _ _)
          have hsz : w.heap.size ≤ (W4.drewN nq).heap.size := hsz
          clear c0 c1 f1 HS4 HB4 HO4
          generalize W4.drewN nq = W5 at *
          have c0 := HS5.out.cell0
          have c1 := HS5.out.cell1
          have f1 := HS5.out.frz 1
          by_cases q92 : S[j + 1]'hj2 = 92
          · have k4 : (((S[j + 1]'hj2).toNat : Int) == 92) = true := by rw [q92]; rfl
            have HE : Hid (strL (S.data.toList.drop (j + 2)) false (j + 2 - p) (acc ++ [S[j + 1]'hj2]) = V) := by
              show _ = _
              rw [hV2, q92]
              show _ = strL (S.data.toList.drop (j + 1)) true (j - p + 1) (acc ++ [92])
              rw [str_esc hj2, show j - p + 1 + 1 = j + 2 - p by omega]
            clear hV2 q92
            go_wp2_with (at_builtin; refine wpList_append_lies _ (by rfl) _ _ _ (by rfl) w.heap.size 5 i5 _ 1 1 Tryd.underlying34 HI.out.1 HI.out.2.1 HI.out.2.2.1 HI.out.2.2.2 rfl (by omega) u3 acc.length (bC acc) (by rfl) (HO5.out.alloc _) ⟨W5.heap.size, 0, none⟩ 1 1 [.int .u8 ((S[j + 1]'hj2).toNat : Int)] (by rfl) (by rfl) (World.news_of_block (heap_alloc_new W5 _)) (by simp [Value.oneCell']) (by omega) (by unfold maxLen; omega) (by omega) (by simp; omega) (W5.heap.size + 1) (by simp) ?_; intro gg cap w2 hown1 hgrow hat hlt1; have HW3 : Hid _ := hown1; have HS3 : Hid (Sc w2 base R S j s 0 0) := HS5.out.grown5 HO5.out ((Below.refl _ _).alloc (Nat.le_refl _) _) hgrow; have HB3 : Hid (Below base w w2) := ((HB5.out.alloc (by omega) _).grown hgrow (by simp; omega) (fun k hk => by have := (own_blk HO5.out hk).1; omega)); have d1 := HS3.out.cell1; have d2 := HS3.out.frz 1; clear hown1 hgrow hat hlt1)
            go_roundw
            case rel =>
              have hput := HS3.out.put1 (j + 2)
              rw [show ((j + 2 : Nat) : Int) = (j : Int) + 2 by omega] at hput
              refine ⟨j + 2, acc ++ [S[j + 1]'hj2], by omega, by omega, hput, HB3.out.setCell hle _, ?_, HE.out, by rw [List.length_append]; simp; omega⟩
              obtain ⟨_, tv, rv, hR, _⟩ := HS3.out
              have q := own_setR (j := 1) (u := .int .i64 ((j : Int) + 2)) HW3.out hR (by decide)
              rw [bC_snoc, List.length_append]
              exact q
            case measure =>
              have hput := HS3.out.put1 (j + 2)
              rw [show ((j + 2 : Nat) : Int) = (j : Int) + 2 by omega] at hput
              rw [hput.cellI, HCI.out]
              omega
          have k4 : (((S[j + 1]'hj2).toNat : Int) == 92) = false := nat_bne (b := 92) (fun h => q92 (UInt8.toNat_inj.1 h))
          by_cases q34 : S[j + 1]'hj2 = 34
          · have k5 : (((S[j + 1]'hj2).toNat : Int) == 34) = true := by rw [q34]; rfl
            have HE : Hid (strL (S.data.toList.drop (j + 2)) false (j + 2 - p) (acc ++ [S[j + 1]'hj2]) = V) := by
              show _ = _
              rw [hV2, q34]
              show _ = strL (S.data.toList.drop (j + 1)) true (j - p + 1) (acc ++ [34])
              rw [str_esc hj2, show j - p + 1 + 1 = j + 2 - p by omega]
            clear hV2 q34
            go_wp2_with (at_builtin; refine wpList_append_lies _ (by rfl) _ _ _ (by rfl) w.heap.size 5 i5 _ 1 1 Tryd.underlying34 HI.out.1 HI.out.2.1 HI.out.2.2.1 HI.out.2.2.2 rfl (by omega) u3 acc.length (bC acc) (by rfl) (HO5.out.alloc _) ⟨W5.heap.size, 0, none⟩ 1 1 [.int .u8 ((S[j + 1]'hj2).toNat : Int)] (by rfl) (by rfl) (World.news_of_block (heap_alloc_new W5 _)) (by simp [Value.oneCell']) (by omega) (by unfold maxLen; omega) (by omega) (by simp; omega) (W5.heap.size + 1) (by simp) ?_; intro gg cap w2 hown1 hgrow hat hlt1; have HW3 : Hid _ := hown1; have HS3 : Hid (Sc w2 base R S j s 0 0) := HS5.out.grown5 HO5.out ((Below.refl _ _).alloc (Nat.le_refl _) _) hgrow; have HB3 : Hid (Below base w w2) := ((HB5.out.alloc (by omega) _).grown hgrow (by simp; omega) (fun k hk => by have := (own_blk HO5.out hk).1; omega)); have d1 := HS3.out.cell1; have d2 := HS3.out.frz 1; clear hown1 hgrow hat hlt1)
            go_roundw
            case rel =>
              have hput := HS3.out.put1 (j + 2)
              rw [show ((j + 2 : Nat) : Int) = (j : Int) + 2 by omega] at hput
              refine ⟨j + 2, acc ++ [S[j + 1]'hj2], by omega, by omega, hput, HB3.out.setCell hle _, ?_, HE.out, by rw [List.length_append]; simp; omega⟩
              obtain ⟨_, tv, rv, hR, _⟩ := HS3.out
              have q := own_setR (j := 1) (u := .int .i64 ((j : Int) + 2)) HW3.out hR (by decide)
              rw [bC_snoc, List.length_append]
              exact q
            case measure =>
              have hput := HS3.out.put1 (j + 2)
              rw [show ((j + 2 : Nat) : Int) = (j : Int) + 2 by omega] at hput
              rw [hput.cellI, HCI.out]
              omega
          have k5 : (((S[j + 1]'hj2).toNat : Int) == 34) = false := nat_bne (b := 34) (fun h => q34 (UInt8.toNat_inj.1 h))
          by_cases q110 : S[j + 1]'hj2 = 110
          · have k6 : (((S[j + 1]'hj2).toNat : Int) == 110) = true := by rw [q110]; rfl
            have HE : Hid (strL (S.data.toList.drop (j + 2)) false (j + 2 - p) (acc ++ [10]) = V) := by
              show _ = _
              rw [hV2, q110]
              show _ = strL (S.data.toList.drop (j + 1)) true (j - p + 1) (acc ++ [10])
              rw [str_esc hj2, show j - p + 1 + 1 = j + 2 - p by omega]
            clear hV2 q110
            go_wp2_with (at_builtin; refine wpList_append_lies _ (by rfl) _ _ _ (by rfl) w.heap.size 5 i5 _ 1 1 Tryd.underlying34 HI.out.1 HI.out.2.1 HI.out.2.2.1 HI.out.2.2.2 rfl (by omega) u3 acc.length (bC acc) (by rfl) (HO5.out.alloc _) ⟨W5.heap.size, 0, none⟩ 1 1 [.int .u8 10] (by rfl) (by rfl) (World.news_of_block (heap_alloc_new W5 _)) (by simp [Value.oneCell']) (by omega) (by unfold maxLen; omega) (by omega) (by simp; omega) (W5.heap.size + 1) (by simp) ?_; intro gg cap w2 hown1 hgrow hat hlt1; have HW3 : Hid _ := hown1; have HS3 : Hid (Sc w2 base R S j s 0 0) := HS5.out.grown5 HO5.out ((Below.refl _ _).alloc (Nat.le_refl _) _) hgrow; have HB3 : Hid (Below base w w2) := ((HB5.out.alloc (by omega) _).grown hgrow (by simp; omega) (fun k hk => by have := (own_blk HO5.out hk).1; omega)); have d1 := HS3.out.cell1; have d2 := HS3.out.frz 1; clear hown1 hgrow hat hlt1)
            go_roundw
            case rel =>
              have hput := HS3.out.put1 (j + 2)
              rw [show ((j + 2 : Nat) : Int) = (j : Int) + 2 by omega] at hput
              refine ⟨j + 2, acc ++ [10], by omega, by omega, hput, HB3.out.setCell hle _, ?_, HE.out, by rw [List.length_append]; simp; omega⟩
              obtain ⟨_, tv, rv, hR, _⟩ := HS3.out
              have q := own_setR (j := 1) (u := .int .i64 ((j : Int) + 2)) HW3.out hR (by decide)
              rw [bC_snoc, List.length_append]
              exact q
            case measure =>
              have hput := HS3.out.put1 (j + 2)
              rw [show ((j + 2 : Nat) : Int) = (j : Int) + 2 by omega] at hput
              rw [hput.cellI, HCI.out]
              omega
          have k6 : (((S[j + 1]'hj2).toNat : Int) == 110) = false := nat_bne (b := 110) (fun h => q110 (UInt8.toNat_inj.1 h))
          by_cases q116 : S[j + 1]'hj2 = 116
          · have k7 : (((S[j + 1]'hj2).toNat : Int) == 116) = true := by rw [q116]; rfl
            have HE : Hid (strL (S.data.toList.drop (j + 2)) false (j + 2 - p) (acc ++ [9]) = V) := by
              show _ = _
              rw [hV2, q116]
              show _ = strL (S.data.toList.drop (j + 1)) true (j - p + 1) (acc ++ [9])
              rw [str_esc hj2, show j - p + 1 + 1 = j + 2 - p by omega]
            clear hV2 q116
            go_wp2_with (at_builtin; refine wpList_append_lies _ (by rfl) _ _ _ (by rfl) w.heap.size 5 i5 _ 1 1 Tryd.underlying34 HI.out.1 HI.out.2.1 HI.out.2.2.1 HI.out.2.2.2 rfl (by omega) u3 acc.length (bC acc) (by rfl) (HO5.out.alloc _) ⟨W5.heap.size, 0, none⟩ 1 1 [.int .u8 9] (by rfl) (by rfl) (World.news_of_block (heap_alloc_new W5 _)) (by simp [Value.oneCell']) (by omega) (by unfold maxLen; omega) (by omega) (by simp; omega) (W5.heap.size + 1) (by simp) ?_; intro gg cap w2 hown1 hgrow hat hlt1; have HW3 : Hid _ := hown1; have HS3 : Hid (Sc w2 base R S j s 0 0) := HS5.out.grown5 HO5.out ((Below.refl _ _).alloc (Nat.le_refl _) _) hgrow; have HB3 : Hid (Below base w w2) := ((HB5.out.alloc (by omega) _).grown hgrow (by simp; omega) (fun k hk => by have := (own_blk HO5.out hk).1; omega)); have d1 := HS3.out.cell1; have d2 := HS3.out.frz 1; clear hown1 hgrow hat hlt1)
            go_roundw
            case rel =>
              have hput := HS3.out.put1 (j + 2)
              rw [show ((j + 2 : Nat) : Int) = (j : Int) + 2 by omega] at hput
              refine ⟨j + 2, acc ++ [9], by omega, by omega, hput, HB3.out.setCell hle _, ?_, HE.out, by rw [List.length_append]; simp; omega⟩
              obtain ⟨_, tv, rv, hR, _⟩ := HS3.out
              have q := own_setR (j := 1) (u := .int .i64 ((j : Int) + 2)) HW3.out hR (by decide)
              rw [bC_snoc, List.length_append]
              exact q
            case measure =>
              have hput := HS3.out.put1 (j + 2)
              rw [show ((j + 2 : Nat) : Int) = (j : Int) + 2 by omega] at hput
              rw [hput.cellI, HCI.out]
              omega
          have k7 : (((S[j + 1]'hj2).toNat : Int) == 116) = false := nat_bne (b := 116) (fun h => q116 (UInt8.toNat_inj.1 h))
          have HE : Hid (V = .error (j - p)) := by
            show _ = _
            rw [hV2]
            have : (some (S[j + 1]'hj2)).bind escOf = none := by
              show escOf _ = none
              unfold escOf
              rw [if_neg q92, if_neg q34, if_neg q110, if_neg q116]
            rw [this]
          clear hV2 q92 q34 q110 q116
          have g51 := rwrong_any W5 base R S j s 0 0 HS5.out j
          go_wp2_with (go_at_call 51; refine g51.mono ?_; intro e w3 h3; obtain rfl := h3.ret; have H3 : Hid _ := h3; clear h3)
          refine bodyPost_end (results_none rfl _ _ _) rfl ?_
          rw [HPC.out, HE.out]
          refine ⟨j, s, ?_⟩
          rw [show p + (j - p) = j by omega]
          exact H3.out.after HB5.out
        · rw [dif_neg hj2] at hV2
          have HE : Hid (V = .error (j - p)) := hV2
          clear hV2
          have y1 : decide ((j : Int) + 1 < (S.size : Int)) = false := decide_eq_false (by omega)
          have y1' : ¬ (j : Int) + 1 < (S.size : Int) := by omega
          go_wp2_with fail
          go_quiet (fail)
          have HS4 : Hid (Sc (W2.drewN nq) base R S j s 0 0) := HS2.out.drewN nq
          have HB4 : Hid (Below base w (W2.drewN nq)) := HB2.out.trans (bl_drewN _ _ _)
          clear c0 c1 f1 HS2 HB2 HO2
          generalize W2.drewN nq = W4 at *
          have c1 := HS4.out.cell1
          have g51 := rwrong_any W4 base R S j s 0 0 HS4.out j
          go_wp2_with (go_at_call 51; refine g51.mono ?_; intro e w3 h3; obtain rfl := h3.ret; have H3 : Hid _ := h3; clear h3)
          refine bodyPost_end (results_none rfl _ _ _) rfl ?_
          rw [HPC.out, HE.out]
          refine ⟨j, s, ?_⟩
          rw [show p + (j - p) = j by omega]
          exact H3.out.after HB4.out
      · have k3 : (((S[j]'hjl).toNat : Int) == 92) = false := nat_bne (b := 92) (fun h => q3 (UInt8.toNat_inj.1 h))
        have HE : Hid (strL (S.data.toList.drop (j + 1)) false (j + 1 - p) (acc ++ [S[j]'hjl]) = V) := by
          show _ = _
          rw [← hV, str_cons hjl, strL, if_neg q3, if_neg q2, if_neg q1, show j - p + 1 = j + 1 - p by omega]
        clear hV q1 q2 q3
        go_wp2_with (at_builtin; refine wpList_append_lies _ (by rfl) _ _ _ (by rfl) w.heap.size 5 i5 _ 1 1 Tryd.underlying34 HI.out.1 HI.out.2.1 HI.out.2.2.1 HI.out.2.2.2 rfl (by omega) u3 acc.length (bC acc) (by rfl) (HO2.out.alloc _) ⟨W2.heap.size, 0, none⟩ 1 1 [.int .u8 ((S[j]'hjl).toNat : Int)] (by rfl) (by rfl) (World.news_of_block (heap_alloc_new W2 _)) (by simp [Value.oneCell']) (by omega) (by unfold maxLen; omega) (by omega) (by simp; omega) (W2.heap.size + 1) (by simp) ?_; intro gg cap w2 hown1 hgrow hat hlt1; have HW3 : Hid _ := hown1; have HS3 : Hid (Sc w2 base R S j s 0 0) := HS2.out.grown5 HO2.out ((Below.refl _ _).alloc (Nat.le_refl _) _) hgrow; have HB3 : Hid (Below base w w2) := ((HB2.out.alloc (by omega) _).grown hgrow (by simp; omega) (fun k hk => by have := (own_blk HO2.out hk).1; omega)); have d1 := HS3.out.cell1; have d2 := HS3.out.frz 1; clear hown1 hgrow hat hlt1)
        go_roundw
        case rel =>
          have hput := HS3.out.put1 (j + 1)
          rw [show ((j + 1 : Nat) : Int) = (j : Int) + 1 by omega] at hput
          refine ⟨j + 1, acc ++ [S[j]'hjl], by omega, by omega, hput, HB3.out.setCell hle _, ?_, HE.out, by rw [List.length_append]; simp; omega⟩
          obtain ⟨_, tv, rv, hR, _⟩ := HS3.out
          have q := own_setR (j := 1) (u := .int .i64 ((j : Int) + 1)) HW3.out hR (by decide)
          rw [bC_snoc, List.length_append]
          exact q
        case measure =>
          have hput := HS3.out.put1 (j + 1)
          rw [show ((j + 1 : Nat) : Int) = (j : Int) + 1 by omega] at hput
          rw [hput.cellI, HCI.out]
          omega
    · have z1 : (S.size : Int) ≤ (j : Int) := by omega
      have HE : Hid (V = .error 0) := hV.symm.trans (str_end hjl _ _ _)
      clear hV
      go_wp2_with fail
      go_quiet (fail)
      have g51 := rwrong_any (wr.drewN nq) base R S j s 0 0 (HSC.out.drewN nq) p
      go_wp2_with (go_at_call 51; refine g51.mono ?_; intro e w3 h3; obtain rfl := h3.ret; have H3 : Hid _ := h3; clear h3)
      refine bodyPost_end (results_none rfl _ _ _) rfl ?_
      rw [HPC.out, HE.out]
      exact ⟨j, s, H3.out.after (HBL.out.trans (bl_drewN _ _ _))⟩
end Go.Proofs.YtmfdfkbcommjfaaDoor
