/-
  The document's row of kind 4, walked.
-/
import Derived.Test.YtleiohccaagalaaGreatRfw
namespace Go.Proofs.YtleiohccaagalaaGreat
open Go.RowKit
attribute [local go_sem ↓] Go.wp_at_zero Go.wp_at_succ
set_option maxRecDepth 100000 in
set_option maxHeartbeats 8000000 in
theorem row4_any {B n c : Nat} {a : Option Addr} {ts : List Bs} {op : Rd} {top k : Nat} (hs : Shr op) (htop : top ≤ 100000) (hl : ts.length ≤ top) (hop : ∀ i w, (ts.drop i).length ≤ k → i ≤ ts.length → RestV B w a n c ts → Rz B a n c w i false → Calls Tryz.prog 17 #[.pointer (some ⟨B, 0, none⟩), .int .i64 3, .string ⟨#[38, 38]⟩] w (RdR B a n c i w ts (op (ts.drop i)) top)) (i : Nat) (w : World) (hk : (ts.drop i).length ≤ k) (hi : i ≤ ts.length) (hrv : RestV B w a n c ts) (h : Rz B a n c w i false) :
    Calls Tryz.prog 17 #[.pointer (some ⟨B, 0, none⟩), .int .i64 4, .string (bs sOr)] w (RdR B a n c i w ts (rowF sOr op .either (ts.drop i)) top) := by
  have hlt : B < w.heap.size := (Array.getElem?_eq_some_iff.1 h).1
  obtain ⟨RES, hRES⟩ : ∃ R, R = rowF sOr op .either (ts.drop i) := ⟨_, rfl⟩
  rw [← hRES]
  have HR : Hid (RES = (op (ts.drop i)).bind fun x => moreN sOr op .either x.1 x.2) := hRES
  have HOP : Hid (∀ i w, (ts.drop i).length ≤ k → i ≤ ts.length → RestV B w a n c ts → Rz B a n c w i false → Calls Tryz.prog 17 #[.pointer (some ⟨B, 0, none⟩), .int .i64 3, .string ⟨#[38, 38]⟩] w (RdR B a n c i w ts (op (ts.drop i)) top)) := hop
  have HS : Hid (Shr op) := hs
  have HKI : Hid ((ts.drop i).length ≤ k) := hk
  have HRV : Hid (RestV B w a n c ts) := hrv
  have hb2 : Below w.heap.size w ((w.alloc (.cells #[.int .i64 0, .string ⟨#[]⟩, .slice none 0 0] 31)).alloc (.cells #[.int .i64 4, .string ⟨#[]⟩, .slice none 0 0] 31)) := ((Below.refl _ w).alloc (Nat.le_refl _) _).alloc (by simp) _
  have HL : Hid (LRw B a n c w 4 false i [] (.slice none 0 0) ((w.alloc (.cells #[.int .i64 0, .string ⟨#[]⟩, .slice none 0 0] 31)).alloc (.cells #[.int .i64 4, .string ⟨#[]⟩, .slice none 0 0] 31))) :=
    ⟨Kx.of_whole hb2, blk_kept hb2 h, heap_old _ _ (heap_new _ _), by have := heap_new (w.alloc (.cells #[.int .i64 0, .string ⟨#[]⟩, .slice none 0 0] 31)) (.cells #[.int .i64 4, .string ⟨#[]⟩, .slice none 0 0] 31); simpa using this, RowN.nil _ _ _⟩
  have HP : Hid (LRp ts 4 sOr op .either RES i none []) := ⟨rfl, HR.out.symm⟩
  clear hop hs hRES h HR hb2 hk hrv
  go_enter Tryz.func17, Tryz.ntmps17
  go_wp2_with fail
  go_loopg [8] (ts.length - i + 1) (fun g u8 wr => ∃ (j : Nat) (st : Option Pt) (acc : List Rl) (ua : Option Addr) (uc : Nat), ts.length - j + 1 ≤ g ∧ i ≤ j ∧ j ≤ ts.length ∧ acc.length + i ≤ j ∧ Hid (LRw B a n c w 4 false j acc (.slice ua acc.length uc) wr ∧ LRp ts 4 sOr op .either RES j st acc))
  case atStart => exact ⟨i, none, [], none, 0, by omega, by omega, by omega, by simp, HL.out, HP.out⟩
  case round =>
    obtain ⟨j, st, acc, ua, uc, hg, hij, hj, hac, HX⟩ := hrel
    clear HL HP
    have hsz := HX.out.1.kp.size
    have hxs : w.heap.size + 1 < wr.heap.size := (Array.getElem?_eq_some_iff.1 HX.out.1.rx).1
    have hba : Below wr.heap.size wr (wr.alloc (.cells #[.int .i64 0, .string ⟨#[]⟩, .slice none 0 0] 31)) := (Below.refl _ _).alloc (Nat.le_refl _) _
    have h1 := HOP.out j (wr.alloc (.cells #[.int .i64 0, .string ⟨#[]⟩, .slice none 0 0] 31)) (by have := HKI.out; rw [List.length_drop] at this ⊢; omega) hj ((HRV.out.kept HX.out.1.kp).kept (Kx.of_whole hba)) (blk_kept hba HX.out.1.rz)
    clear hba
    go_wp2_with fail
    go_at_call 17
    refine h1.mono ?_
    intro e w1 hq
    obtain ⟨x, v, i1, bad, rfl, hsl, hrz, htp, hi01, hne, hlen, hyes, hno⟩ := hq.ex
    obtain ⟨va, vc, rfl⟩ := hsl.slice
    have hz1 : wr.heap.size + 1 ≤ w1.heap.size := by have := hq.kp.size; simpa using this
    have HY1 : Hid (w1.heap[wr.heap.size]? = some (.cells #[.int .i64 0, .string ⟨#[]⟩, .slice none 0 0] 31 (0, 0))) := (hq.kp.keep _ _ (heap_new wr _) (by omega))
    have HK1 : Hid (Kx (· = B) wr w1) := (Kx.of_whole ((Below.refl _ _).alloc (Nat.le_refl _) _)).trans hq.kp
    have hsl' : SlV (Bf (wr.heap.size + 1)) w1 (.slice va x.kids.length vc) x.kids := by simpa using hsl
    have HSL : Hid (SlV (Bf (wr.heap.size + 1)) w1 (.slice va x.kids.length vc) x.kids) := hsl'
    clear hsl'
    have HRZ : Hid (Rz B a n c w1 i1 bad) := hrz
    have HNE : Hid (x.kind = 3 ∨ x.kind = 4 → 2 ≤ x.kids.length) := hne
    have HLEN : Hid (x.kids.length + j ≤ i1 + 1) := hlen
    have HYS : Hid (bad = false → ∃ p r, op (ts.drop j) = some (p, r) ∧ x = nf p ∧ ts.drop i1 = r ∧ i1 ≤ ts.length) := hyes
    have HNO : Hid (bad = true → op (ts.drop j) = none) := hno
    clear hq h1 hsl hrz hne hlen hyes hno
    obtain ⟨y0, y1, y2, fy0, fy1, fy2⟩ := bx3 HY1.out
    obtain ⟨x0, x1, x2, fx0, fx1, fx2⟩ := bx3 (HK1.out.keep _ _ HX.out.1.rx (by omega))
    obtain ⟨WY, hWY⟩ : ∃ W, W = (((w1.setCell ⟨wr.heap.size, 0, none⟩ (.int .i64 x.kind)).setCell ⟨wr.heap.size, 1, none⟩ (.string (bs x.tag))).setCell ⟨wr.heap.size, 2, none⟩ (.slice va x.kids.length vc)) := ⟨_, rfl⟩
    have HKY : Hid (Kx (· = wr.heap.size) w1 WY) := by rw [hWY]; exact kx_set3
    have HKW : Hid (Kx (fun b => b = B ∨ wr.heap.size ≤ b) wr WY) := HK1.out.andThen HKY.out (fun b _ e => .inl e) (fun b _ e => .inr (by omega))
    have HZW : Hid (Rz B a n c WY i1 bad) := HKY.out.keep _ _ HRZ.out (by omega)
    have HROW : Hid (RowN (w.heap.size + 2) (Bf (w.heap.size + 2)) WY (.slice ua acc.length uc) acc) := HX.out.1.row.to HKW.out (fun b hb e => by have := HX.out.1.row.lt b hb; omega) (fun b o ob hb h e => by have := (Array.getElem?_eq_some_iff.1 hb).1; have := h.1; omega)
    have HOWN : Hid (∀ b, (Value.slice ua acc.length uc).ownBlock = some b → b < wr.heap.size) := fun b hb => (HX.out.1.row.lt b hb).2
    by_cases hkd : x.kind = 4
    · have q3 : ((x.kind : Int) == 4) = true := nat_beq (b := 4) hkd
      have hqn := HNE.out (by omega)
      rcases HSL.out with ⟨_, _, _, h0⟩ | ⟨b, o', c', ob, e1, _, e2, e3, e4⟩
      · rw [h0] at hqn; simp at hqn
      · obtain ⟨rfl, rfl⟩ : va = some ⟨b, o', none⟩ ∧ vc = c' := by simpa using e1
        have HL2 : Hid (x.kids ≠ []) := fun h => by rw [h] at hqn; simp at hqn
        have HLN : Hid (acc.length + x.kids.length ≤ 1000000) := by have := HLEN.out; show _ ≤ _; omega
        have HLB : Hid (acc.length + x.kids.length + i ≤ i1 + 1) := by have := HLEN.out; show _ ≤ _; omega
        have HQL : Hid (2 ≤ acc.length + x.kids.length) := by show _ ≤ _; omega
        have HLIE : Hid (liesL (fun b o ob => Bf (w.heap.size + 2) b o ob ∧ (Value.slice ua acc.length uc).ownBlock ≠ some b) WY x.kids b o') := liesL_to' HKY.out (fun b o ob _ h => ⟨Bf.mono (by omega) b o ob h, fun e => by have := HOWN.out b e; have := h.1; omega⟩) (fun b o ob _ h e => by have := h.1; omega) (by have := e3.1; omega) e4
        have HFL : Hid (fl 4 x = x.kids) := by show _ = _; unfold fl; rw [if_pos hkd]
        have hzy := HKY.out.size
        have HKD : Hid (x.kind = 4) := hkd
        clear e1 e2 e3 e4 hqn hkd
        subst hWY
        have hBX : B ≠ w.heap.size + 1 := by omega
        have hXB : w.heap.size + 1 ≠ B := by omega
        have ql1 : ((acc.length : Int) + (x.kids.length : Int) == 1) = false := by have := HQL.out; have := nat_bne (a := acc.length + x.kids.length) (b := 1) (by omega); simpa using this
        have ql2 : (((acc.length + x.kids.length : Nat) : Int) == 1) = false := by have := HQL.out; exact nat_bne (b := 1) (by omega)
        cases bad with
        | true =>
          have HFN : Hid (RES = none) := by show _ = _; rw [← HX.out.2.res, HNO.out rfl]; rfl
          go_wp2_with (at_builtin; refine wp_appR (by rfl) _ _ (by rfl) (w.heap.size + 2) (Bf (w.heap.size + 2)) (.slice ua acc.length uc) acc (x.kids) b o' vc (by rfl) HROW.out (by rfl) HLIE.out HL2.out HLN.out (by first | omega | (simp; omega)) _ rfl ?_; intro gg cap w9 hrow9 hgrow _ hlt9; have HL9 : Hid (LRw B a n c w 4 true i1 (acc ++ x.kids) (.slice (some ⟨gg, 0, none⟩) (acc.length + x.kids.length) cap) (w9.setCell ⟨w.heap.size + 1, 2, none⟩ (.slice (some ⟨gg, 0, none⟩) (acc.length + x.kids.length) cap))) := LRw.grown HX.out.1 hlt HKW.out HZW.out hgrow hrow9; obtain ⟨gx, gz, gr⟩ := LRw.grown9 HX.out.1 hlt HKW.out HZW.out hgrow; obtain ⟨xx0, xx1, xx2, fxx0, fxx1, fxx2⟩ := bx3 gx; obtain ⟨bb0, bb1, bb2, fbb0, fbb1, fbb2⟩ := bx3 gz; obtain ⟨rr0, rr1, rr2, frr0, frr1, frr2⟩ := bx3 gr; clear hrow9 hgrow gx gz gr)
          refine bodyPost_ret (v := .agg #[.int .i64 4, .string ⟨#[]⟩, .slice (some ⟨gg, 0, none⟩) (acc.length + x.kids.length) cap]) (results_cell rfl rfl (resR (bx3_set3 HL9.out.r0))) rfl ?_
          exact row_end (x := .mk 4 [] (acc ++ x.kids)) HL9.out hlt (wrp_many (by have := HQL.out; simp at this ⊢; omega)).symm (HL9.out.slv (by have := HLN.out; simp at this ⊢; omega)) htp (by omega) (fun _ => by have := HQL.out; simp [Rl.kids] at this ⊢; omega) (by have := HLB.out; simp [Rl.kids] at this ⊢; omega) (fun h => by cases h) (by omega) (fun _ => HFN.out) _ _ _
        | false =>
          obtain ⟨p, r, ep, ex, er, hle⟩ := HYS.out rfl
          subst er
          obtain ⟨ha, hgo, hst⟩ := HX.out.2.next acc4 HS.out ep
          rw [← ex, HFL.out] at ha hgo
          have HGO : Hid (isB ts i1 sOr = true → i1 < ts.length ∧ LRp ts 4 sOr op .either RES (i1 + 1) (some (stF .either st p)) (acc ++ x.kids)) := hgo
          have HFY : Hid (isB ts i1 sOr = false → (∃ p, RES = some (p, ts.drop i1) ∧ acc ++ x.kids = fl 4 (nf p) ∧ i1 ≤ ts.length)) := fun h => ⟨_, hst h, ha, hle⟩
          clear ep ex ha hgo hst HYS HNO
          cases hsb : isB ts i1 sOr with
          | true =>
            obtain ⟨hi1, hlp⟩ := HGO.out hsb
            have HLP : Hid (LRp ts 4 sOr op .either RES (i1 + 1) (some (stF .either st p)) (acc ++ x.kids)) := hlp
            clear hlp
            go_wp2_with (first
              | (go_at_call 30; refine his.mono ?_; rintro e w4 ⟨rfl, hb4⟩; have HL4 : Hid (LRw B a n c w 4 false i1 (acc ++ x.kids) (.slice (some ⟨gg, 0, none⟩) (acc.length + x.kids.length) cap) w4) := HL9.out.whole hb4; obtain ⟨v0, v1, v2, fv0, fv1, fv2⟩ := bx3 HL4.out.rz; clear hb4 his)
              | (at_builtin; refine wp_appR (by rfl) _ _ (by rfl) (w.heap.size + 2) (Bf (w.heap.size + 2)) (.slice ua acc.length uc) acc (x.kids) b o' vc (by rfl) HROW.out (by rfl) HLIE.out HL2.out HLN.out (by first | omega | (simp; omega)) _ rfl ?_; intro gg cap w9 hrow9 hgrow _ hlt9; have HL9 : Hid (LRw B a n c w 4 false i1 (acc ++ x.kids) (.slice (some ⟨gg, 0, none⟩) (acc.length + x.kids.length) cap) (w9.setCell ⟨w.heap.size + 1, 2, none⟩ (.slice (some ⟨gg, 0, none⟩) (acc.length + x.kids.length) cap))) := LRw.grown HX.out.1 hlt HKW.out HZW.out hgrow hrow9; obtain ⟨gx, gz, gr⟩ := LRw.grown9 HX.out.1 hlt HKW.out HZW.out hgrow; obtain ⟨xx0, xx1, xx2, fxx0, fxx1, fxx2⟩ := bx3 gx; obtain ⟨bb0, bb1, bb2, fbb0, fbb1, fbb2⟩ := bx3 gz; obtain ⟨rr0, rr1, rr2, frr0, frr1, frr2⟩ := bx3 gr; have hrq : Rq B (w9.setCell ⟨w.heap.size + 1, 2, none⟩ (.slice (some ⟨gg, 0, none⟩) (acc.length + x.kids.length) cap)) ts i1 false := ⟨a, n, c, HL9.out.rz, HRV.out.kept HL9.out.kp⟩; have his := is_any hrq sOr; rw [hsb] at his; clear hrow9 hgrow gx gz gr hrq))
            go_roundg (ts.length - (i1 + 1) + 1)
            case measure => omega
            case rel => exact ⟨i1 + 1, _, acc ++ x.kids, some ⟨gg, 0, none⟩, cap, by omega, by omega, by omega, by have := HLB.out; simp; omega, by simp only [List.length_append]; exact HL4.out.stepB hlt (by go_num), HLP.out⟩
          | false =>
            have HFZ : Hid (∃ p, RES = some (p, ts.drop i1) ∧ acc ++ x.kids = fl 4 (nf p) ∧ i1 ≤ ts.length) := HFY.out hsb
            go_wp2_with (first
              | (go_at_call 30; refine his.mono ?_; rintro e w4 ⟨rfl, hb4⟩; have HL4 : Hid (LRw B a n c w 4 false i1 (acc ++ x.kids) (.slice (some ⟨gg, 0, none⟩) (acc.length + x.kids.length) cap) w4) := HL9.out.whole hb4; obtain ⟨v0, v1, v2, fv0, fv1, fv2⟩ := bx3 HL4.out.rx; obtain ⟨t0, t1, t2, ft0, ft1, ft2⟩ := bx3 HL4.out.r0; clear hb4 his)
              | (at_builtin; refine wp_appR (by rfl) _ _ (by rfl) (w.heap.size + 2) (Bf (w.heap.size + 2)) (.slice ua acc.length uc) acc (x.kids) b o' vc (by rfl) HROW.out (by rfl) HLIE.out HL2.out HLN.out (by first | omega | (simp; omega)) _ rfl ?_; intro gg cap w9 hrow9 hgrow _ hlt9; have HL9 : Hid (LRw B a n c w 4 false i1 (acc ++ x.kids) (.slice (some ⟨gg, 0, none⟩) (acc.length + x.kids.length) cap) (w9.setCell ⟨w.heap.size + 1, 2, none⟩ (.slice (some ⟨gg, 0, none⟩) (acc.length + x.kids.length) cap))) := LRw.grown HX.out.1 hlt HKW.out HZW.out hgrow hrow9; obtain ⟨gx, gz, gr⟩ := LRw.grown9 HX.out.1 hlt HKW.out HZW.out hgrow; obtain ⟨xx0, xx1, xx2, fxx0, fxx1, fxx2⟩ := bx3 gx; obtain ⟨bb0, bb1, bb2, fbb0, fbb1, fbb2⟩ := bx3 gz; obtain ⟨rr0, rr1, rr2, frr0, frr1, frr2⟩ := bx3 gr; have hrq : Rq B (w9.setCell ⟨w.heap.size + 1, 2, none⟩ (.slice (some ⟨gg, 0, none⟩) (acc.length + x.kids.length) cap)) ts i1 false := ⟨a, n, c, HL9.out.rz, HRV.out.kept HL9.out.kp⟩; have his := is_any hrq sOr; rw [hsb] at his; clear hrow9 hgrow gx gz gr hrq))
            refine bodyPost_ret (v := .agg #[.int .i64 4, .string ⟨#[]⟩, .slice (some ⟨gg, 0, none⟩) (acc.length + x.kids.length) cap]) (results_cell rfl rfl (resR (bx3_set3 HL4.out.r0))) rfl ?_
            exact row_end (x := .mk 4 [] (acc ++ x.kids)) HL4.out hlt (wrp_many (by have := HQL.out; simp at this ⊢; omega)).symm (HL4.out.slv (by have := HLN.out; simp at this ⊢; omega)) htp (by omega) (fun _ => by have := HQL.out; simp [Rl.kids] at this ⊢; omega) (by have := HLB.out; simp [Rl.kids] at this ⊢; omega) (fun _ => HFZ.out) (by omega) (fun h => by cases h) _ _ _
    · have q3 : ((x.kind : Int) == 4) = false := nat_bne (b := 4) hkd
      have hws : WY.heap.size = w1.heap.size := by rw [hWY]; simp [World.setCell]
      have hbA : Below WY.heap.size WY (WY.alloc (.cells #[.int .i64 x.kind, .string (bs x.tag), .slice va x.kids.length vc] 31)) := (Below.refl _ _).alloc (Nat.le_refl _) _
      have HKWA : Hid (Kx (fun b => b = B ∨ wr.heap.size ≤ b) wr (WY.alloc (.cells #[.int .i64 x.kind, .string (bs x.tag), .slice va x.kids.length vc] 31))) := HKW.out.trans (Kx.of_whole hbA)
      have HZWA : Hid (Rz B a n c (WY.alloc (.cells #[.int .i64 x.kind, .string (bs x.tag), .slice va x.kids.length vc] 31)) i1 bad) := blk_kept hbA HZW.out
      have HROWA : Hid (RowN (w.heap.size + 2) (Bf (w.heap.size + 2)) (WY.alloc (.cells #[.int .i64 x.kind, .string (bs x.tag), .slice va x.kids.length vc] 31)) (.slice ua acc.length uc) acc) := HROW.out.kept hbA
      have hnew := heap_new WY (.cells #[.int .i64 x.kind, .string (bs x.tag), .slice va x.kids.length vc] 31)
      rw [hws] at hnew
      obtain ⟨n0, n1, n2, _, _, _⟩ := bx3 hnew
      have HLIE : Hid (liesL (fun b o ob => Bf (w.heap.size + 2) b o ob ∧ (Value.slice ua acc.length uc).ownBlock ≠ some b) (WY.alloc (.cells #[.int .i64 x.kind, .string (bs x.tag), .slice va x.kids.length vc] 31)) [x] w1.heap.size 0) :=
        liesL_cons.2 ⟨lies_iff.2 ⟨n0, n1, _, n2, HSL.out.to' (HKY.out.trans (Kx.of_whole hbA)) (fun b o ob _ h => ⟨Bf.mono (by omega) b o ob h, fun e => by have := HOWN.out b e; have := h.1; omega⟩) (fun b o ob _ h e => by have := h.1; omega)⟩, liesL_nil⟩
      have HLN : Hid (acc.length + 1 ≤ 1000000) := by show _ ≤ _; simp; omega
      have HLB : Hid (acc.length + 1 + i ≤ i1 + 1) := by show _ ≤ _; omega
      have HFL : Hid (fl 4 x = [x]) := by show _ = _; unfold fl; rw [if_neg hkd]
      have hzy := HKWA.out.size
      have HKD : Hid (x.kind ≠ 4) := hkd
      clear hnew n0 n1 n2 hbA hws hkd
      subst hWY
      have hBX : B ≠ w.heap.size + 1 := by omega
      have hXB : w.heap.size + 1 ≠ B := by omega
      cases bad with
      | true =>
        have HFN : Hid (RES = none) := by show _ = _; rw [← HX.out.2.res, HNO.out rfl]; rfl
        by_cases ha0 : acc.length = 0
        · have HA0 : Hid (acc.length = 0) := ha0
          clear ha0
          go_wp2_with (at_builtin; refine wp_appR1 (by rfl) _ _ (by rfl) (w.heap.size + 2) (Bf (w.heap.size + 2)) (.slice ua acc.length uc) acc x w1.heap.size 0 1 (by rfl) HROWA.out (by rfl) HLIE.out HLN.out (by first | omega | (simp; omega)) ?_; intro gg cap m w9 HM hrow9 hgrow hlt9; have HL9 : Hid (LRw B a n c w 4 true i1 (acc ++ [x]) (.slice (some ⟨gg, 0, none⟩) m cap) (w9.setCell ⟨w.heap.size + 1, 2, none⟩ (.slice (some ⟨gg, 0, none⟩) m cap))) := LRw.grown HX.out.1 hlt HKWA.out HZWA.out hgrow hrow9; have hgl : w.heap.size + 2 ≤ gg := (hrow9.lt gg rfl).1; have hgX : gg ≠ w.heap.size + 1 := (by omega); have hXg : w.heap.size + 1 ≠ gg := (by omega); obtain ⟨gx, gz, gr⟩ := LRw.grown9 HX.out.1 hlt HKWA.out HZWA.out hgrow; obtain ⟨xx0, xx1, xx2, fxx0, fxx1, fxx2⟩ := bx3 gx; obtain ⟨bb0, bb1, bb2, fbb0, fbb1, fbb2⟩ := bx3 gz; obtain ⟨rr0, rr1, rr2, frr0, frr1, frr2⟩ := bx3 gr; obtain ⟨az, cz, z0, z1, z2, hvz⟩ := hrow9.first HA0.out; have HVZ : Hid (SlV (Bf (w.heap.size + 2)) (w9.setCell ⟨w.heap.size + 1, 2, none⟩ (.slice (some ⟨gg, 0, none⟩) m cap)) (.slice az x.kids.length cz) x.kids) := hvz.to' (kx_set (B := w.heap.size + 1)) (fun _ _ _ _ h => h) (fun b o ob _ hb e => by have := hb.1; omega); clear hvz; obtain rfl : m = 1 := (by have := HM.out; have := HA0.out; omega); clear hrow9 hgrow gx gz gr)
          refine bodyPost_ret (v := .agg #[.int .i64 x.kind, .string (bs x.tag), .slice az x.kids.length cz]) (results_cell rfl rfl (resR (bx3_set3 HL9.out.r0))) rfl ?_
          exact row_end (x := x) HL9.out hlt (by have h9 := List.length_eq_zero_iff.1 HA0.out; rw [h9]; rfl) HVZ.out htp (by omega) HNE.out (by have := HLEN.out; omega) (fun h => by cases h) (by omega) (fun _ => HFN.out) _ _ _
        · have HQL : Hid (2 ≤ acc.length + 1) := (by show _ ≤ _; omega)
          clear ha0
          go_wp2_with (at_builtin; refine wp_appR1 (by rfl) _ _ (by rfl) (w.heap.size + 2) (Bf (w.heap.size + 2)) (.slice ua acc.length uc) acc x w1.heap.size 0 1 (by rfl) HROWA.out (by rfl) HLIE.out HLN.out (by first | omega | (simp; omega)) ?_; intro gg cap m w9 HM hrow9 hgrow hlt9; have HL9 : Hid (LRw B a n c w 4 true i1 (acc ++ [x]) (.slice (some ⟨gg, 0, none⟩) m cap) (w9.setCell ⟨w.heap.size + 1, 2, none⟩ (.slice (some ⟨gg, 0, none⟩) m cap))) := LRw.grown HX.out.1 hlt HKWA.out HZWA.out hgrow hrow9; have hgl : w.heap.size + 2 ≤ gg := (hrow9.lt gg rfl).1; have hgX : gg ≠ w.heap.size + 1 := (by omega); have hXg : w.heap.size + 1 ≠ gg := (by omega); obtain ⟨gx, gz, gr⟩ := LRw.grown9 HX.out.1 hlt HKWA.out HZWA.out hgrow; obtain ⟨xx0, xx1, xx2, fxx0, fxx1, fxx2⟩ := bx3 gx; obtain ⟨bb0, bb1, bb2, fbb0, fbb1, fbb2⟩ := bx3 gz; obtain ⟨rr0, rr1, rr2, frr0, frr1, frr2⟩ := bx3 gr; have qm : ((m : Int) == 1) = false := nat_bne (b := 1) (by have := HM.out; have := HQL.out; omega); clear hrow9 hgrow gx gz gr)
          refine bodyPost_ret (v := .agg #[.int .i64 4, .string ⟨#[]⟩, .slice (some ⟨gg, 0, none⟩) m cap]) (results_cell rfl rfl (resR (bx3_set3 HL9.out.r0))) rfl ?_
          exact row_end (x := .mk 4 [] (acc ++ [x])) HL9.out hlt (wrp_many (by have := HQL.out; simp at this ⊢; omega)).symm (HL9.out.slv (by have := HLN.out; simp at this ⊢; omega)) htp (by omega) (fun _ => by have := HQL.out; simp [Rl.kids] at this ⊢; omega) (by have := HLB.out; simp [Rl.kids] at this ⊢; omega) (fun h => by cases h) (by omega) (fun _ => HFN.out) _ _ _
      | false =>
        obtain ⟨p, r, ep, ex, er, hle⟩ := HYS.out rfl
        subst er
        obtain ⟨ha, hgo, hst⟩ := HX.out.2.next acc4 HS.out ep
        rw [← ex, HFL.out] at ha hgo
        have HGO : Hid (isB ts i1 sOr = true → i1 < ts.length ∧ LRp ts 4 sOr op .either RES (i1 + 1) (some (stF .either st p)) (acc ++ [x])) := hgo
        have HFY : Hid (isB ts i1 sOr = false → (∃ p, RES = some (p, ts.drop i1) ∧ acc ++ [x] = fl 4 (nf p) ∧ i1 ≤ ts.length)) := fun h => ⟨_, hst h, ha, hle⟩
        clear ep ex ha hgo hst HYS HNO
        cases hsb : isB ts i1 sOr with
        | true =>
          obtain ⟨hi1, hlp⟩ := HGO.out hsb
          have HLP : Hid (LRp ts 4 sOr op .either RES (i1 + 1) (some (stF .either st p)) (acc ++ [x])) := hlp
          clear hlp
          go_wp2_with (first
            | (go_at_call 30; refine his.mono ?_; rintro e w4 ⟨rfl, hb4⟩; have HL4 : Hid (LRw B a n c w 4 false i1 (acc ++ [x]) (.slice (some ⟨gg, 0, none⟩) m cap) w4) := HL9.out.whole hb4; obtain ⟨v0, v1, v2, fv0, fv1, fv2⟩ := bx3 HL4.out.rz; clear hb4 his)
            | (at_builtin; refine wp_appR1 (by rfl) _ _ (by rfl) (w.heap.size + 2) (Bf (w.heap.size + 2)) (.slice ua acc.length uc) acc x w1.heap.size 0 1 (by rfl) HROWA.out (by rfl) HLIE.out HLN.out (by first | omega | (simp; omega)) ?_; intro gg cap m w9 HM hrow9 hgrow hlt9; have HL9 : Hid (LRw B a n c w 4 false i1 (acc ++ [x]) (.slice (some ⟨gg, 0, none⟩) m cap) (w9.setCell ⟨w.heap.size + 1, 2, none⟩ (.slice (some ⟨gg, 0, none⟩) m cap))) := LRw.grown HX.out.1 hlt HKWA.out HZWA.out hgrow hrow9; have hgl : w.heap.size + 2 ≤ gg := (hrow9.lt gg rfl).1; have hgX : gg ≠ w.heap.size + 1 := (by omega); have hXg : w.heap.size + 1 ≠ gg := (by omega); obtain ⟨gx, gz, gr⟩ := LRw.grown9 HX.out.1 hlt HKWA.out HZWA.out hgrow; obtain ⟨xx0, xx1, xx2, fxx0, fxx1, fxx2⟩ := bx3 gx; obtain ⟨bb0, bb1, bb2, fbb0, fbb1, fbb2⟩ := bx3 gz; obtain ⟨rr0, rr1, rr2, frr0, frr1, frr2⟩ := bx3 gr; have hrq : Rq B (w9.setCell ⟨w.heap.size + 1, 2, none⟩ (.slice (some ⟨gg, 0, none⟩) m cap)) ts i1 false := ⟨a, n, c, HL9.out.rz, HRV.out.kept HL9.out.kp⟩; have his := is_any hrq sOr; rw [hsb] at his; clear hrq; clear hrow9 hgrow gx gz gr))
          go_roundg (ts.length - (i1 + 1) + 1)
          case measure => omega
          case rel => exact ⟨i1 + 1, _, acc ++ [x], some ⟨gg, 0, none⟩, cap, by omega, by omega, by omega, by have := HLB.out; simp; omega, by rw [show (acc ++ [x]).length = m by rw [HM.out]; simp]; exact HL4.out.stepB hlt (by go_num), HLP.out⟩
        | false =>
          have HFZ : Hid (∃ p, RES = some (p, ts.drop i1) ∧ acc ++ [x] = fl 4 (nf p) ∧ i1 ≤ ts.length) := HFY.out hsb
          by_cases ha0 : acc.length = 0
          · have HA0 : Hid (acc.length = 0) := ha0
            clear ha0
            go_wp2_with (first
              | (go_at_call 30; refine his.mono ?_; rintro e w4 ⟨rfl, hb4⟩; have HL4 : Hid (LRw B a n c w 4 false i1 (acc ++ [x]) (.slice (some ⟨gg, 0, none⟩) 1 cap) w4) := HL9.out.whole hb4; obtain ⟨v0, v1, v2, fv0, fv1, fv2⟩ := bx3 HL4.out.rx; obtain ⟨t0, t1, t2, ft0, ft1, ft2⟩ := bx3 HL4.out.r0; obtain ⟨az, cz, z0, z1, z2, hvz⟩ := HL4.out.row.first HA0.out; have HVZ : Hid (SlV (Bf (w.heap.size + 2)) w4 (.slice az x.kids.length cz) x.kids) := hvz; clear hvz; clear hb4 his)
              | (at_builtin; refine wp_appR1 (by rfl) _ _ (by rfl) (w.heap.size + 2) (Bf (w.heap.size + 2)) (.slice ua acc.length uc) acc x w1.heap.size 0 1 (by rfl) HROWA.out (by rfl) HLIE.out HLN.out (by first | omega | (simp; omega)) ?_; intro gg cap m w9 HM hrow9 hgrow hlt9; have HL9 : Hid (LRw B a n c w 4 false i1 (acc ++ [x]) (.slice (some ⟨gg, 0, none⟩) m cap) (w9.setCell ⟨w.heap.size + 1, 2, none⟩ (.slice (some ⟨gg, 0, none⟩) m cap))) := LRw.grown HX.out.1 hlt HKWA.out HZWA.out hgrow hrow9; have hgl : w.heap.size + 2 ≤ gg := (hrow9.lt gg rfl).1; have hgX : gg ≠ w.heap.size + 1 := (by omega); have hXg : w.heap.size + 1 ≠ gg := (by omega); obtain ⟨gx, gz, gr⟩ := LRw.grown9 HX.out.1 hlt HKWA.out HZWA.out hgrow; obtain ⟨xx0, xx1, xx2, fxx0, fxx1, fxx2⟩ := bx3 gx; obtain ⟨bb0, bb1, bb2, fbb0, fbb1, fbb2⟩ := bx3 gz; obtain ⟨rr0, rr1, rr2, frr0, frr1, frr2⟩ := bx3 gr; obtain rfl : m = 1 := (by have := HM.out; have := HA0.out; omega); have hrq : Rq B (w9.setCell ⟨w.heap.size + 1, 2, none⟩ (.slice (some ⟨gg, 0, none⟩) 1 cap)) ts i1 false := ⟨a, n, c, HL9.out.rz, HRV.out.kept HL9.out.kp⟩; have his := is_any hrq sOr; rw [hsb] at his; clear hrq; clear hrow9 hgrow gx gz gr))
            refine bodyPost_ret (v := .agg #[.int .i64 x.kind, .string (bs x.tag), .slice az x.kids.length cz]) (results_cell rfl rfl (resR (bx3_set3 HL4.out.r0))) rfl ?_
            exact row_end (x := x) HL4.out hlt (by have h9 := List.length_eq_zero_iff.1 HA0.out; rw [h9]; rfl) HVZ.out htp (by omega) HNE.out (by have := HLEN.out; omega) (fun _ => HFZ.out) (by omega) (fun h => by cases h) _ _ _
          · have HQL : Hid (2 ≤ acc.length + 1) := (by show _ ≤ _; omega)
            clear ha0
            go_wp2_with (first
              | (go_at_call 30; refine his.mono ?_; rintro e w4 ⟨rfl, hb4⟩; have HL4 : Hid (LRw B a n c w 4 false i1 (acc ++ [x]) (.slice (some ⟨gg, 0, none⟩) m cap) w4) := HL9.out.whole hb4; obtain ⟨v0, v1, v2, fv0, fv1, fv2⟩ := bx3 HL4.out.rx; obtain ⟨t0, t1, t2, ft0, ft1, ft2⟩ := bx3 HL4.out.r0; clear hb4 his)
              | (at_builtin; refine wp_appR1 (by rfl) _ _ (by rfl) (w.heap.size + 2) (Bf (w.heap.size + 2)) (.slice ua acc.length uc) acc x w1.heap.size 0 1 (by rfl) HROWA.out (by rfl) HLIE.out HLN.out (by first | omega | (simp; omega)) ?_; intro gg cap m w9 HM hrow9 hgrow hlt9; have HL9 : Hid (LRw B a n c w 4 false i1 (acc ++ [x]) (.slice (some ⟨gg, 0, none⟩) m cap) (w9.setCell ⟨w.heap.size + 1, 2, none⟩ (.slice (some ⟨gg, 0, none⟩) m cap))) := LRw.grown HX.out.1 hlt HKWA.out HZWA.out hgrow hrow9; have hgl : w.heap.size + 2 ≤ gg := (hrow9.lt gg rfl).1; have hgX : gg ≠ w.heap.size + 1 := (by omega); have hXg : w.heap.size + 1 ≠ gg := (by omega); obtain ⟨gx, gz, gr⟩ := LRw.grown9 HX.out.1 hlt HKWA.out HZWA.out hgrow; obtain ⟨xx0, xx1, xx2, fxx0, fxx1, fxx2⟩ := bx3 gx; obtain ⟨bb0, bb1, bb2, fbb0, fbb1, fbb2⟩ := bx3 gz; obtain ⟨rr0, rr1, rr2, frr0, frr1, frr2⟩ := bx3 gr; have qm : ((m : Int) == 1) = false := nat_bne (b := 1) (by have := HM.out; have := HQL.out; omega); have hrq : Rq B (w9.setCell ⟨w.heap.size + 1, 2, none⟩ (.slice (some ⟨gg, 0, none⟩) m cap)) ts i1 false := ⟨a, n, c, HL9.out.rz, HRV.out.kept HL9.out.kp⟩; have his := is_any hrq sOr; rw [hsb] at his; clear hrq; clear hrow9 hgrow gx gz gr))
            refine bodyPost_ret (v := .agg #[.int .i64 4, .string ⟨#[]⟩, .slice (some ⟨gg, 0, none⟩) m cap]) (results_cell rfl rfl (resR (bx3_set3 HL4.out.r0))) rfl ?_
            exact row_end (x := .mk 4 [] (acc ++ [x])) HL4.out hlt (wrp_many (by have := HQL.out; simp at this ⊢; omega)).symm (HL4.out.slv (by have := HLN.out; simp at this ⊢; omega)) htp (by omega) (fun _ => by have := HQL.out; simp [Rl.kids] at this ⊢; omega) (by have := HLB.out; simp [Rl.kids] at this ⊢; omega) (fun _ => HFZ.out) (by omega) (fun h => by cases h) _ _ _
end Go.Proofs.YtleiohccaagalaaGreat
