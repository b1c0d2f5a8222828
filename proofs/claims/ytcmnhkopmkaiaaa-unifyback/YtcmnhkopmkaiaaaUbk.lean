/-
  The law UnifyBack, walked.
-/
import Derived.Test.YtcmnhkopmkaiaaaUaw
namespace Go.Proofs.Ytcmnhkopmkaiaaa
open Go.RowKit
attribute [local go_sem ↓] Go.wp_at_zero Go.wp_at_succ
theorem cnt_of {t : Ty} (h : t.tsz 60 ≤ 60) : t.cnt ≤ 60 := by
  have := tsz_cnt t 60 (by omega) h
  omega
theorem sbc_cnt (args : List Ty) (ha : ∀ x ∈ args, x.cnt ≤ 60) : ∀ t : Ty, (t.sbc args).cnt ≤ t.cnt * 60 :=
  Ty.ind fun k nm n f ns ms ks ih => by
    by_cases h : k = 9 ∧ 0 ≤ n ∧ n < (args.length : Int)
    · rw [Ty.sbc_put (t := .mk k nm n f ns ms ks) (args := args) (q := n.toNat) h.1 (by simp only [Ty.n]; omega) (by omega)]
      have h1 := ha _ (List.getElem_mem (l := args) (n := n.toNat) (by omega))
      have h2 : (Ty.mk k nm n f ns ms ks).cnt = cntL ks + 1 := Ty.cnt_eq _
      omega
    · rw [Ty.sbc_keep (t := .mk k nm n f ns ms ks) h, Ty.cnt_eq, Ty.cnt_eq (.mk k nm n f ns ms ks)]
      simp only [Ty.kids]
      have key : ∀ l : List Ty, (∀ x ∈ l, (x.sbc args).cnt ≤ x.cnt * 60) → cntL (l.map (Ty.sbc args)) ≤ cntL l * 60 := by
        intro l
        induction l with
        | nil => intro _; simp [cntL]
        | cons x r ihr =>
          intro hl
          rw [List.map_cons, cntL_cons, cntL_cons]
          have h1 := hl x (by simp)
          have h2 := ihr (fun y hy => hl y (by simp [hy]))
          omega
      have := key ks ih
      omega
theorem subst_v {B B' : BQ} {w : World} {t : Ty} {an : Option Addr} {cn : Nat} {am : Option Addr} {cm : Nat} {ak : Option Addr} {ck : Nat} {aa : Option Addr} {la ca : Nat} {args : List Ty} (hp : Prt B w t (.slice an t.names.length cn) (.slice am t.marks.length cm) (.slice ak t.kids.length ck)) (hf : Fit t) (hc : t.cnt ≤ 1000000) (hs : SlT B' w (.slice aa la ca) args) (hF : ∀ x ∈ args, Fit x ∧ x.cnt ≤ 1000000) : Calls Try.prog 14 #[.agg #[.int .i64 t.kind, .string t.name, .int .i64 t.n, .bool t.flag, .slice an t.names.length cn, .slice am t.marks.length cm, .slice ak t.kids.length ck], .slice aa la ca] w (TyV w (fun b => w.heap.size ≤ b) (fun T => T = t.sbc args)) := by
  have h := subst_any (B := fun _ => True) (hp.with (fun _ _ _ => trivial)) hf hc (hs.with (fun _ _ _ => trivial)) hF
  unfold agT at h
  exact h.mono fun _ _ h => h.v rfl
theorem ext_set {ys zs : List Ty} {i : Nat} (h : Ext ys zs) (hi : i < zs.length) (h0 : (zs[i]).kind = 0) (t : Ty) : Ext ys (zs.set i t) := by
  refine ⟨by rw [List.length_set]; exact h.1, fun j hj hj' hn => ?_⟩
  have hz : j < zs.length := by rw [h.1]; exact hj
  have h1 := h.2 j hj hz hn
  by_cases e : i = j
  · subst e
    rw [h1] at h0
    exact absurd h0 hn
  · rw [List.getElem_set_ne e]
    exact h1
/-- seven cells of a box -/
def bx (t : Ty) (vn vm vk : Value) (b : Nat) (W : World) : Prop := W.heap[b]? = some (.cells #[.int .i64 t.kind, .string t.name, .int .i64 t.n, .bool t.flag, vn, vm, vk] 26 (0, 0))
theorem bx.kept {t : Ty} {vn vm vk : Value} {b : Nat} {W W' : World} (h : bx t vn vm vk b W) (hb : Below W.heap.size W W') : bx t vn vm vk b W' := blk_kept hb h
theorem bx.kx {t : Ty} {vn vm vk : Value} {b g : Nat} {W W' : World} (h : bx t vn vm vk b W) (hb : Kx (· = g) W W') (hn : b ≠ g) : bx t vn vm vk b W' := hb.keep _ _ h hn
set_option maxRecDepth 100000 in
set_option maxHeartbeats 8000000 in
theorem back_law {w : World} {T1 T2 : Ty} {vn1 vm1 vk1 vn2 vm2 vk2 : Value} (n : Int) (hp1 : Prt (fun b => b < w.heap.size) w T1 vn1 vm1 vk1) (hp2 : Prt (fun b => b < w.heap.size) w T2 vn2 vm2 vk2) (hf1 : Fit T1) (hf2 : Fit T2) :
    Calls Try.prog 4 #[agT T1 vn1 vm1 vk1, agT T2 vn2 vm2 vk2, .int .i64 n] w fun e w' => e = .returned (.bool true) ∧ Below w.heap.size w w' := by
  obtain ⟨an1, cn1, am1, cm1, ak1, ck1, rfl, rfl, rfl⟩ := hp1.form
  obtain ⟨an2, cn2, am2, cm2, ak2, ck2, rfl, rfl, rfl⟩ := hp2.form
  have HF : Hid (Fit T1 ∧ Fit T2) := ⟨hf1, hf2⟩
  have HP1 : Hid (Prt (fun b => b < w.heap.size) w T1 (.slice an1 T1.names.length cn1) (.slice am1 T1.marks.length cm1) (.slice ak1 T1.kids.length ck1)) := hp1
  have HP2 : Hid (Prt (fun b => b < w.heap.size) w T2 (.slice an2 T2.names.length cn2) (.slice am2 T2.marks.length cm2) (.slice ak2 T2.kids.length ck2)) := hp2
  unfold agT
  obtain ⟨W3, hW3⟩ : ∃ W3, W3 = (((w.alloc (.cells #[.int .i64 T1.kind, .string T1.name, .int .i64 T1.n, .bool T1.flag, .slice an1 T1.names.length cn1, .slice am1 T1.marks.length cm1, .slice ak1 T1.kids.length ck1] 26)).alloc (.cells #[.int .i64 T2.kind, .string T2.name, .int .i64 T2.n, .bool T2.flag, .slice an2 T2.names.length cn2, .slice am2 T2.marks.length cm2, .slice ak2 T2.kids.length ck2] 26)).alloc (.cells #[.int .i64 T1.kind, .string T1.name, .int .i64 T1.n, .bool T1.flag, .slice an1 T1.names.length cn1, .slice am1 T1.marks.length cm1, .slice ak1 T1.kids.length ck1, .int .i64 T2.kind, .string T2.name, .int .i64 T2.n, .bool T2.flag, .slice an2 T2.names.length cn2, .slice am2 T2.marks.length cm2, .slice ak2 T2.kids.length ck2] 26)) := ⟨_, rfl⟩
  have hb3 : Below w.heap.size w W3 := by rw [hW3]; exact bthen (bthen (below_alloc _ _) (below_alloc _ _)) (below_alloc _ _)
  have hz3 : W3.heap.size = w.heap.size + 3 := by rw [hW3]; simp
  have hk1 : bx T1 (.slice an1 T1.names.length cn1) (.slice am1 T1.marks.length cm1) (.slice ak1 T1.kids.length ck1) w.heap.size W3 := by
    unfold bx
    rw [hW3]; exact blk_kept (bthen (below_alloc _ _) (below_alloc _ _)) (heap_new w _)
  have hk2 : bx T2 (.slice an2 T2.names.length cn2) (.slice am2 T2.marks.length cm2) (.slice ak2 T2.kids.length ck2) (w.heap.size + 1) W3 := by
    unfold bx
    rw [hW3]; exact blk_kept (below_alloc _ _) (heap_new2 w _ _)
  have hk3 : W3.heap[w.heap.size + 1 + 1]? = some (.cells #[.int .i64 T1.kind, .string T1.name, .int .i64 T1.n, .bool T1.flag, .slice an1 T1.names.length cn1, .slice am1 T1.marks.length cm1, .slice ak1 T1.kids.length ck1, .int .i64 T2.kind, .string T2.name, .int .i64 T2.n, .bool T2.flag, .slice an2 T2.names.length cn2, .slice am2 T2.marks.length cm2, .slice ak2 T2.kids.length ck2] 26 (0, 0)) := by
    rw [hW3]
    have := heap_new ((w.alloc (.cells #[.int .i64 T1.kind, .string T1.name, .int .i64 T1.n, .bool T1.flag, .slice an1 T1.names.length cn1, .slice am1 T1.marks.length cm1, .slice ak1 T1.kids.length ck1] 26)).alloc (.cells #[.int .i64 T2.kind, .string T2.name, .int .i64 T2.n, .bool T2.flag, .slice an2 T2.names.length cn2, .slice am2 T2.marks.length cm2, .slice ak2 T2.kids.length ck2] 26)) (.cells #[.int .i64 T1.kind, .string T1.name, .int .i64 T1.n, .bool T1.flag, .slice an1 T1.names.length cn1, .slice am1 T1.marks.length cm1, .slice ak1 T1.kids.length ck1, .int .i64 T2.kind, .string T2.name, .int .i64 T2.n, .bool T2.flag, .slice an2 T2.names.length cn2, .slice am2 T2.marks.length cm2, .slice ak2 T2.kids.length ck2] 26)
    rw [World.size_alloc, World.size_alloc] at this
    exact this
  have hi := in_any (B := fun _ => True) (w := W3) (a := some ⟨w.heap.size + 1 + 1, 0, none⟩) (lk := 2) (ck := 2) (ks := [T1, T2]) (by
    refine .inr ⟨w.heap.size + 1 + 1, 0, 2, rfl, by simp, by omega, trivial, liesT_cons.2 ⟨?_, liesT_cons.2 ⟨?_, liesT_nil⟩⟩⟩
    · exact lies_iff.2 ⟨cell_of hk3 0, cell_of hk3 1, cell_of hk3 2, cell_of hk3 3, _, _, _, cell_of hk3 4, cell_of hk3 5, cell_of hk3 6, (hp1.kept hb3).with (fun _ _ _ => trivial)⟩
    · exact lies_iff.2 ⟨cell_of hk3 7, cell_of hk3 8, cell_of hk3 9, cell_of hk3 10, _, _, _, cell_of hk3 11, cell_of hk3 12, cell_of hk3 13, (hp2.kept hb3).with (fun _ _ _ => trivial)⟩)
  have HB3 : Hid (Below w.heap.size w W3 ∧ W3.heap.size = w.heap.size + 3) := ⟨hb3, hz3⟩
  have HK1 : Hid (bx T1 (.slice an1 T1.names.length cn1) (.slice am1 T1.marks.length cm1) (.slice ak1 T1.kids.length ck1) w.heap.size W3) := hk1
  have HK2 : Hid (bx T2 (.slice an2 T2.names.length cn2) (.slice am2 T2.marks.length cm2) (.slice ak2 T2.kids.length ck2) (w.heap.size + 1) W3) := hk2
  clear hp1 hp2 hf1 hf2 hb3 hz3 hk1 hk2 hk3
  subst hW3
  go_enter Try.func4, Try.ntmps4
  go_wp2_with fail
  refine hi.mono ?_
  intro e x1 hq
  obtain ⟨q1, rfl, hq1⟩ := hq.ex
  have HB1 : Hid (Below w.heap.size w x1 ∧ w.heap.size + 3 ≤ x1.heap.size) := ⟨bthen HB3.out.1 hq.bl, by have := hq.bl.size; have := HB3.out.2; omega⟩
  have HJ1 : Hid (bx T1 (.slice an1 T1.names.length cn1) (.slice am1 T1.marks.length cm1) (.slice ak1 T1.kids.length ck1) w.heap.size x1) := HK1.out.kept hq.bl
  have HJ2 : Hid (bx T2 (.slice an2 T2.names.length cn2) (.slice am2 T2.marks.length cm2) (.slice ak2 T2.kids.length ck2) (w.heap.size + 1) x1) := HK2.out.kept hq.bl
  have HIN : Hid (q1 = true → ∀ x ∈ ([T1, T2] : List Ty), x.tsz 60 ≤ 60) := hq1
  clear hi hq hq1 HK1 HK2 HB3
  cases q1 with
  | false =>
    go_wp2_with (go_at_call 6; refine (awake_any _).mono ?_; rintro e x2 ⟨rfl, hb⟩; have HB2 : Hid (Below w.heap.size w x2) := bthen HB1.out.1 hb; clear hb)
    go_ret
    exact ⟨rfl, HB2.out⟩
  | true =>
    have HCN : Hid (T1.cnt ≤ 60 ∧ T2.cnt ≤ 60) := ⟨cnt_of (HIN.out rfl _ (by simp)), cnt_of (HIN.out rfl _ (by simp))⟩
    clear HIN
    by_cases h0 : n < 0
    · go_wp2_with (go_at_call 6; refine (awake_any _).mono ?_; rintro e x2 ⟨rfl, hb⟩; have HB2 : Hid (Below w.heap.size w x2) := bthen HB1.out.1 hb; clear hb)
      go_ret
      exact ⟨rfl, HB2.out⟩
    by_cases h6 : 6 < n
    · go_wp2_with (go_at_call 6; refine (awake_any _).mono ?_; rintro e x2 ⟨rfl, hb⟩; have HB2 : Hid (Below w.heap.size w x2) := bthen HB1.out.1 hb; clear hb)
      go_ret
      exact ⟨rfl, HB2.out⟩
    obtain ⟨m, rfl⟩ : ∃ m : Nat, n = (m : Int) := ⟨n.toNat, by omega⟩
    have hm6 : m ≤ 6 := by omega
    have d0 : decide ((m : Int) < 0) = false := decide_eq_false h0
    have d6 : decide ((6 : Int) < (m : Int)) = false := decide_eq_false h6
    have hu := unk_any (fun b => b < w.heap.size) T2 x1 _ _ _ (HP2.out.kept HB1.out.1)
    unfold agT at hu
    obtain ⟨s0, s1, s2, s3, s4, s5, s6⟩ := bx7 HJ2.out
    by_cases hun : T2.unk = true
    · rw [hun] at hu
      clear hun
      go_wp2_with (first | (go_at_call 10; refine hu.mono ?_; rintro e x2 ⟨rfl, hb⟩; have HB2 : Hid (Below w.heap.size w x2) := bthen HB1.out.1 hb; clear hb) | (go_at_call 6; refine (awake_any _).mono ?_; rintro e x3 ⟨rfl, hb⟩; have HB3 : Hid (Below w.heap.size w x3) := bthen HB2.out hb; clear hb))
      go_ret
      exact ⟨rfl, HB3.out⟩
    have hun : T2.unk = false := by simpa using hun
    rw [hun] at hu
    have HUN : Hid (T2.unk = false) := hun
    clear hun
    obtain ⟨i0, hi0, hz0, hz1, hz2⟩ := infoT_ex
    go_wp2_with (first | (go_at_call 10; refine hu.mono ?_; rintro e x2 ⟨rfl, hb⟩; have HB2 : Hid (Below x1.heap.size x1 x2) := hb; clear hb) | (at_make; refine wpList_make_full _ rfl _ _ 24 rfl x2.heap.size 26 i0 (.agg #[.int .i64 0, .string ⟨#[]⟩, .int .i64 0, .bool false, .slice none 0 0, .slice none 0 0, .slice none 0 0]) 7 Try.underlying24 hi0 hz0 hz1 .i64 .i64 _ _ m rfl rfl (by rfl) (by rfl) (by rw [hz2]; omega) (by unfold maxLen; omega) (Nat.le_refl _) ?_; intro x3 hown0 hgrow0; have hB0 : Below x2.heap.size x2 x3 := (Below.refl _ x2).grown hgrow0 (Nat.le_refl _) (fun k e => by cases e); have HB3 : Hid (Below x2.heap.size x2 x3) := hB0; have HO0 : Hid (RowT x2.heap.size (fun _ => False) x3 (.slice (some ⟨x2.heap.size, 0, none⟩) m m) (List.replicate m zT)) := row_zero (n := m) (by omega) hown0; have hj1 := HJ1.out.kept (bthen HB2.out hB0); have hj2 := HJ2.out.kept (bthen HB2.out hB0); have HL1 : Hid (bx T1 (.slice an1 T1.names.length cn1) (.slice am1 T1.marks.length cm1) (.slice ak1 T1.kids.length ck1) w.heap.size x3) := hj1; have HL2 : Hid (bx T2 (.slice an2 T2.names.length cn2) (.slice am2 T2.marks.length cm2) (.slice ak2 T2.kids.length ck2) (w.heap.size + 1) x3) := hj2; clear s0 s1 s2 s3 s4 s5 s6; obtain ⟨s0, s1, s2, s3, s4, s5, s6⟩ := bx7 hj2; obtain ⟨p0, p1, p2, p3, p4, p5, p6⟩ := bx7 hj1; clear hB0 hown0 hgrow0 hj1 hj2))
    have hb13 : Below w.heap.size w x3 := bthen HB1.out.1 (bthen HB2.out HB3.out)
    have hz13 : w.heap.size + 3 ≤ x2.heap.size := Nat.le_trans HB1.out.2 HB2.out.size
    obtain ⟨g, hg1, hg2, hg3, hg4⟩ := HO0.out.argS (by simp; omega) (w.heap.size + 2) (by have := HB3.out.size; omega)
    have hgw : w.heap.size + 2 ≤ g := by omega
    have HA3 : Hid (ArgS (fun b => b = g) g 0 x3 (.slice (some ⟨x2.heap.size, 0, none⟩) m m) (List.replicate m zT)) := hg4 _ (fun b h => h.elim)
    have hmt := umatch_any (fun b => b = g) g 0 rfl (.slice (some ⟨x2.heap.size, 0, none⟩) m m) (fun b => b < w.heap.size) (fun b => b < w.heap.size) T1 T2 (List.replicate m zT) x3 _ _ _ _ _ _ (fun b hb => by omega) (HP1.out.kept hb13) HF.out.1 (HP2.out.kept hb13) HF.out.2 HA3.out (fun t ht => by rw [List.eq_of_mem_replicate ht]; simp [zT, Ty.cnt, cntL]) (by have := HCN.out.2; omega) (by have := HCN.out.1; omega)
    unfold agT at hmt
    have HB4 : Hid (Below w.heap.size w x3 ∧ w.heap.size + 2 ≤ g ∧ g < x3.heap.size) := ⟨hb13, hgw, hg1⟩
    have HAL : Hid (∀ t ∈ (T1.mtc T2 (List.replicate m zT)).2, Fit t ∧ t.cnt ≤ 60) := Ty.mtc_all (fun t => Fit t ∧ t.cnt ≤ 60) _ _ _ ⟨HF.out.2, HCN.out.2⟩ (fun t ht z hz => ⟨ht.1.k z hz, by have := cnt_kid hz; omega⟩) (fun t ht => by rw [List.eq_of_mem_replicate ht]; exact ⟨.mk _ (by simp [zT, Ty.names]) (by simp [zT, Ty.marks]) (fun x hx => by simp [zT, Ty.kids] at hx), by simp [zT, Ty.cnt, cntL]⟩)
    have HLN : Hid ((T1.mtc T2 (List.replicate m zT)).2.length = m) := by
      show _ = _
      rw [Ty.mtc_len]; simp
    have HBK : Hid ((T1.mtc T2 (List.replicate m zT)).1 = true → ∀ zs, Ext (T1.mtc T2 (List.replicate m zT)).2 zs → (T1.sbc zs).idn T2 = true) := fun h zs he => by
      have e := Ty.mtc_mt T1 T2 (List.replicate m zT) h
      exact Ty.mt_back T1 T2 (List.replicate m zT) zs HUN.out (by rw [e]; exact h) (by rw [e]; exact he)
    generalize T1.mtc T2 (List.replicate m zT) = R at *
    obtain ⟨ra, ys⟩ := R
    clear hb13 hz13 hg1 hg2 hg3 hg4 hgw HA3 HO0
    refine hmt.mono ?_
    intro e x4 hq4
    obtain ⟨rfl, hq1, hq2⟩ := hq4
    have HX4 : Hid (Kx (· = g) x3 x4) := hq1
    have HA4 : Hid (ArgS (fun b => b = g) g 0 x4 (.slice (some ⟨x2.heap.size, 0, none⟩) m m) ys) := hq2
    have hb4 : Below w.heap.size w x4 := below_kx1 HB4.out.1 hq1 (by have := HB4.out.2.1; omega)
    have HC4 : Hid (Below w.heap.size w x4) := hb4
    have HM1 : Hid (bx T1 (.slice an1 T1.names.length cn1) (.slice am1 T1.marks.length cm1) (.slice ak1 T1.kids.length ck1) w.heap.size x4) := HL1.out.kx hq1 (by have := HB4.out.2.1; omega)
    have HM2 : Hid (bx T2 (.slice an2 T2.names.length cn2) (.slice am2 T2.marks.length cm2) (.slice ak2 T2.kids.length ck2) (w.heap.size + 1) x4) := HL2.out.kx hq1 (by have := HB4.out.2.1; omega)
    have HZ4 : Hid (g < x4.heap.size) := Nat.lt_of_lt_of_le HB4.out.2.2 hq1.size
    clear hq1 hq2 hmt hb4 s0 s1 s2 s3 s4 s5 s6 p0 p1 p2 p3 p4 p5 p6 HL1 HL2 HJ1 HJ2
    cases ra with
    | false =>
      go_wp2_with (go_at_call 6; refine (awake_any _).mono ?_; rintro e x5 ⟨rfl, hb⟩; have HB5 : Hid (Below w.heap.size w x5) := bthen HC4.out hb; clear hb)
      go_ret
      exact ⟨rfl, HB5.out⟩
    | true =>
      have HBK2 : Hid (∀ zs, Ext ys zs → (T1.sbc zs).idn T2 = true) := HBK.out rfl
      have HLN2 : Hid (ys.length = m) := HLN.out
      have HAL2 : Hid (∀ t ∈ ys, Fit t ∧ t.cnt ≤ 60) := HAL.out
      clear HBK HLN HAL
      go_wp2_with fail
      go_loopg [8] m (fun gh u8 wr => ∃ (i : Nat) (zs : List Ty), i ≤ m ∧ m - i ≤ gh ∧ u8 = .int .i64 i ∧ Hid (Kx (· = g) x4 wr ∧ ArgS (fun b => b = g) g 0 wr (.slice (some ⟨x2.heap.size, 0, none⟩) m m) zs ∧ (∀ t ∈ zs, Fit t ∧ t.cnt ≤ 60) ∧ Ext ys zs))
      case atStart => exact ⟨0, ys, Nat.zero_le _, Nat.le_refl _, rfl, Kx.refl _ _, HA4.out, HAL2.out, Ext.refl ys⟩
      case round =>
        obtain ⟨i, zs, hi, hg, rfl, HX⟩ := hrel
        have HXK : Hid (Kx (· = g) x4 wr) := HX.out.1
        have HXA : Hid (ArgS (fun b => b = g) g 0 wr (.slice (some ⟨x2.heap.size, 0, none⟩) m m) zs) := HX.out.2.1
        have HXC : Hid (∀ t ∈ zs, Fit t ∧ t.cnt ≤ 60) := HX.out.2.2.1
        have HXE : Hid (Ext ys zs) := HX.out.2.2.2
        clear HX
        have hzl : zs.length = m := HXE.out.1.trans HLN2.out
        by_cases hlt : i < m
        · have z1 : (i : Int) < (m : Int) := by omega
          have z0 : (0 : Int) ≤ (i : Int) := by omega
          have hzi : i < zs.length := by omega
          obtain ⟨rfl, cs, hbk, hlz⟩ : g = x2.heap.size ∧ ∃ cs, wr.heap[g]? = some (.cells cs 26 (0, 0)) ∧ (zs[i]).lies (fun b => ¬ b = g) wr g (i * 7) := by
            rcases HXA.out with ⟨_, _, _, e⟩ | ⟨c, cs, e, h1, h2, h3, h4⟩
            · rw [e] at hzi; cases hzi
            · have h5 := liesT_get h4 i hzi
              rw [Nat.zero_add] at h5
              simp at e
              exact ⟨e.1.symm, cs, h1, h5⟩
          have HBC : Hid (wr.heap[x2.heap.size]? = some (.cells cs 26 (0, 0))) := hbk
          obtain ⟨e0, e1, e2, e3, v4, v5, v6, e4, e5, e6, _⟩ := lies_iff.1 hlz
          have HE0 : Hid (∀ W, Below wr.heap.size wr W → W.cell? ⟨x2.heap.size, i * 7, none⟩ = some (.int .i64 (zs[i]).kind) ∧ W.cell? ⟨x2.heap.size, i * 7 + 1, none⟩ = some (.string (zs[i]).name) ∧ W.cell? ⟨x2.heap.size, i * 7 + 2, none⟩ = some (.int .i64 (zs[i]).n) ∧ W.cell? ⟨x2.heap.size, i * 7 + 3, none⟩ = some (.bool (zs[i]).flag) ∧ W.cell? ⟨x2.heap.size, i * 7 + 4, none⟩ = some v4 ∧ W.cell? ⟨x2.heap.size, i * 7 + 5, none⟩ = some v5 ∧ W.cell? ⟨x2.heap.size, i * 7 + 6, none⟩ = some v6) := fun W h => ⟨kept_cell h e0, kept_cell h e1, kept_cell h e2, kept_cell h e3, kept_cell h e4, kept_cell h e5, kept_cell h e6⟩
          clear e1 e2 e3 e4 e5 e6
          by_cases hk0 : (zs[i]).kind = 0
          · have HPU : Hid (∀ (W : World) (T : Ty) (vn vm vk : Value), Below wr.heap.size wr W → Prt (fun b => ¬ b = x2.heap.size) W T vn vm vk → ArgS (fun b => b = x2.heap.size) x2.heap.size 0 (set7 W x2.heap.size (i * 7) (.int .i64 T.kind) (.string T.name) (.int .i64 T.n) (.bool T.flag) vn vm vk) (.slice (some ⟨x2.heap.size, 0, none⟩) m m) (zs.set i T)) := fun W T vn vm vk hb hp => by
              have h := ArgS.put (E := fun b => b = x2.heap.size) (g := x2.heap.size) (o := 0) (c := m) rfl (by rw [hzl]; exact HXA.out.kept hb) hp i hzi
              rw [hzl, Nat.zero_add] at h
              exact h
            have HXS : Hid (∀ t, Ext ys (zs.set i t)) := ext_set HXE.out hzi hk0
            rw [hk0] at e0
            have hsz : x2.heap.size < wr.heap.size := (Array.getElem?_eq_some_iff.1 hbk).1
            clear hlz hbk hk0
            go_wp2_with (first
              | (go_at_call 12; refine (make_v0 15).mono ?_; intro e x5 hq; obtain ⟨T5, an5, cn5, am5, cm5, ak5, ck5, rfl, hT, hP⟩ := hq.ex; have HT5 : Hid (T5 = mkT 15 []) := hT; have HP5 : Hid (Prt (fun b => wr.heap.size ≤ b) x5 T5 (.slice an5 T5.names.length cn5) (.slice am5 T5.marks.length cm5) (.slice ak5 T5.kids.length ck5)) := hP; have HB5 : Hid (Below wr.heap.size wr x5) := hq.bl; clear hq hT hP)
              | (go_at_call 11; refine (param_v i (by omega) HP5.out).mono ?_; intro e x6 hq; obtain ⟨T6, an6, cn6, am6, cm6, ak6, ck6, rfl, hT, hP⟩ := hq.ex; have HT6 : Hid (∃ nm, T6 = .mk 9 nm (i : Int) false [] [] [T5]) := hT; have hb6 : Below wr.heap.size wr x6 := bthen HB5.out hq.bl; have HP6 : Hid (Prt (fun b => ¬ b = x2.heap.size) x6 T6 (.slice an6 T6.names.length cn6) (.slice am6 T6.marks.length cm6) (.slice ak6 T6.kids.length ck6)) := hP.with (fun b _ h => by have := HB5.out.size; omega); have HB6 : Hid (Below wr.heap.size wr x6) := hb6; have hk6 := blk_kept hb6 HBC.out; have f0 := frz7 hk6 (i * 7); have f1 := frz7 hk6 (i * 7 + 1); have f2 := frz7 hk6 (i * 7 + 2); have f3 := frz7 hk6 (i * 7 + 3); have f4 := frz7 hk6 (i * 7 + 4); have f5 := frz7 hk6 (i * 7 + 5); have f6 := frz7 hk6 (i * 7 + 6); obtain ⟨g0, g1, g2, g3, g4, g5, g6⟩ := HE0.out x6 hb6; have HK6 : Hid (x6.heap[x2.heap.size]? = some (.cells cs 26 (0, 0))) := hk6; clear hq hT hP hb6 hk6))
            have HF6 : Hid (Fit T6 ∧ T6.cnt ≤ 60) := by
              obtain ⟨nm, e6⟩ := HT6.out
              have e5 := HT5.out
              subst e5
              subst e6
              exact ⟨.mk _ (by simp [Ty.names]) (by simp [Ty.marks]) (fun x hx => by
                have : x = mkT 15 [] := by simpa [Ty.kids] using hx
                rw [this]; exact fit_mk (fun x hx => by cases hx)), by simp [Ty.cnt, cntL, mkT]⟩
            go_roundg (m - (i + 1))
            case measure => omega
            case rel => exact ⟨i + 1, zs.set i T6, by omega, Nat.le_refl _, by go_num, (HXK.out.than HB6.out).trans kx_set7k, HPU.out _ _ _ _ _ HB6.out HP6.out, (fun t ht => by
              rcases List.mem_or_eq_of_mem_set ht with h | rfl
              · exact HXC.out t h
              · exact HF6.out), HXS.out _⟩
          · have k0 := int_bne hk0
            generalize (zs[i]).kind = kz at *
            clear hlz hbk hk0
            go_wp2_with fail
            go_roundg (m - (i + 1))
            case measure => omega
            case rel => exact ⟨i + 1, zs, by omega, Nat.le_refl _, by go_num, HXK.out, HXA.out, HXC.out, HXE.out⟩
        · have z1 : ¬ (i : Int) < (m : Int) := by omega
          have hgn : w.heap.size + 2 ≤ g := HB4.out.2.1
          have HN1 : Hid (bx T1 (.slice an1 T1.names.length cn1) (.slice am1 T1.marks.length cm1) (.slice ak1 T1.kids.length ck1) w.heap.size wr) := HM1.out.kx HXK.out (by omega)
          have HN2 : Hid (bx T2 (.slice an2 T2.names.length cn2) (.slice am2 T2.marks.length cm2) (.slice ak2 T2.kids.length ck2) (w.heap.size + 1) wr) := HM2.out.kx HXK.out (by omega)
          have HC5 : Hid (Below w.heap.size w wr) := below_kx1 HC4.out HXK.out (by omega)
          have HKP : Hid (∀ W, Below wr.heap.size wr W → W.cell? ⟨w.heap.size, 0, none⟩ = some (.int .i64 T1.kind) ∧ W.cell? ⟨w.heap.size, 1, none⟩ = some (.string T1.name) ∧ W.cell? ⟨w.heap.size, 2, none⟩ = some (.int .i64 T1.n) ∧ W.cell? ⟨w.heap.size, 3, none⟩ = some (.bool T1.flag) ∧ W.cell? ⟨w.heap.size, 4, none⟩ = some (.slice an1 T1.names.length cn1) ∧ W.cell? ⟨w.heap.size, 5, none⟩ = some (.slice am1 T1.marks.length cm1) ∧ W.cell? ⟨w.heap.size, 6, none⟩ = some (.slice ak1 T1.kids.length ck1) ∧ W.cell? ⟨w.heap.size + 1, 0, none⟩ = some (.int .i64 T2.kind) ∧ W.cell? ⟨w.heap.size + 1, 1, none⟩ = some (.string T2.name) ∧ W.cell? ⟨w.heap.size + 1, 2, none⟩ = some (.int .i64 T2.n) ∧ W.cell? ⟨w.heap.size + 1, 3, none⟩ = some (.bool T2.flag) ∧ W.cell? ⟨w.heap.size + 1, 4, none⟩ = some (.slice an2 T2.names.length cn2) ∧ W.cell? ⟨w.heap.size + 1, 5, none⟩ = some (.slice am2 T2.marks.length cm2) ∧ W.cell? ⟨w.heap.size + 1, 6, none⟩ = some (.slice ak2 T2.kids.length ck2)) := fun W h => by
            obtain ⟨s0, s1, s2, s3, s4, s5, s6⟩ := bx7 (HN1.out.kept h)
            obtain ⟨r0, r1, r2, r3, r4, r5, r6⟩ := bx7 (HN2.out.kept h)
            exact ⟨s0, s1, s2, s3, s4, s5, s6, r0, r1, r2, r3, r4, r5, r6⟩
          have kS := HKP.out wr (Below.refl _ _)
          have HSB : Hid (∀ W, Below wr.heap.size wr W → Calls Try.prog 14 #[.agg #[.int .i64 T1.kind, .string T1.name, .int .i64 T1.n, .bool T1.flag, .slice an1 T1.names.length cn1, .slice am1 T1.marks.length cm1, .slice ak1 T1.kids.length ck1], .slice (some ⟨x2.heap.size, 0, none⟩) m m] W (TyV W (fun b => W.heap.size ≤ b) (fun T => T = T1.sbc zs))) := fun W h => subst_v (HP1.out.kept (bthen HC5.out h)) HF.out.1 (by have := HCN.out.1; omega) (HXA.out.kept h).read (fun x hx => ⟨(HXC.out x hx).1, by have := (HXC.out x hx).2; omega⟩)
          have HIE : Hid (∀ (W : World) (T7 : Ty) un um uk, Below wr.heap.size wr W → T7 = T1.sbc zs → Prt (fun _ => True) W T7 un um uk → Calls Try.prog 13 #[agT T7 un um uk, .agg #[.int .i64 T2.kind, .string T2.name, .int .i64 T2.n, .bool T2.flag, .slice an2 T2.names.length cn2, .slice am2 T2.marks.length cm2, .slice ak2 T2.kids.length ck2]] W fun e w' => e = .returned (.bool true) ∧ Below W.heap.size W w') := fun W T7 un um uk h e hp => by
            have h1 := idn_any hp (HP2.out.kept (bthen HC5.out h)) (by rw [e]; have := sbc_cnt zs (fun x hx => (HXC.out x hx).2) T1; have := HCN.out.1; omega)
            rw [e] at h1
            rw [HBK2.out zs HXE.out] at h1
            rw [e]
            exact h1
          unfold agT at HIE
          clear hgn
          go_wp2_with fail
          refine wp_region_held_drew (S := fun w' => w'.cell? ⟨w.heap.size, 0, none⟩ = some (.int .i64 T1.kind) ∧ w'.cell? ⟨w.heap.size, 1, none⟩ = some (.string T1.name) ∧ w'.cell? ⟨w.heap.size, 2, none⟩ = some (.int .i64 T1.n) ∧ w'.cell? ⟨w.heap.size, 3, none⟩ = some (.bool T1.flag) ∧ w'.cell? ⟨w.heap.size, 4, none⟩ = some (.slice an1 T1.names.length cn1) ∧ w'.cell? ⟨w.heap.size, 5, none⟩ = some (.slice am1 T1.marks.length cm1) ∧ w'.cell? ⟨w.heap.size, 6, none⟩ = some (.slice ak1 T1.kids.length ck1) ∧ w'.cell? ⟨w.heap.size + 1, 0, none⟩ = some (.int .i64 T2.kind) ∧ w'.cell? ⟨w.heap.size + 1, 1, none⟩ = some (.string T2.name) ∧ w'.cell? ⟨w.heap.size + 1, 2, none⟩ = some (.int .i64 T2.n) ∧ w'.cell? ⟨w.heap.size + 1, 3, none⟩ = some (.bool T2.flag) ∧ w'.cell? ⟨w.heap.size + 1, 4, none⟩ = some (.slice an2 T2.names.length cn2) ∧ w'.cell? ⟨w.heap.size + 1, 5, none⟩ = some (.slice am2 T2.marks.length cm2) ∧ w'.cell? ⟨w.heap.size + 1, 6, none⟩ = some (.slice ak2 T2.kids.length ck2)) (by kernel_rfl) (by exact kS) (fun hHeld => ?_)
          clear hHeld
          refine wpAnyH_take (i := 0) (oi := { dst := some 52, op := Op.load 26 (Operand.tmp 3), type := 26, pos := "law.go:130", after := #[], guard := none }) (v := ?_) rfl (by kernel_rfl) (by kernel_rfl) (by kernel_rfl) (fun _ _ _ h => h) (Or.inl ⟨by rfl, ?_⟩) (by exact kS) ?_
          rotate_left
          · intro w hSw; (try dsimp only at hSw); (go_simp <;> with_reducible rfl)
          try simp only [Act.put, List.setIfInBounds_toArray, List.set_cons_zero, List.set_cons_succ]
          refine wpAnyH_take (i := 1) (oi := { dst := some 53, op := Op.move (Operand.tmp 7), type := 24, pos := "law.go:130", after := #[], guard := none }) (v := ?_) rfl (by kernel_rfl) (by kernel_rfl) (by kernel_rfl) (fun _ _ _ h => h) (Or.inl ⟨by rfl, ?_⟩) (by exact kS) ?_
          rotate_left
          · intro w hSw; (try dsimp only at hSw); (go_simp <;> with_reducible rfl)
          try simp only [Act.put, List.setIfInBounds_toArray, List.set_cons_zero, List.set_cons_succ]
          refine wpAnyH_take (i := 3) (oi := { dst := some 55, op := Op.load 26 (Operand.tmp 4), type := 26, pos := "law.go:130", after := #[], guard := none }) (v := ?_) rfl (by kernel_rfl) (by kernel_rfl) (by kernel_rfl) (fun _ _ _ h => h) (Or.inl ⟨by rfl, ?_⟩) (by exact kS) ?_
          rotate_left
          · intro w hSw; (try dsimp only at hSw); (go_simp <;> with_reducible rfl)
          try simp only [Act.put, List.setIfInBounds_toArray, List.set_cons_zero, List.set_cons_succ]
          refine wpAnyH_ready (rs := [2]) (by kernel_rfl) (by simp) ?_
          refine AllReadyH.cons (o := { dst := some 54, op := Op.call { callee := Callee.value (Operand.func 14), args := #[Operand.tmp 52, Operand.tmp 53], argTypes := #[26, 24] }, type := 26, pos := "law.go:130", after := #[{ on := 0, ground := Ground.data }, { on := 1, ground := Ground.data }], guard := none }) rfl (fun K hK => ?_) AllReadyH.nil
          go_simp
          go_at_call 14; refine (HSB.out _ (below_drew1 _)).mono ?_; intro e x7 hq; obtain ⟨T7, an7, cn7, am7, cm7, ak7, ck7, rfl, hT, hP⟩ := hq.ex; have HT7 : Hid (T7 = T1.sbc zs) := hT; have HP7 : Hid (Prt (fun _ => True) x7 T7 (.slice an7 T7.names.length cn7) (.slice am7 T7.marks.length cm7) (.slice ak7 T7.kids.length ck7)) := hP.with (fun _ _ _ => trivial); have HB7 : Hid (Below wr.heap.size wr x7) := bthen (below_drew1 _) hq.bl; have kS := HKP.out x7 HB7.out; clear hq hT hP
          go_wp2_with fail
          refine hK.out _ _ (by exact kS) (fun hHeld => ?_)
          clear hK K hHeld
          try simp only [Act.put, List.setIfInBounds_toArray, List.set_cons_zero, List.set_cons_succ]
          refine wpAnyH_ready (rs := [4]) (by kernel_rfl) (by simp) ?_
          refine AllReadyH.cons (o := { dst := some 56, op := Op.call { callee := Callee.value (Operand.func 13), args := #[Operand.tmp 54, Operand.tmp 55], argTypes := #[26, 26] }, type := 4, pos := "law.go:130", after := #[{ on := 2, ground := Ground.data }, { on := 3, ground := Ground.data }, { on := 2, ground := Ground.chain }], guard := none }) rfl (fun K hK => ?_) AllReadyH.nil
          go_simp
          go_at_call 13; refine (HIE.out x7 T7 _ _ _ HB7.out HT7.out HP7.out).mono ?_; rintro e x8 ⟨rfl, hb8⟩; have HB8 : Hid (Below wr.heap.size wr x8) := bthen HB7.out hb8; have kS := HKP.out x8 HB8.out; clear hb8
          go_wp2_with fail
          refine hK.out _ _ (by exact kS) (fun hHeld => ?_)
          clear hK K hHeld
          try simp only [Act.put, List.setIfInBounds_toArray, List.set_cons_zero, List.set_cons_succ]
          refine wpAnyH_take (i := 5) (oi := { dst := some 57, op := Op.move (Operand.tmp 56), type := 4, pos := "law.go:130", after := #[{ on := 4, ground := Ground.data }, { on := 4, ground := Ground.chain }], guard := none }) (v := ?_) rfl (by kernel_rfl) (by kernel_rfl) (by kernel_rfl) (fun _ _ _ h => h) (Or.inl ⟨by rfl, ?_⟩) (by exact kS) ?_
          rotate_left
          · intro w hSw; (try dsimp only at hSw); (go_simp <;> with_reducible rfl)
          try simp only [Act.put, List.setIfInBounds_toArray, List.set_cons_zero, List.set_cons_succ]
          refine wpAnyH_ready (rs := [6]) (by kernel_rfl) (by simp) ?_
          refine AllReadyH.cons (o := { dst := some 58, op := Op.call { callee := Callee.value (Operand.func 6), args := #[], argTypes := #[] }, type := 4, pos := "law.go:130", after := #[{ on := 5, ground := Ground.chain }, { on := 5, ground := Ground.guard }], guard := some (5, true) }) rfl (fun K hK => ?_) AllReadyH.nil
          go_simp
          go_at_call 6; refine (awake_any _).mono ?_; rintro e x9 ⟨rfl, hb9⟩; have HB9 : Hid (Below wr.heap.size wr x9) := bthen HB8.out hb9; have kS := HKP.out x9 HB9.out; clear hb9
          go_wp2_with fail
          refine hK.out _ _ (by exact kS) (fun hHeld => ?_)
          clear hK K hHeld
          try simp only [Act.put, List.setIfInBounds_toArray, List.set_cons_zero, List.set_cons_succ]
          refine wpAnyH_take (i := 7) (oi := { dst := some 59, op := Op.pick (Operand.tmp 57) (Operand.tmp 58) (Operand.const (Value.bool false)), type := 4, pos := "law.go:130", after := #[{ on := 5, ground := Ground.data }, { on := 6, ground := Ground.data }], guard := none }) (v := ?_) rfl (by kernel_rfl) (by kernel_rfl) (by kernel_rfl) (fun _ _ _ h => h) (Or.inl ⟨by rfl, ?_⟩) (by exact kS) ?_
          rotate_left
          · intro w hSw; (try dsimp only at hSw); (go_simp <;> with_reducible rfl)
          try simp only [Act.put, List.setIfInBounds_toArray, List.set_cons_zero, List.set_cons_succ]
          refine wpAnyH_take (i := 8) (oi := { dst := some 6, op := Op.assign (Operand.tmp 59), type := 4, pos := "law.go:130", after := #[{ on := 7, ground := Ground.data }, { on := 6, ground := Ground.chain }, { on := 0, ground := Ground.phase }, { on := 1, ground := Ground.phase }, { on := 2, ground := Ground.phase }, { on := 3, ground := Ground.phase }, { on := 4, ground := Ground.phase }, { on := 5, ground := Ground.phase }, { on := 6, ground := Ground.phase }, { on := 7, ground := Ground.phase }], guard := none }) (v := ?_) rfl (by kernel_rfl) (by kernel_rfl) (by kernel_rfl) (fun _ _ _ h => h) (Or.inl ⟨by rfl, ?_⟩) (by exact kS) ?_
          rotate_left
          · intro w hSw; (try dsimp only at hSw); (go_simp <;> with_reducible rfl)
          try simp only [Act.put, List.setIfInBounds_toArray, List.set_cons_zero, List.set_cons_succ]
          refine wpAnyH_done (by kernel_rfl) ?_ _
          go_wp2_with fail
          go_ret
          exact ⟨rfl, bthen HC5.out HB9.out⟩
end Go.Proofs.Ytcmnhkopmkaiaaa

