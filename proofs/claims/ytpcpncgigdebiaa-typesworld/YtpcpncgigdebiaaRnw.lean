/-
  The document's New, walked.
-/
import Derived.Test.YtpcpncgigdebiaaJaK
namespace Go.Proofs.Ytpcpncgigdebiaa
open Go.RowKit
attribute [local go_sem ↓] Go.wp_at_zero Go.wp_at_succ
/-- what the document's New answers -/
structure RnQ (w : World) (l : List Nmd) (e : Ending) (w' : World) : Prop where
  bl : Below w.heap.size w w'
  ex : (¬ (l.map Nmd.name).Nodup ∧ e = .returned (.tuple #[.pointer none, .int .i64 1])) ∨
    ((l.map Nmd.name).Nodup ∧ (∃ a ∈ l.map Nmd.name, Rch (Hf l) a a) ∧ e = .returned (.tuple #[.pointer none, .int .i64 1])) ∨
    ((l.map Nmd.name).Nodup ∧ ¬ (∃ a ∈ l.map Nmd.name, Rch (Hf l) a a) ∧ l.all (Nmd.clo (l.map Nmd.name)) = false ∧ e = .returned (.tuple #[.pointer none, .int .i64 4])) ∨
    ((l.map Nmd.name).Nodup ∧ ¬ (∃ a ∈ l.map Nmd.name, Rch (Hf l) a a) ∧ l.all (Nmd.clo (l.map Nmd.name)) = true ∧ ∃ V, e = .returned (.tuple #[.pointer (some ⟨V, 0, none⟩), .int .i64 0]) ∧ W8S (fun _ => True) w' V l)
set_option maxRecDepth 100000 in
theorem run_mkb (a : Nat) (h : a ≤ 1000) (W : World) : (Instr.makeSlice 24 (.int .i64 a) (.int .i64 a)).run Try.prog W = .ok (.slice (some ⟨W.heap.size, 0, none⟩) a a) (W.alloc (.cells (mtA (List.replicate a false)) 4)) := by
  obtain ⟨i, h1, h2, h3, h4⟩ : ∃ i0, Try.prog.info? 4 = some i0 ∧ i0.zero = some (.bool false) ∧ i0.size = 1 ∧ i0.bytes = 1 := ⟨_, rfl, rfl, rfl, rfl⟩
  have := run_make (P := Try.prog) W 24 4 i (.bool false) Try.underlying24 h1 h2 .i64 .i64 a a (by omega) (Int.le_refl _) (by rw [h4]; omega) (by omega)
  rw [this, h3]
  have e : madeCells (Value.bool false).cells a = mtA (List.replicate a false) := by
    unfold mtA madeCells
    apply Array.ext
    · simp [Value.cells]
    · intro i h1 h2
      simp [Value.cells, Nat.mod_one]
  simp [e]
theorem all_take {l : List Nmd} {p : Nmd → Bool} {i : Nat} (hi : i < l.length) : (l.take (i + 1)).all p = ((l.take i).all p && p l[i]) := by
  rw [List.take_succ_eq_append_getElem hi, List.all_append]
  simp
theorem mall_take {l : List Mth} {p : Mth → Bool} {i : Nat} (hi : i < l.length) : (l.take (i + 1)).all p = ((l.take i).all p && p l[i]) := by
  rw [List.take_succ_eq_append_getElem hi, List.all_append]
  simp
theorem all_false {l : List Nmd} {p : Nmd → Bool} {i : Nat} (hi : i < l.length) (h : p l[i] = false) : l.all p = false := by
  rw [List.all_eq_false]
  exact ⟨l[i], List.getElem_mem hi, by simp [h]⟩
theorem SlM.open {B : BQ} {W : World} {v : Value} {l : List Mth} (h : SlM B W v l) : ∃ a c, v = .slice a l.length c ∧ (l.length : Int) ≤ 9223372036854775807 ∧ ∀ i (hi : i < l.length), ∃ b o, a = some ⟨b, o, none⟩ ∧ b < W.heap.size ∧ (l[i]).lies B W b (o + i * 9) := by
  rcases h with ⟨a, c, rfl, rfl⟩ | ⟨b, o, c, rfl, h2, h3, h4, h5⟩
  · exact ⟨a, c, rfl, by simp, fun i hi => by cases hi⟩
  · exact ⟨_, c, rfl, h2, fun i hi => ⟨b, o, rfl, h3, h5 i hi⟩⟩
set_option maxRecDepth 100000 in
set_option maxHeartbeats 16000000 in
theorem rnew_any {w : World} {v : Value} {l : List Nmd} (h : SlN (fun b => b < w.heap.size) w v l) (hl : l.length ≤ 1000) : Calls Try.prog 8 #[v] w (RnQ w l) := by
  obtain ⟨a, c, rfl, _, _⟩ := h.open
  have HSL : Hid (SlN (fun b => b < w.heap.size) w (.slice a l.length c) l) := h
  have HS0 : Hid (RnS w (l.take 0) (.slice none 0 0) (w.alloc (.cells #[.slice none 0 0] 60)) ∧ ((l.take 0).map Nmd.name).Nodup) := ⟨⟨below_alloc _ _, heap_new _ _, [], rfl, World.ownsRow_nil _ _ _ _, fun i hi => by simp at hi⟩, by simp⟩
  obtain ⟨i0, j1, j2, j3, j4⟩ := infoD_ex
  have HIT : Hid (Try.prog.info? 40 = some i0 ∧ i0.zero = some (.agg #[.string ⟨#[]⟩, .int .i64 0, .string ⟨#[]⟩, .int .i64 0, .bool false, .slice none 0 0, .slice none 0 0, .slice none 0 0, .slice none 0 0]) ∧ i0.size = 9 ∧ i0.bytes = 152) := ⟨j1, j2, j3, j4⟩
  clear h j1 j2 j3 j4
  go_enter Try.func8, Try.ntmps8
  go_wp2_with fail
  go_loopg [5] l.length (fun g u5 wr => ∃ (i : Nat) (ua : Option Addr) (uc : Nat), i ≤ l.length ∧ l.length - i ≤ g ∧ u5 = .int .i64 i ∧ Hid (RnS w (l.take i) (.slice ua i uc) wr ∧ ((l.take i).map Nmd.name).Nodup))
  case atStart => exact ⟨0, none, 0, Nat.zero_le _, Nat.le_refl _, rfl, HS0⟩
  case round =>
    clear HS0
    obtain ⟨i, ua, uc, hi, hg, rfl, HX⟩ := hrel
    have hti : (l.take i).length = i := by simp; omega
    have x0 := cell_of HX.out.1.bx 0
    have x0 : wr.cell? ⟨w.heap.size, 0, none⟩ = some (.slice ua i uc) := x0
    have vw : w.heap.size < wr.heap.size := World.block_lt_of_cell? _ _ x0
    by_cases hlt : i < l.length
    · have z1 : (i : Int) < (l.length : Int) := by omega
      have z0 : (0 : Int) ≤ (i : Int) := by omega
      obtain ⟨a', c', e, _, hx⟩ := (HSL.out.kept HX.out.1.bl).open
      obtain ⟨rfl, rfl⟩ : a = a' ∧ c = c' := by simpa using e
      obtain ⟨b, o, rfl, hbl, _, hli⟩ := hx i hlt
      obtain ⟨k0, hun, xs, k8, hms⟩ := hli
      obtain ⟨k1, k2, k3, k4, xn, xm, xk, k5, k6, k7, hpr⟩ := lies_iff.1 hun
      have hnp : NmP (fun b => b < w.heap.size) wr (l[i]) xn xm xk xs := ⟨hpr, hms⟩
      obtain ⟨a1, c1, a2, c2, a3, c3, a4, c4, rfl, rfl, rfl, rfl⟩ := hnp.form
      have q1 : wr.cell? ⟨b, o + i * 9 + 1, none⟩ = some (.int .i64 (l[i]).under.kind) := k1
      have q2 : wr.cell? ⟨b, o + i * 9 + 2, none⟩ = some (.string (l[i]).under.name) := k2
      have q3 : wr.cell? ⟨b, o + i * 9 + 3, none⟩ = some (.int .i64 (l[i]).under.n) := k3
      have q4 : wr.cell? ⟨b, o + i * 9 + 4, none⟩ = some (.bool (l[i]).under.flag) := k4
      have q5 : wr.cell? ⟨b, o + i * 9 + 5, none⟩ = some (.slice a1 (l[i]).under.names.length c1) := k5
      have q6 : wr.cell? ⟨b, o + i * 9 + 6, none⟩ = some (.slice a2 (l[i]).under.marks.length c2) := k6
      have q7 : wr.cell? ⟨b, o + i * 9 + 7, none⟩ = some (.slice a3 (l[i]).under.kids.length c3) := k7
      clear k1 k2 k3 k4 k5 k6 k7 hun hpr hms hx e
      have hfd := rfind_any (HX.out.1.w8 (by rw [hti]; omega)) (l[i]).name
      by_cases hf : fnd (l.take i) (l[i]).name < 0
      · have hno : (l[i]).name ∉ (l.take i).map Nmd.name := fun hm => by have := (fnd_mem _ _).1 hm; omega
        have HND : Hid (((l.take (i + 1)).map Nmd.name).Nodup) := by
          show List.Nodup _
          rw [List.take_succ_eq_append_getElem hlt, List.map_append, List.nodup_append]
          refine ⟨HX.out.2, by simp, fun x hx y hy => ?_⟩
          have : y = (l[i]).name := by simpa using hy
          subst this
          exact fun e => hno (e ▸ hx)
        have hf2 : decide (0 ≤ fnd (l.take i) (l[i]).name) = false := by simpa using hf
        generalize fnd (l.take i) (l[i]).name = r at hfd hf hf2
        obtain ⟨vs, hvl, hown, hsv⟩ := HX.out.1.ex
        have hul : ∀ k, (Value.slice ua i uc).ownBlock = some k → w.heap.size + 1 ≤ k ∧ k < wr.heap.size := hown.lt
        rw [hti] at hown
        have HOW : Hid (wr.ownsRow (w.heap.size + 1) 40 9 (.slice ua i uc) i (flatN (l.take i) vs)) := hown
        have hneR : (Value.slice ua i uc).ownBlock ≠ some w.heap.size := fun e => by have := (hul _ e).1; omega
        have HST : Hid (∀ w1 w9 gg cap, Below wr.heap.size wr w1 → w1.grownBy w9 (Value.slice ua i uc).ownBlock → w9.ownsRow (w.heap.size + 1) 40 9 (.slice (some ⟨gg, 0, none⟩) (i + 1) cap) (i + 1) (flatN (l.take i) vs ++ celN l[i] ⟨⟨.slice a1 (l[i]).under.names.length c1, .slice a2 (l[i]).under.marks.length c2, .slice a3 (l[i]).under.kids.length c3⟩, .slice a4 (l[i]).mths.length c4⟩) → RnS w (l.take (i + 1)) (.slice (some ⟨gg, 0, none⟩) (i + 1) cap) (w9.setCell ⟨w.heap.size, 0, none⟩ (.slice (some ⟨gg, 0, none⟩) (i + 1) cap))) := fun w1 w9 gg cap hb1 hg ho => by
          have hp := HX.out.1.push (y := l[i]) (gg := gg) (cap := cap) (w1 := w1) (w9 := w9) hvl hsv hul hnp hb1 hg (by rw [hti]; exact ho)
          rw [hti] at hp
          rw [List.take_succ_eq_append_getElem hlt]
          exact hp
        have fz0 : wr.frozen? ⟨w.heap.size, 0, none⟩ = false := by
          have := HX.out.1.bx
          simp [World.frozen?, this]
        have HLT : Hid (i < l.length) := hlt
        clear hown hsv hno hnp
        generalize hnn : l[i] = y at *
        go_wp2_with (go_at_call 24; refine hfd.mono ?_; rintro e w4 ⟨rfl, hw4⟩; subst hw4; clear hfd)
        go_region_law
          (refine step_append_lies _ (by rfl) _ _ _ (by rfl) (w.heap.size + 1) 40 i0 _ 9 152 Try.underlying22 HIT.out.1 HIT.out.2.1 HIT.out.2.2.1 HIT.out.2.2.2 rfl (by omega) (.slice ua i uc) i (flatN (l.take i) vs) (by rfl) (own_kept HOW.out (bthen (below_drew1 _) (below_alloc _ _))) ⟨w4.heap.size, 0, none⟩ 1 1 (celN y ⟨⟨.slice a1 y.under.names.length c1, .slice a2 y.under.marks.length c2, .slice a3 y.under.kids.length c3⟩, .slice a4 y.mths.length c4⟩) (by rfl) (by rfl) (World.news_of_block (heap_alloc_new w4.drew _)) (by simp [Value.oneCell', celN]) (by omega) (by unfold maxLen; omega) (by omega) (by simp; omega) (w4.heap.size + 1) (by simp) ?_; intro gg cap w9 hown1 hgrow hat hlt1; have HO9 : Hid _ := hown1; have HG9 : Hid _ := hgrow; have kk1 : w9.cell? ⟨w.heap.size, 0, none⟩ = some (.slice ua i uc) := (by rw [hgrow.cell_far ⟨w.heap.size, 0, none⟩ (by simp; omega) (Ne.symm hneR)]; exact kept_cell (bthen (below_alloc _ _) (below_drew1 _)) x0); have kk2 : w9.frozen? ⟨w.heap.size, 0, none⟩ = false := (by rw [hgrow.frozen_far ⟨w.heap.size, 0, none⟩ (by simp; omega) (Ne.symm hneR)]; exact frz_kx (X := fun _ => False) (Kx.of_whole (bthen (below_alloc _ _) (below_drew1 _))) fz0 vw (fun h => h)); clear hown1 hgrow hat)
        all_goals
          go_wp2_with fail
          go_roundg (l.length - (i + 1))
          case measure => omega
          case rel => exact ⟨i + 1, some ⟨gg, 0, none⟩, cap, by omega, Nat.le_refl _, by go_num, HST.out _ _ _ _ (bthen (below_alloc _ _) (below_drew1 _)) HG9.out HO9.out, HND.out⟩
      · have hme : (l[i]).name ∈ (l.take i).map Nmd.name := (fnd_mem _ _).2 (by omega)
        have HND : Hid (¬ (l.map Nmd.name).Nodup) := fun hn => nodup_take hlt hn hme
        have hge : 0 ≤ fnd (l.take i) (l[i]).name := by omega
        generalize fnd (l.take i) (l[i]).name = r at hfd hf hge
        clear hme hnp
        go_wp2_with (go_at_call 24; refine hfd.mono ?_; rintro e w4 ⟨rfl, hw4⟩; subst hw4; clear hfd)
        go_ret2
        exact ⟨HX.out.1.bl, .inl ⟨HND.out, rfl⟩⟩
    · have z1 : ¬ (i : Int) < (l.length : Int) := by omega
      have hil : i = l.length := by omega
      subst hil
      have htt : l.take l.length = l := List.take_length
      rw [htt] at HX
      obtain ⟨wa, hwa⟩ : ∃ wa, wa = wr := ⟨_, rfl⟩
      subst hwa
      have HV : Hid (W8S (fun _ => True) wa w.heap.size l ∧ (l.map Nmd.name).Nodup ∧ Below w.heap.size w wa) := ⟨HX.out.1.w8 (by omega), HX.out.2, HX.out.1.bl⟩
      have X0 : Hid (wa.cell? ⟨w.heap.size, 0, none⟩ = some (.slice ua l.length uc)) := x0
      have HMK : Hid (∀ W, (Instr.makeSlice 24 (.int .i64 l.length) (.int .i64 l.length)).run Try.prog W = .ok (.slice (some ⟨W.heap.size, 0, none⟩) l.length l.length) (W.alloc (.cells (mtA (List.replicate l.length false)) 4))) := run_mkb l.length hl
      clear HX HIT hti htt hi hg
      go_wp2_with fail
      go_loopg [6] l.length (fun g u6 wr => ∃ (i : Nat), i ≤ l.length ∧ l.length - i ≤ g ∧ u6 = .int .i64 i ∧ Hid (Below wa.heap.size wa wr ∧ ∀ j (hj : j < l.length), j < i → ¬ Rch (Hf l) (l[j]).name (l[j]).name))
      case atStart => exact ⟨0, Nat.zero_le _, Nat.le_refl _, rfl, Below.refl _ _, fun j hj h => by omega⟩
      case round =>
        obtain ⟨i, hi, hg, rfl, HX⟩ := hrel
        have x0 := kept_cell HX.out.1 X0.out
        have vw : w.heap.size < wr.heap.size := World.block_lt_of_cell? _ _ x0
        by_cases hlt : i < l.length
        · have z1 : (i : Int) < (l.length : Int) := by omega
          have z0 : (0 : Int) ≤ (i : Int) := by omega
          obtain ⟨v', hv', hsl⟩ := HV.out.1.kept HX.out.1
          have hvv : v' = .slice ua l.length uc := by rw [x0] at hv'; exact (Option.some.inj hv').symm
          subst hvv
          obtain ⟨a', c', e, _, hx⟩ := hsl.open
          obtain ⟨rfl, rfl⟩ : ua = a' ∧ uc = c' := by simpa using e
          obtain ⟨b, o, rfl, hbl, _, hli⟩ := hx i hlt
          obtain ⟨k0, hun, xs, k8, hms⟩ := hli
          obtain ⟨k1, k2, k3, k4, xn, xm, xk, k5, k6, k7, hpr⟩ := lies_iff.1 hun
          obtain ⟨a1, c1, a2, c2, a3, c3, rfl, rfl, rfl⟩ := hpr.form
          have q1 : wr.cell? ⟨b, o + i * 9 + 1, none⟩ = some (.int .i64 (l[i]).under.kind) := k1
          have q2 : wr.cell? ⟨b, o + i * 9 + 2, none⟩ = some (.string (l[i]).under.name) := k2
          have q3 : wr.cell? ⟨b, o + i * 9 + 3, none⟩ = some (.int .i64 (l[i]).under.n) := k3
          have q4 : wr.cell? ⟨b, o + i * 9 + 4, none⟩ = some (.bool (l[i]).under.flag) := k4
          have q5 : wr.cell? ⟨b, o + i * 9 + 5, none⟩ = some (.slice a1 (l[i]).under.names.length c1) := k5
          have q6 : wr.cell? ⟨b, o + i * 9 + 6, none⟩ = some (.slice a2 (l[i]).under.marks.length c2) := k6
          have q7 : wr.cell? ⟨b, o + i * 9 + 7, none⟩ = some (.slice a3 (l[i]).under.kids.length c3) := k7
          have HPR : Hid (Prt (fun _ => True) wr (l[i]).under (.slice a1 (l[i]).under.names.length c1) (.slice a2 (l[i]).under.marks.length c2) (.slice a3 (l[i]).under.kids.length c3)) := hpr
          have HW : Hid (W8S (fun _ => True) wr w.heap.size l) := HV.out.1.kept HX.out.1
          have hmi := List.getElem_mem hlt
          have hmn : (l[i]).name ∈ l.map Nmd.name := List.mem_map_of_mem hmi
          have hch := chain_det (HW.out.kept (below_drew1 wr)) HV.out.2.1 (by omega) hmn
          have hcc := chn_circle HV.out.2.1 hmn
          generalize chn l (l.length + 1) (l[i]).name = Q at hch hcc
          cases Q with
          | true =>
            have HC : Hid (∃ a ∈ l.map Nmd.name, Rch (Hf l) a a) := hcc rfl
            clear hun hpr hms hx e hsl k1 k2 k3 k4 k5 k6 k7 hcc hmi hmn
            go_wp2_with fail
            have HKP : Hid (∀ W', Below wr.heap.size wr W' → W'.cell? ⟨w.heap.size, 0, none⟩ = some (.slice (some ⟨b, o, none⟩) l.length uc) ∧ W'.cell? ⟨b, o + i * 9, none⟩ = some (.string (l[i]).name) ∧ W'.cell? ⟨b, o + i * 9 + 1, none⟩ = some (.int .i64 (l[i]).under.kind) ∧ W'.cell? ⟨b, o + i * 9 + 2, none⟩ = some (.string (l[i]).under.name) ∧ W'.cell? ⟨b, o + i * 9 + 3, none⟩ = some (.int .i64 (l[i]).under.n) ∧ W'.cell? ⟨b, o + i * 9 + 4, none⟩ = some (.bool (l[i]).under.flag) ∧ W'.cell? ⟨b, o + i * 9 + 5, none⟩ = some (.slice a1 (l[i]).under.names.length c1) ∧ W'.cell? ⟨b, o + i * 9 + 6, none⟩ = some (.slice a2 (l[i]).under.marks.length c2) ∧ W'.cell? ⟨b, o + i * 9 + 7, none⟩ = some (.slice a3 (l[i]).under.kids.length c3)) := fun W' hb => ⟨kept_cell hb x0, kept_cell hb k0, kept_cell hb q1, kept_cell hb q2, kept_cell hb q3, kept_cell hb q4, kept_cell hb q5, kept_cell hb q6, kept_cell hb q7⟩
            have kS := HKP.out wr (Below.refl _ _)
            refine wp_region_held_drew (S := fun w' => w'.cell? ⟨w.heap.size, 0, none⟩ = some (.slice (some ⟨b, o, none⟩) l.length uc) ∧ w'.cell? ⟨b, o + i * 9, none⟩ = some (.string (l[i]).name) ∧ w'.cell? ⟨b, o + i * 9 + 1, none⟩ = some (.int .i64 (l[i]).under.kind) ∧ w'.cell? ⟨b, o + i * 9 + 2, none⟩ = some (.string (l[i]).under.name) ∧ w'.cell? ⟨b, o + i * 9 + 3, none⟩ = some (.int .i64 (l[i]).under.n) ∧ w'.cell? ⟨b, o + i * 9 + 4, none⟩ = some (.bool (l[i]).under.flag) ∧ w'.cell? ⟨b, o + i * 9 + 5, none⟩ = some (.slice a1 (l[i]).under.names.length c1) ∧ w'.cell? ⟨b, o + i * 9 + 6, none⟩ = some (.slice a2 (l[i]).under.marks.length c2) ∧ w'.cell? ⟨b, o + i * 9 + 7, none⟩ = some (.slice a3 (l[i]).under.kids.length c3)) (by kernel_rfl) (by exact kS) (fun hHeld => ?_)
            clear hHeld
            refine wpAnyH_take (i := 0) (oi := { dst := some 48, op := Op.move (Operand.tmp 4), type := 35, pos := "types.go:281", after := #[], guard := none }) (v := ?_) rfl (by kernel_rfl) (by kernel_rfl) (by kernel_rfl) (fun _ _ _ h => h) (Or.inl ⟨by rfl, ?_⟩) (by exact kS) ?_
            rotate_left
            · intro w hSw; (try dsimp only at hSw); (go_simp <;> with_reducible rfl)
            try simp only [Act.put, List.setIfInBounds_toArray, List.set_cons_zero, List.set_cons_succ]
            refine wpAnyH_take (i := 1) (oi := { dst := some 49, op := Op.move (Operand.tmp 4), type := 35, pos := "types.go:281", after := #[], guard := none }) (v := ?_) rfl (by kernel_rfl) (by kernel_rfl) (by kernel_rfl) (fun _ _ _ h => h) (Or.inl ⟨by rfl, ?_⟩) (by exact kS) ?_
            rotate_left
            · intro w hSw; (try dsimp only at hSw); (go_simp <;> with_reducible rfl)
            try simp only [Act.put, List.setIfInBounds_toArray, List.set_cons_zero, List.set_cons_succ]
            refine wpAnyH_take (i := 2) (oi := { dst := some 50, op := Op.nilCheck (Operand.tmp 49), type := 0, pos := "types.go:281", after := #[{ on := 1, ground := Ground.data }], guard := none }) (v := ?_) rfl (by kernel_rfl) (by kernel_rfl) (by kernel_rfl) (fun _ _ _ h => h) (Or.inl ⟨by rfl, ?_⟩) (by exact kS) ?_
            rotate_left
            · intro w hSw; (try dsimp only at hSw); (go_simp <;> with_reducible rfl)
            try simp only [Act.put, List.setIfInBounds_toArray, List.set_cons_zero, List.set_cons_succ]
            refine wpAnyH_take (i := 3) (oi := { dst := some 51, op := Op.fieldAddr 60 (Operand.tmp 50) 0, type := 0, pos := "types.go:281", after := #[{ on := 2, ground := Ground.data }], guard := none }) (v := ?_) rfl (by kernel_rfl) (by kernel_rfl) (by kernel_rfl) (fun _ _ _ h => h) (Or.inl ⟨by rfl, ?_⟩) (by exact kS) ?_
            rotate_left
            · intro w hSw; (try dsimp only at hSw); (go_simp <;> with_reducible rfl)
            try simp only [Act.put, List.setIfInBounds_toArray, List.set_cons_zero, List.set_cons_succ]
            refine wpAnyH_take (i := 4) (oi := { dst := some 52, op := Op.load 22 (Operand.tmp 51), type := 22, pos := "types.go:281", after := #[{ on := 3, ground := Ground.data }], guard := none }) (v := ?_) rfl (by kernel_rfl) (by kernel_rfl) (by kernel_rfl) (fun _ _ _ h => h) (Or.inl ⟨by rfl, ?_⟩) (by exact kS) ?_
            rotate_left
            · intro w hSw; (try dsimp only at hSw); (go_simp <;> with_reducible rfl)
            try simp only [Act.put, List.setIfInBounds_toArray, List.set_cons_zero, List.set_cons_succ]
            refine wpAnyH_take (i := 5) (oi := { dst := some 53, op := Op.move (Operand.tmp 6), type := 3, pos := "types.go:281", after := #[], guard := none }) (v := ?_) rfl (by kernel_rfl) (by kernel_rfl) (by kernel_rfl) (fun _ _ _ h => h) (Or.inl ⟨by rfl, ?_⟩) (by exact kS) ?_
            rotate_left
            · intro w hSw; (try dsimp only at hSw); (go_simp <;> with_reducible rfl)
            try simp only [Act.put, List.setIfInBounds_toArray, List.set_cons_zero, List.set_cons_succ]
            refine wpAnyH_take (i := 6) (oi := { dst := some 54, op := Op.indexAddr 22 (Operand.tmp 52) (Operand.tmp 53), type := 0, pos := "types.go:281", after := #[{ on := 4, ground := Ground.data }, { on := 5, ground := Ground.data }], guard := none }) (v := ?_) rfl (by kernel_rfl) (by kernel_rfl) (by kernel_rfl) (fun _ _ _ h => h) (Or.inl ⟨by rfl, ?_⟩) (by exact kS) ?_
            rotate_left
            · intro w hSw; (try dsimp only at hSw); (go_simp <;> with_reducible rfl)
            try simp only [Act.put, List.setIfInBounds_toArray, List.set_cons_zero, List.set_cons_succ]
            refine wpAnyH_take (i := 7) (oi := { dst := some 55, op := Op.fieldAddr 40 (Operand.tmp 54) 0, type := 0, pos := "types.go:281", after := #[{ on := 6, ground := Ground.data }], guard := none }) (v := ?_) rfl (by kernel_rfl) (by kernel_rfl) (by kernel_rfl) (fun _ _ _ h => h) (Or.inl ⟨by rfl, ?_⟩) (by exact kS) ?_
            rotate_left
            · intro w hSw; (try dsimp only at hSw); (go_simp <;> with_reducible rfl)
            try simp only [Act.put, List.setIfInBounds_toArray, List.set_cons_zero, List.set_cons_succ]
            refine wpAnyH_take (i := 8) (oi := { dst := some 56, op := Op.load 9 (Operand.tmp 55), type := 9, pos := "types.go:281", after := #[{ on := 7, ground := Ground.data }], guard := none }) (v := ?_) rfl (by kernel_rfl) (by kernel_rfl) (by kernel_rfl) (fun _ _ _ h => h) (Or.inl ⟨by rfl, ?_⟩) (by exact kS) ?_
            rotate_left
            · intro w hSw; (try dsimp only at hSw); (go_simp <;> with_reducible rfl)
            try simp only [Act.put, List.setIfInBounds_toArray, List.set_cons_zero, List.set_cons_succ]
            refine wpAnyH_ready (rs := [9]) (by kernel_rfl) (by simp) ?_
            refine AllReadyH.cons (o := { dst := some 57, op := Op.call { callee := Callee.value (Operand.func 25), args := #[Operand.tmp 48, Operand.tmp 56], argTypes := #[35, 9] }, type := 4, pos := "types.go:281", after := #[{ on := 0, ground := Ground.data }, { on := 8, ground := Ground.data }], guard := none }) rfl (fun K hK => ?_) AllReadyH.nil
            go_simp
            go_at_call 25; refine hch.mono ?_; rintro e w5 ⟨rfl, hb5⟩; have HB5 : Hid (Below wr.heap.size wr w5) := bthen (below_drew1 _) hb5; have kS := HKP.out w5 HB5.out; clear hb5 hch
            go_wp2_with fail
            refine hK.out _ _ (by exact kS) (fun hHeld => ?_)
            clear hK K hHeld
            try simp only [Act.put, List.setIfInBounds_toArray, List.set_cons_zero, List.set_cons_succ]
            refine wpAnyH_take (i := 10) (oi := { dst := some 58, op := Op.move (Operand.tmp 57), type := 4, pos := "types.go:281", after := #[{ on := 9, ground := Ground.data }, { on := 9, ground := Ground.chain }], guard := none }) (v := ?_) rfl (by kernel_rfl) (by kernel_rfl) (by kernel_rfl) (fun _ _ _ h => h) (Or.inl ⟨by rfl, ?_⟩) (by exact kS) ?_
            rotate_left
            · intro w hSw; (try dsimp only at hSw); (go_simp <;> with_reducible rfl)
            try simp only [Act.put, List.setIfInBounds_toArray, List.set_cons_zero, List.set_cons_succ]
            refine wpAnyH_take (i := 11) (oi := { dst := some 59, op := Op.move (Operand.tmp 4), type := 35, pos := "types.go:281", after := #[{ on := 10, ground := Ground.guard }], guard := some (10, false) }) (v := undef) rfl (by kernel_rfl) (by kernel_rfl) (by kernel_rfl) (fun _ _ _ h => h) (Or.inr ⟨by rfl, rfl⟩) (by exact kS) ?_
            try simp only [Act.put, List.setIfInBounds_toArray, List.set_cons_zero, List.set_cons_succ]
            refine wpAnyH_take (i := 12) (oi := { dst := some 60, op := Op.move (Operand.tmp 4), type := 35, pos := "types.go:281", after := #[{ on := 10, ground := Ground.guard }], guard := some (10, false) }) (v := undef) rfl (by kernel_rfl) (by kernel_rfl) (by kernel_rfl) (fun _ _ _ h => h) (Or.inr ⟨by rfl, rfl⟩) (by exact kS) ?_
            try simp only [Act.put, List.setIfInBounds_toArray, List.set_cons_zero, List.set_cons_succ]
            refine wpAnyH_take (i := 13) (oi := { dst := some 61, op := Op.nilCheck (Operand.tmp 60), type := 0, pos := "types.go:281", after := #[{ on := 12, ground := Ground.data }, { on := 10, ground := Ground.guard }], guard := some (10, false) }) (v := undef) rfl (by kernel_rfl) (by kernel_rfl) (by kernel_rfl) (fun _ _ _ h => h) (Or.inr ⟨by rfl, rfl⟩) (by exact kS) ?_
            try simp only [Act.put, List.setIfInBounds_toArray, List.set_cons_zero, List.set_cons_succ]
            refine wpAnyH_take (i := 14) (oi := { dst := some 62, op := Op.fieldAddr 60 (Operand.tmp 61) 0, type := 0, pos := "types.go:281", after := #[{ on := 13, ground := Ground.data }, { on := 10, ground := Ground.guard }], guard := some (10, false) }) (v := undef) rfl (by kernel_rfl) (by kernel_rfl) (by kernel_rfl) (fun _ _ _ h => h) (Or.inr ⟨by rfl, rfl⟩) (by exact kS) ?_
            try simp only [Act.put, List.setIfInBounds_toArray, List.set_cons_zero, List.set_cons_succ]
            refine wpAnyH_take (i := 15) (oi := { dst := some 63, op := Op.load 22 (Operand.tmp 62), type := 22, pos := "types.go:281", after := #[{ on := 14, ground := Ground.data }, { on := 10, ground := Ground.guard }], guard := some (10, false) }) (v := undef) rfl (by kernel_rfl) (by kernel_rfl) (by kernel_rfl) (fun _ _ _ h => h) (Or.inr ⟨by rfl, rfl⟩) (by exact kS) ?_
            try simp only [Act.put, List.setIfInBounds_toArray, List.set_cons_zero, List.set_cons_succ]
            refine wpAnyH_take (i := 16) (oi := { dst := some 64, op := Op.move (Operand.tmp 6), type := 3, pos := "types.go:281", after := #[{ on := 10, ground := Ground.guard }], guard := some (10, false) }) (v := undef) rfl (by kernel_rfl) (by kernel_rfl) (by kernel_rfl) (fun _ _ _ h => h) (Or.inr ⟨by rfl, rfl⟩) (by exact kS) ?_
            try simp only [Act.put, List.setIfInBounds_toArray, List.set_cons_zero, List.set_cons_succ]
            refine wpAnyH_take (i := 17) (oi := { dst := some 65, op := Op.indexAddr 22 (Operand.tmp 63) (Operand.tmp 64), type := 0, pos := "types.go:281", after := #[{ on := 15, ground := Ground.data }, { on := 16, ground := Ground.data }, { on := 10, ground := Ground.guard }], guard := some (10, false) }) (v := undef) rfl (by kernel_rfl) (by kernel_rfl) (by kernel_rfl) (fun _ _ _ h => h) (Or.inr ⟨by rfl, rfl⟩) (by exact kS) ?_
            try simp only [Act.put, List.setIfInBounds_toArray, List.set_cons_zero, List.set_cons_succ]
            refine wpAnyH_take (i := 18) (oi := { dst := some 66, op := Op.fieldAddr 40 (Operand.tmp 65) 1, type := 0, pos := "types.go:281", after := #[{ on := 17, ground := Ground.data }, { on := 10, ground := Ground.guard }], guard := some (10, false) }) (v := undef) rfl (by kernel_rfl) (by kernel_rfl) (by kernel_rfl) (fun _ _ _ h => h) (Or.inr ⟨by rfl, rfl⟩) (by exact kS) ?_
            try simp only [Act.put, List.setIfInBounds_toArray, List.set_cons_zero, List.set_cons_succ]
            refine wpAnyH_take (i := 19) (oi := { dst := some 67, op := Op.load 27 (Operand.tmp 66), type := 27, pos := "types.go:281", after := #[{ on := 18, ground := Ground.data }, { on := 10, ground := Ground.guard }], guard := some (10, false) }) (v := undef) rfl (by kernel_rfl) (by kernel_rfl) (by kernel_rfl) (fun _ _ _ h => h) (Or.inr ⟨by rfl, rfl⟩) (by exact kS) ?_
            try simp only [Act.put, List.setIfInBounds_toArray, List.set_cons_zero, List.set_cons_succ]
            refine wpAnyH_take (i := 20) (oi := { dst := some 68, op := Op.move (Operand.tmp 4), type := 35, pos := "types.go:281", after := #[{ on := 10, ground := Ground.guard }], guard := some (10, false) }) (v := undef) rfl (by kernel_rfl) (by kernel_rfl) (by kernel_rfl) (fun _ _ _ h => h) (Or.inr ⟨by rfl, rfl⟩) (by exact kS) ?_
            try simp only [Act.put, List.setIfInBounds_toArray, List.set_cons_zero, List.set_cons_succ]
            refine wpAnyH_take (i := 21) (oi := { dst := some 69, op := Op.nilCheck (Operand.tmp 68), type := 0, pos := "types.go:281", after := #[{ on := 20, ground := Ground.data }, { on := 10, ground := Ground.guard }], guard := some (10, false) }) (v := undef) rfl (by kernel_rfl) (by kernel_rfl) (by kernel_rfl) (fun _ _ _ h => h) (Or.inr ⟨by rfl, rfl⟩) (by exact kS) ?_
            try simp only [Act.put, List.setIfInBounds_toArray, List.set_cons_zero, List.set_cons_succ]
            refine wpAnyH_take (i := 22) (oi := { dst := some 70, op := Op.fieldAddr 60 (Operand.tmp 69) 0, type := 0, pos := "types.go:281", after := #[{ on := 21, ground := Ground.data }, { on := 10, ground := Ground.guard }], guard := some (10, false) }) (v := undef) rfl (by kernel_rfl) (by kernel_rfl) (by kernel_rfl) (fun _ _ _ h => h) (Or.inr ⟨by rfl, rfl⟩) (by exact kS) ?_
            try simp only [Act.put, List.setIfInBounds_toArray, List.set_cons_zero, List.set_cons_succ]
            refine wpAnyH_take (i := 23) (oi := { dst := some 71, op := Op.load 22 (Operand.tmp 70), type := 22, pos := "types.go:281", after := #[{ on := 22, ground := Ground.data }, { on := 10, ground := Ground.guard }], guard := some (10, false) }) (v := undef) rfl (by kernel_rfl) (by kernel_rfl) (by kernel_rfl) (fun _ _ _ h => h) (Or.inr ⟨by rfl, rfl⟩) (by exact kS) ?_
            try simp only [Act.put, List.setIfInBounds_toArray, List.set_cons_zero, List.set_cons_succ]
            refine wpAnyH_take (i := 24) (oi := { dst := some 72, op := Op.move (Operand.tmp 6), type := 3, pos := "types.go:281", after := #[{ on := 10, ground := Ground.guard }], guard := some (10, false) }) (v := undef) rfl (by kernel_rfl) (by kernel_rfl) (by kernel_rfl) (fun _ _ _ h => h) (Or.inr ⟨by rfl, rfl⟩) (by exact kS) ?_
            try simp only [Act.put, List.setIfInBounds_toArray, List.set_cons_zero, List.set_cons_succ]
            refine wpAnyH_take (i := 25) (oi := { dst := some 73, op := Op.indexAddr 22 (Operand.tmp 71) (Operand.tmp 72), type := 0, pos := "types.go:281", after := #[{ on := 23, ground := Ground.data }, { on := 24, ground := Ground.data }, { on := 10, ground := Ground.guard }], guard := some (10, false) }) (v := undef) rfl (by kernel_rfl) (by kernel_rfl) (by kernel_rfl) (fun _ _ _ h => h) (Or.inr ⟨by rfl, rfl⟩) (by exact kS) ?_
            try simp only [Act.put, List.setIfInBounds_toArray, List.set_cons_zero, List.set_cons_succ]
            refine wpAnyH_take (i := 26) (oi := { dst := some 74, op := Op.fieldAddr 40 (Operand.tmp 73) 0, type := 0, pos := "types.go:281", after := #[{ on := 25, ground := Ground.data }, { on := 10, ground := Ground.guard }], guard := some (10, false) }) (v := undef) rfl (by kernel_rfl) (by kernel_rfl) (by kernel_rfl) (fun _ _ _ h => h) (Or.inr ⟨by rfl, rfl⟩) (by exact kS) ?_
            try simp only [Act.put, List.setIfInBounds_toArray, List.set_cons_zero, List.set_cons_succ]
            refine wpAnyH_take (i := 27) (oi := { dst := some 75, op := Op.load 9 (Operand.tmp 74), type := 9, pos := "types.go:281", after := #[{ on := 26, ground := Ground.data }, { on := 10, ground := Ground.guard }], guard := some (10, false) }) (v := undef) rfl (by kernel_rfl) (by kernel_rfl) (by kernel_rfl) (fun _ _ _ h => h) (Or.inr ⟨by rfl, rfl⟩) (by exact kS) ?_
            try simp only [Act.put, List.setIfInBounds_toArray, List.set_cons_zero, List.set_cons_succ]
            refine wpAnyH_take (i := 28) (oi := { dst := some 76, op := Op.move (Operand.tmp 4), type := 35, pos := "types.go:281", after := #[{ on := 10, ground := Ground.guard }], guard := some (10, false) }) (v := undef) rfl (by kernel_rfl) (by kernel_rfl) (by kernel_rfl) (fun _ _ _ h => h) (Or.inr ⟨by rfl, rfl⟩) (by exact kS) ?_
            try simp only [Act.put, List.setIfInBounds_toArray, List.set_cons_zero, List.set_cons_succ]
            refine wpAnyH_take (i := 29) (oi := { dst := some 77, op := Op.nilCheck (Operand.tmp 76), type := 0, pos := "types.go:281", after := #[{ on := 28, ground := Ground.data }, { on := 10, ground := Ground.guard }], guard := some (10, false) }) (v := undef) rfl (by kernel_rfl) (by kernel_rfl) (by kernel_rfl) (fun _ _ _ h => h) (Or.inr ⟨by rfl, rfl⟩) (by exact kS) ?_
            try simp only [Act.put, List.setIfInBounds_toArray, List.set_cons_zero, List.set_cons_succ]
            refine wpAnyH_take (i := 30) (oi := { dst := some 78, op := Op.fieldAddr 60 (Operand.tmp 77) 0, type := 0, pos := "types.go:281", after := #[{ on := 29, ground := Ground.data }, { on := 10, ground := Ground.guard }], guard := some (10, false) }) (v := undef) rfl (by kernel_rfl) (by kernel_rfl) (by kernel_rfl) (fun _ _ _ h => h) (Or.inr ⟨by rfl, rfl⟩) (by exact kS) ?_
            try simp only [Act.put, List.setIfInBounds_toArray, List.set_cons_zero, List.set_cons_succ]
            refine wpAnyH_take (i := 31) (oi := { dst := some 79, op := Op.load 22 (Operand.tmp 78), type := 22, pos := "types.go:281", after := #[{ on := 30, ground := Ground.data }, { on := 10, ground := Ground.guard }], guard := some (10, false) }) (v := undef) rfl (by kernel_rfl) (by kernel_rfl) (by kernel_rfl) (fun _ _ _ h => h) (Or.inr ⟨by rfl, rfl⟩) (by exact kS) ?_
            try simp only [Act.put, List.setIfInBounds_toArray, List.set_cons_zero, List.set_cons_succ]
            refine wpAnyH_take (i := 32) (oi := { dst := some 80, op := Op.call { callee := Callee.builtin Builtin.len, args := #[Operand.tmp 79], argTypes := #[22] }, type := 3, pos := "types.go:281", after := #[{ on := 31, ground := Ground.data }, { on := 10, ground := Ground.guard }], guard := some (10, false) }) (v := undef) rfl (by kernel_rfl) (by kernel_rfl) (by kernel_rfl) (fun _ _ _ h => h) (Or.inr ⟨by rfl, rfl⟩) (by exact kS) ?_
            try simp only [Act.put, List.setIfInBounds_toArray, List.set_cons_zero, List.set_cons_succ]
            refine wpAnyH_ready (rs := [33]) (by kernel_rfl) (by simp) ?_
            refine AllReadyH.cons (o := { dst := some 81, op := Op.makeSlice 24 (Operand.tmp 80) (Operand.tmp 80), type := 24, pos := "types.go:281", after := #[{ on := 32, ground := Ground.data }, { on := 32, ground := Ground.data }, { on := 10, ground := Ground.guard }], guard := some (10, false) }) rfl (fun K hK => ?_) AllReadyH.nil
            go_simp
            refine hK.out _ _ (by exact kS) (fun hHeld => ?_)
            clear hK K hHeld
            try simp only [Act.put, List.setIfInBounds_toArray, List.set_cons_zero, List.set_cons_succ]
            refine wpAnyH_ready (rs := [34]) (by kernel_rfl) (by simp) ?_
            refine AllReadyH.cons (o := { dst := some 82, op := Op.call { callee := Callee.value (Operand.func 26), args := #[Operand.tmp 59, Operand.tmp 67, Operand.tmp 75, Operand.tmp 81], argTypes := #[35, 27, 9, 24] }, type := 4, pos := "types.go:281", after := #[{ on := 11, ground := Ground.data }, { on := 19, ground := Ground.data }, { on := 27, ground := Ground.data }, { on := 33, ground := Ground.data }, { on := 10, ground := Ground.chain }, { on := 10, ground := Ground.guard }], guard := some (10, false) }) rfl (fun K hK => ?_) AllReadyH.nil
            go_simp
            refine hK.out _ _ (by exact kS) (fun hHeld => ?_)
            clear hK K hHeld
            try simp only [Act.put, List.setIfInBounds_toArray, List.set_cons_zero, List.set_cons_succ]
            refine wpAnyH_take (i := 35) (oi := { dst := some 83, op := Op.pick (Operand.tmp 58) (Operand.const (Value.bool true)) (Operand.tmp 82), type := 4, pos := "types.go:281", after := #[{ on := 10, ground := Ground.data }, { on := 34, ground := Ground.data }], guard := none }) (v := ?_) rfl (by kernel_rfl) (by kernel_rfl) (by kernel_rfl) (fun _ _ _ h => h) (Or.inl ⟨by rfl, ?_⟩) (by exact kS) ?_
            rotate_left
            · intro w hSw; (try dsimp only at hSw); (go_simp <;> with_reducible rfl)
            try simp only [Act.put, List.setIfInBounds_toArray, List.set_cons_zero, List.set_cons_succ]
            refine wpAnyH_done (by kernel_rfl) ?_ _
            go_wp2_with fail
            go_ret2
            exact ⟨bthen HV.out.2.2 (bthen HX.out.1 HB5.out), .inr (.inl ⟨HV.out.2.1, HC.out, rfl⟩)⟩
          | false =>
            have HHO : Hid (∀ w5, Below wr.heap.size wr w5 → Calls Try.prog 26 #[.pointer (some ⟨w.heap.size, 0, none⟩), agT (l[i]).under (.slice a1 (l[i]).under.names.length c1) (.slice a2 (l[i]).under.marks.length c2) (.slice a3 (l[i]).under.kids.length c3), .string (l[i]).name, .slice (some ⟨w5.heap.size, 0, none⟩) l.length l.length] (w5.alloc (.cells (mtA (List.replicate l.length false)) 4)) (fun e w' => ∃ q : Bool, e = .returned (.bool q) ∧ (q = true ↔ Rch (Hf l) (l[i]).name (l[i]).name) ∧ Below wr.heap.size wr w')) := fun w5 hb5 => by
              have hsz := hb5.size
              have hb6 := bthen hb5 (below_alloc w5 (.cells (mtA (List.replicate l.length false)) 4))
              have hw6 : W8S (fun b => b < w5.heap.size) (w5.alloc (.cells (mtA (List.replicate l.length false)) 4)) w.heap.size l := (w8_to (X := fun _ => False) HW.out (Kx.refl _ _) (fun h => h) (fun _ _ _ h => h) (fun b h _ => Nat.lt_of_lt_of_le h hsz)).kept hb6
              have hp6 := (HPR.out.with (B' := fun b => b < w5.heap.size) (fun b h _ => Nat.lt_of_lt_of_le h hsz)).kept hb6
              refine (holds_any (B := fun b => b < w5.heap.size) (V := w.heap.size) (M := w5.heap.size) (s := (l[i]).name) (by omega) (by show ¬ w5.heap.size < w5.heap.size; omega) HV.out.2.1 hmn (cntF (List.replicate l.length false)) (l[i]).under _ (List.replicate l.length false) _ _ _ (Nat.le_refl _) (by simp) hw6 hp6 (heap_new _ _)).mono ?_
              intro e w' hq
              obtain ⟨q, bs', rfl, _, hp⟩ := hq.ex
              exact ⟨q, rfl, hp.all HV.out.2.1 hmi (fun i h => by rw [List.getElem?_replicate] at h; split at h <;> simp at h), below_kx1 hb6 hq.kx (by omega)⟩
            have HNX : Hid (¬ Rch (Hf l) (l[i]).name (l[i]).name → ∀ j (hj : j < l.length), j < i + 1 → ¬ Rch (Hf l) (l[j]).name (l[j]).name) := fun h j hj hji => by
              by_cases e : j = i
              · subst e; exact h
              · exact HX.out.2 j hj (by omega)
            have HNC : Hid (Rch (Hf l) (l[i]).name (l[i]).name → ∃ a ∈ l.map Nmd.name, Rch (Hf l) a a) := fun h => ⟨_, hmn, h⟩
            have hmk := HMK.out
            unfold agT at HHO
            clear hun hpr hms hx e hsl k1 k2 k3 k4 k5 k6 k7 hcc hmi hmn
            go_wp2_with fail
            have HKP : Hid (∀ W', Below wr.heap.size wr W' → W'.cell? ⟨w.heap.size, 0, none⟩ = some (.slice (some ⟨b, o, none⟩) l.length uc) ∧ W'.cell? ⟨b, o + i * 9, none⟩ = some (.string (l[i]).name) ∧ W'.cell? ⟨b, o + i * 9 + 1, none⟩ = some (.int .i64 (l[i]).under.kind) ∧ W'.cell? ⟨b, o + i * 9 + 2, none⟩ = some (.string (l[i]).under.name) ∧ W'.cell? ⟨b, o + i * 9 + 3, none⟩ = some (.int .i64 (l[i]).under.n) ∧ W'.cell? ⟨b, o + i * 9 + 4, none⟩ = some (.bool (l[i]).under.flag) ∧ W'.cell? ⟨b, o + i * 9 + 5, none⟩ = some (.slice a1 (l[i]).under.names.length c1) ∧ W'.cell? ⟨b, o + i * 9 + 6, none⟩ = some (.slice a2 (l[i]).under.marks.length c2) ∧ W'.cell? ⟨b, o + i * 9 + 7, none⟩ = some (.slice a3 (l[i]).under.kids.length c3)) := fun W' hb => ⟨kept_cell hb x0, kept_cell hb k0, kept_cell hb q1, kept_cell hb q2, kept_cell hb q3, kept_cell hb q4, kept_cell hb q5, kept_cell hb q6, kept_cell hb q7⟩
            have kS := HKP.out wr (Below.refl _ _)
            refine wp_region_held_drew (S := fun w' => w'.cell? ⟨w.heap.size, 0, none⟩ = some (.slice (some ⟨b, o, none⟩) l.length uc) ∧ w'.cell? ⟨b, o + i * 9, none⟩ = some (.string (l[i]).name) ∧ w'.cell? ⟨b, o + i * 9 + 1, none⟩ = some (.int .i64 (l[i]).under.kind) ∧ w'.cell? ⟨b, o + i * 9 + 2, none⟩ = some (.string (l[i]).under.name) ∧ w'.cell? ⟨b, o + i * 9 + 3, none⟩ = some (.int .i64 (l[i]).under.n) ∧ w'.cell? ⟨b, o + i * 9 + 4, none⟩ = some (.bool (l[i]).under.flag) ∧ w'.cell? ⟨b, o + i * 9 + 5, none⟩ = some (.slice a1 (l[i]).under.names.length c1) ∧ w'.cell? ⟨b, o + i * 9 + 6, none⟩ = some (.slice a2 (l[i]).under.marks.length c2) ∧ w'.cell? ⟨b, o + i * 9 + 7, none⟩ = some (.slice a3 (l[i]).under.kids.length c3)) (by kernel_rfl) (by exact kS) (fun hHeld => ?_)
            clear hHeld
            refine wpAnyH_take (i := 0) (oi := { dst := some 48, op := Op.move (Operand.tmp 4), type := 35, pos := "types.go:281", after := #[], guard := none }) (v := ?_) rfl (by kernel_rfl) (by kernel_rfl) (by kernel_rfl) (fun _ _ _ h => h) (Or.inl ⟨by rfl, ?_⟩) (by exact kS) ?_
            rotate_left
            · intro w hSw; (try dsimp only at hSw); (go_simp <;> with_reducible rfl)
            try simp only [Act.put, List.setIfInBounds_toArray, List.set_cons_zero, List.set_cons_succ]
            refine wpAnyH_take (i := 1) (oi := { dst := some 49, op := Op.move (Operand.tmp 4), type := 35, pos := "types.go:281", after := #[], guard := none }) (v := ?_) rfl (by kernel_rfl) (by kernel_rfl) (by kernel_rfl) (fun _ _ _ h => h) (Or.inl ⟨by rfl, ?_⟩) (by exact kS) ?_
            rotate_left
            · intro w hSw; (try dsimp only at hSw); (go_simp <;> with_reducible rfl)
            try simp only [Act.put, List.setIfInBounds_toArray, List.set_cons_zero, List.set_cons_succ]
            refine wpAnyH_take (i := 2) (oi := { dst := some 50, op := Op.nilCheck (Operand.tmp 49), type := 0, pos := "types.go:281", after := #[{ on := 1, ground := Ground.data }], guard := none }) (v := ?_) rfl (by kernel_rfl) (by kernel_rfl) (by kernel_rfl) (fun _ _ _ h => h) (Or.inl ⟨by rfl, ?_⟩) (by exact kS) ?_
            rotate_left
            · intro w hSw; (try dsimp only at hSw); (go_simp <;> with_reducible rfl)
            try simp only [Act.put, List.setIfInBounds_toArray, List.set_cons_zero, List.set_cons_succ]
            refine wpAnyH_take (i := 3) (oi := { dst := some 51, op := Op.fieldAddr 60 (Operand.tmp 50) 0, type := 0, pos := "types.go:281", after := #[{ on := 2, ground := Ground.data }], guard := none }) (v := ?_) rfl (by kernel_rfl) (by kernel_rfl) (by kernel_rfl) (fun _ _ _ h => h) (Or.inl ⟨by rfl, ?_⟩) (by exact kS) ?_
            rotate_left
            · intro w hSw; (try dsimp only at hSw); (go_simp <;> with_reducible rfl)
            try simp only [Act.put, List.setIfInBounds_toArray, List.set_cons_zero, List.set_cons_succ]
            refine wpAnyH_take (i := 4) (oi := { dst := some 52, op := Op.load 22 (Operand.tmp 51), type := 22, pos := "types.go:281", after := #[{ on := 3, ground := Ground.data }], guard := none }) (v := ?_) rfl (by kernel_rfl) (by kernel_rfl) (by kernel_rfl) (fun _ _ _ h => h) (Or.inl ⟨by rfl, ?_⟩) (by exact kS) ?_
            rotate_left
            · intro w hSw; (try dsimp only at hSw); (go_simp <;> with_reducible rfl)
            try simp only [Act.put, List.setIfInBounds_toArray, List.set_cons_zero, List.set_cons_succ]
            refine wpAnyH_take (i := 5) (oi := { dst := some 53, op := Op.move (Operand.tmp 6), type := 3, pos := "types.go:281", after := #[], guard := none }) (v := ?_) rfl (by kernel_rfl) (by kernel_rfl) (by kernel_rfl) (fun _ _ _ h => h) (Or.inl ⟨by rfl, ?_⟩) (by exact kS) ?_
            rotate_left
            · intro w hSw; (try dsimp only at hSw); (go_simp <;> with_reducible rfl)
            try simp only [Act.put, List.setIfInBounds_toArray, List.set_cons_zero, List.set_cons_succ]
            refine wpAnyH_take (i := 6) (oi := { dst := some 54, op := Op.indexAddr 22 (Operand.tmp 52) (Operand.tmp 53), type := 0, pos := "types.go:281", after := #[{ on := 4, ground := Ground.data }, { on := 5, ground := Ground.data }], guard := none }) (v := ?_) rfl (by kernel_rfl) (by kernel_rfl) (by kernel_rfl) (fun _ _ _ h => h) (Or.inl ⟨by rfl, ?_⟩) (by exact kS) ?_
            rotate_left
            · intro w hSw; (try dsimp only at hSw); (go_simp <;> with_reducible rfl)
            try simp only [Act.put, List.setIfInBounds_toArray, List.set_cons_zero, List.set_cons_succ]
            refine wpAnyH_take (i := 7) (oi := { dst := some 55, op := Op.fieldAddr 40 (Operand.tmp 54) 0, type := 0, pos := "types.go:281", after := #[{ on := 6, ground := Ground.data }], guard := none }) (v := ?_) rfl (by kernel_rfl) (by kernel_rfl) (by kernel_rfl) (fun _ _ _ h => h) (Or.inl ⟨by rfl, ?_⟩) (by exact kS) ?_
            rotate_left
            · intro w hSw; (try dsimp only at hSw); (go_simp <;> with_reducible rfl)
            try simp only [Act.put, List.setIfInBounds_toArray, List.set_cons_zero, List.set_cons_succ]
            refine wpAnyH_take (i := 8) (oi := { dst := some 56, op := Op.load 9 (Operand.tmp 55), type := 9, pos := "types.go:281", after := #[{ on := 7, ground := Ground.data }], guard := none }) (v := ?_) rfl (by kernel_rfl) (by kernel_rfl) (by kernel_rfl) (fun _ _ _ h => h) (Or.inl ⟨by rfl, ?_⟩) (by exact kS) ?_
            rotate_left
            · intro w hSw; (try dsimp only at hSw); (go_simp <;> with_reducible rfl)
            try simp only [Act.put, List.setIfInBounds_toArray, List.set_cons_zero, List.set_cons_succ]
            refine wpAnyH_ready (rs := [9]) (by kernel_rfl) (by simp) ?_
            refine AllReadyH.cons (o := { dst := some 57, op := Op.call { callee := Callee.value (Operand.func 25), args := #[Operand.tmp 48, Operand.tmp 56], argTypes := #[35, 9] }, type := 4, pos := "types.go:281", after := #[{ on := 0, ground := Ground.data }, { on := 8, ground := Ground.data }], guard := none }) rfl (fun K hK => ?_) AllReadyH.nil
            go_simp
            go_at_call 25; refine hch.mono ?_; rintro e w5 ⟨rfl, hb5⟩; have HB5 : Hid (Below wr.heap.size wr w5) := bthen (below_drew1 _) hb5; have kS := HKP.out w5 HB5.out; have hho := HHO.out w5 HB5.out; clear hb5 hch
            go_wp2_with fail
            refine hK.out _ _ (by exact kS) (fun hHeld => ?_)
            clear hK K hHeld
            try simp only [Act.put, List.setIfInBounds_toArray, List.set_cons_zero, List.set_cons_succ]
            refine wpAnyH_take (i := 10) (oi := { dst := some 58, op := Op.move (Operand.tmp 57), type := 4, pos := "types.go:281", after := #[{ on := 9, ground := Ground.data }, { on := 9, ground := Ground.chain }], guard := none }) (v := ?_) rfl (by kernel_rfl) (by kernel_rfl) (by kernel_rfl) (fun _ _ _ h => h) (Or.inl ⟨by rfl, ?_⟩) (by exact kS) ?_
            rotate_left
            · intro w hSw; (try dsimp only at hSw); (go_simp <;> with_reducible rfl)
            try simp only [Act.put, List.setIfInBounds_toArray, List.set_cons_zero, List.set_cons_succ]
            refine wpAnyH_take (i := 11) (oi := { dst := some 59, op := Op.move (Operand.tmp 4), type := 35, pos := "types.go:281", after := #[{ on := 10, ground := Ground.guard }], guard := some (10, false) }) (v := ?_) rfl (by kernel_rfl) (by kernel_rfl) (by kernel_rfl) (fun _ _ _ h => h) (Or.inl ⟨by rfl, ?_⟩) (by exact kS) ?_
            rotate_left
            · intro w hSw; (try dsimp only at hSw); (go_simp <;> with_reducible rfl)
            try simp only [Act.put, List.setIfInBounds_toArray, List.set_cons_zero, List.set_cons_succ]
            refine wpAnyH_take (i := 12) (oi := { dst := some 60, op := Op.move (Operand.tmp 4), type := 35, pos := "types.go:281", after := #[{ on := 10, ground := Ground.guard }], guard := some (10, false) }) (v := ?_) rfl (by kernel_rfl) (by kernel_rfl) (by kernel_rfl) (fun _ _ _ h => h) (Or.inl ⟨by rfl, ?_⟩) (by exact kS) ?_
            rotate_left
            · intro w hSw; (try dsimp only at hSw); (go_simp <;> with_reducible rfl)
            try simp only [Act.put, List.setIfInBounds_toArray, List.set_cons_zero, List.set_cons_succ]
            refine wpAnyH_take (i := 13) (oi := { dst := some 61, op := Op.nilCheck (Operand.tmp 60), type := 0, pos := "types.go:281", after := #[{ on := 12, ground := Ground.data }, { on := 10, ground := Ground.guard }], guard := some (10, false) }) (v := ?_) rfl (by kernel_rfl) (by kernel_rfl) (by kernel_rfl) (fun _ _ _ h => h) (Or.inl ⟨by rfl, ?_⟩) (by exact kS) ?_
            rotate_left
            · intro w hSw; (try dsimp only at hSw); (go_simp <;> with_reducible rfl)
            try simp only [Act.put, List.setIfInBounds_toArray, List.set_cons_zero, List.set_cons_succ]
            refine wpAnyH_take (i := 14) (oi := { dst := some 62, op := Op.fieldAddr 60 (Operand.tmp 61) 0, type := 0, pos := "types.go:281", after := #[{ on := 13, ground := Ground.data }, { on := 10, ground := Ground.guard }], guard := some (10, false) }) (v := ?_) rfl (by kernel_rfl) (by kernel_rfl) (by kernel_rfl) (fun _ _ _ h => h) (Or.inl ⟨by rfl, ?_⟩) (by exact kS) ?_
            rotate_left
            · intro w hSw; (try dsimp only at hSw); (go_simp <;> with_reducible rfl)
            try simp only [Act.put, List.setIfInBounds_toArray, List.set_cons_zero, List.set_cons_succ]
            refine wpAnyH_take (i := 15) (oi := { dst := some 63, op := Op.load 22 (Operand.tmp 62), type := 22, pos := "types.go:281", after := #[{ on := 14, ground := Ground.data }, { on := 10, ground := Ground.guard }], guard := some (10, false) }) (v := ?_) rfl (by kernel_rfl) (by kernel_rfl) (by kernel_rfl) (fun _ _ _ h => h) (Or.inl ⟨by rfl, ?_⟩) (by exact kS) ?_
            rotate_left
            · intro w hSw; (try dsimp only at hSw); (go_simp <;> with_reducible rfl)
            try simp only [Act.put, List.setIfInBounds_toArray, List.set_cons_zero, List.set_cons_succ]
            refine wpAnyH_take (i := 16) (oi := { dst := some 64, op := Op.move (Operand.tmp 6), type := 3, pos := "types.go:281", after := #[{ on := 10, ground := Ground.guard }], guard := some (10, false) }) (v := ?_) rfl (by kernel_rfl) (by kernel_rfl) (by kernel_rfl) (fun _ _ _ h => h) (Or.inl ⟨by rfl, ?_⟩) (by exact kS) ?_
            rotate_left
            · intro w hSw; (try dsimp only at hSw); (go_simp <;> with_reducible rfl)
            try simp only [Act.put, List.setIfInBounds_toArray, List.set_cons_zero, List.set_cons_succ]
            refine wpAnyH_take (i := 17) (oi := { dst := some 65, op := Op.indexAddr 22 (Operand.tmp 63) (Operand.tmp 64), type := 0, pos := "types.go:281", after := #[{ on := 15, ground := Ground.data }, { on := 16, ground := Ground.data }, { on := 10, ground := Ground.guard }], guard := some (10, false) }) (v := ?_) rfl (by kernel_rfl) (by kernel_rfl) (by kernel_rfl) (fun _ _ _ h => h) (Or.inl ⟨by rfl, ?_⟩) (by exact kS) ?_
            rotate_left
            · intro w hSw; (try dsimp only at hSw); (go_simp <;> with_reducible rfl)
            try simp only [Act.put, List.setIfInBounds_toArray, List.set_cons_zero, List.set_cons_succ]
            refine wpAnyH_take (i := 18) (oi := { dst := some 66, op := Op.fieldAddr 40 (Operand.tmp 65) 1, type := 0, pos := "types.go:281", after := #[{ on := 17, ground := Ground.data }, { on := 10, ground := Ground.guard }], guard := some (10, false) }) (v := ?_) rfl (by kernel_rfl) (by kernel_rfl) (by kernel_rfl) (fun _ _ _ h => h) (Or.inl ⟨by rfl, ?_⟩) (by exact kS) ?_
            rotate_left
            · intro w hSw; (try dsimp only at hSw); (go_simp <;> with_reducible rfl)
            try simp only [Act.put, List.setIfInBounds_toArray, List.set_cons_zero, List.set_cons_succ]
            refine wpAnyH_take (i := 19) (oi := { dst := some 67, op := Op.load 27 (Operand.tmp 66), type := 27, pos := "types.go:281", after := #[{ on := 18, ground := Ground.data }, { on := 10, ground := Ground.guard }], guard := some (10, false) }) (v := ?_) rfl (by kernel_rfl) (by kernel_rfl) (by kernel_rfl) (fun _ _ _ h => h) (Or.inl ⟨by rfl, ?_⟩) (by exact kS) ?_
            rotate_left
            · intro w hSw; (try dsimp only at hSw); (go_simp <;> with_reducible rfl)
            try simp only [Act.put, List.setIfInBounds_toArray, List.set_cons_zero, List.set_cons_succ]
            refine wpAnyH_take (i := 20) (oi := { dst := some 68, op := Op.move (Operand.tmp 4), type := 35, pos := "types.go:281", after := #[{ on := 10, ground := Ground.guard }], guard := some (10, false) }) (v := ?_) rfl (by kernel_rfl) (by kernel_rfl) (by kernel_rfl) (fun _ _ _ h => h) (Or.inl ⟨by rfl, ?_⟩) (by exact kS) ?_
            rotate_left
            · intro w hSw; (try dsimp only at hSw); (go_simp <;> with_reducible rfl)
            try simp only [Act.put, List.setIfInBounds_toArray, List.set_cons_zero, List.set_cons_succ]
            refine wpAnyH_take (i := 21) (oi := { dst := some 69, op := Op.nilCheck (Operand.tmp 68), type := 0, pos := "types.go:281", after := #[{ on := 20, ground := Ground.data }, { on := 10, ground := Ground.guard }], guard := some (10, false) }) (v := ?_) rfl (by kernel_rfl) (by kernel_rfl) (by kernel_rfl) (fun _ _ _ h => h) (Or.inl ⟨by rfl, ?_⟩) (by exact kS) ?_
            rotate_left
            · intro w hSw; (try dsimp only at hSw); (go_simp <;> with_reducible rfl)
            try simp only [Act.put, List.setIfInBounds_toArray, List.set_cons_zero, List.set_cons_succ]
            refine wpAnyH_take (i := 22) (oi := { dst := some 70, op := Op.fieldAddr 60 (Operand.tmp 69) 0, type := 0, pos := "types.go:281", after := #[{ on := 21, ground := Ground.data }, { on := 10, ground := Ground.guard }], guard := some (10, false) }) (v := ?_) rfl (by kernel_rfl) (by kernel_rfl) (by kernel_rfl) (fun _ _ _ h => h) (Or.inl ⟨by rfl, ?_⟩) (by exact kS) ?_
            rotate_left
            · intro w hSw; (try dsimp only at hSw); (go_simp <;> with_reducible rfl)
            try simp only [Act.put, List.setIfInBounds_toArray, List.set_cons_zero, List.set_cons_succ]
            refine wpAnyH_take (i := 23) (oi := { dst := some 71, op := Op.load 22 (Operand.tmp 70), type := 22, pos := "types.go:281", after := #[{ on := 22, ground := Ground.data }, { on := 10, ground := Ground.guard }], guard := some (10, false) }) (v := ?_) rfl (by kernel_rfl) (by kernel_rfl) (by kernel_rfl) (fun _ _ _ h => h) (Or.inl ⟨by rfl, ?_⟩) (by exact kS) ?_
            rotate_left
            · intro w hSw; (try dsimp only at hSw); (go_simp <;> with_reducible rfl)
            try simp only [Act.put, List.setIfInBounds_toArray, List.set_cons_zero, List.set_cons_succ]
            refine wpAnyH_take (i := 24) (oi := { dst := some 72, op := Op.move (Operand.tmp 6), type := 3, pos := "types.go:281", after := #[{ on := 10, ground := Ground.guard }], guard := some (10, false) }) (v := ?_) rfl (by kernel_rfl) (by kernel_rfl) (by kernel_rfl) (fun _ _ _ h => h) (Or.inl ⟨by rfl, ?_⟩) (by exact kS) ?_
            rotate_left
            · intro w hSw; (try dsimp only at hSw); (go_simp <;> with_reducible rfl)
            try simp only [Act.put, List.setIfInBounds_toArray, List.set_cons_zero, List.set_cons_succ]
            refine wpAnyH_take (i := 25) (oi := { dst := some 73, op := Op.indexAddr 22 (Operand.tmp 71) (Operand.tmp 72), type := 0, pos := "types.go:281", after := #[{ on := 23, ground := Ground.data }, { on := 24, ground := Ground.data }, { on := 10, ground := Ground.guard }], guard := some (10, false) }) (v := ?_) rfl (by kernel_rfl) (by kernel_rfl) (by kernel_rfl) (fun _ _ _ h => h) (Or.inl ⟨by rfl, ?_⟩) (by exact kS) ?_
            rotate_left
            · intro w hSw; (try dsimp only at hSw); (go_simp <;> with_reducible rfl)
            try simp only [Act.put, List.setIfInBounds_toArray, List.set_cons_zero, List.set_cons_succ]
            refine wpAnyH_take (i := 26) (oi := { dst := some 74, op := Op.fieldAddr 40 (Operand.tmp 73) 0, type := 0, pos := "types.go:281", after := #[{ on := 25, ground := Ground.data }, { on := 10, ground := Ground.guard }], guard := some (10, false) }) (v := ?_) rfl (by kernel_rfl) (by kernel_rfl) (by kernel_rfl) (fun _ _ _ h => h) (Or.inl ⟨by rfl, ?_⟩) (by exact kS) ?_
            rotate_left
            · intro w hSw; (try dsimp only at hSw); (go_simp <;> with_reducible rfl)
            try simp only [Act.put, List.setIfInBounds_toArray, List.set_cons_zero, List.set_cons_succ]
            refine wpAnyH_take (i := 27) (oi := { dst := some 75, op := Op.load 9 (Operand.tmp 74), type := 9, pos := "types.go:281", after := #[{ on := 26, ground := Ground.data }, { on := 10, ground := Ground.guard }], guard := some (10, false) }) (v := ?_) rfl (by kernel_rfl) (by kernel_rfl) (by kernel_rfl) (fun _ _ _ h => h) (Or.inl ⟨by rfl, ?_⟩) (by exact kS) ?_
            rotate_left
            · intro w hSw; (try dsimp only at hSw); (go_simp <;> with_reducible rfl)
            try simp only [Act.put, List.setIfInBounds_toArray, List.set_cons_zero, List.set_cons_succ]
            refine wpAnyH_take (i := 28) (oi := { dst := some 76, op := Op.move (Operand.tmp 4), type := 35, pos := "types.go:281", after := #[{ on := 10, ground := Ground.guard }], guard := some (10, false) }) (v := ?_) rfl (by kernel_rfl) (by kernel_rfl) (by kernel_rfl) (fun _ _ _ h => h) (Or.inl ⟨by rfl, ?_⟩) (by exact kS) ?_
            rotate_left
            · intro w hSw; (try dsimp only at hSw); (go_simp <;> with_reducible rfl)
            try simp only [Act.put, List.setIfInBounds_toArray, List.set_cons_zero, List.set_cons_succ]
            refine wpAnyH_take (i := 29) (oi := { dst := some 77, op := Op.nilCheck (Operand.tmp 76), type := 0, pos := "types.go:281", after := #[{ on := 28, ground := Ground.data }, { on := 10, ground := Ground.guard }], guard := some (10, false) }) (v := ?_) rfl (by kernel_rfl) (by kernel_rfl) (by kernel_rfl) (fun _ _ _ h => h) (Or.inl ⟨by rfl, ?_⟩) (by exact kS) ?_
            rotate_left
            · intro w hSw; (try dsimp only at hSw); (go_simp <;> with_reducible rfl)
            try simp only [Act.put, List.setIfInBounds_toArray, List.set_cons_zero, List.set_cons_succ]
            refine wpAnyH_take (i := 30) (oi := { dst := some 78, op := Op.fieldAddr 60 (Operand.tmp 77) 0, type := 0, pos := "types.go:281", after := #[{ on := 29, ground := Ground.data }, { on := 10, ground := Ground.guard }], guard := some (10, false) }) (v := ?_) rfl (by kernel_rfl) (by kernel_rfl) (by kernel_rfl) (fun _ _ _ h => h) (Or.inl ⟨by rfl, ?_⟩) (by exact kS) ?_
            rotate_left
            · intro w hSw; (try dsimp only at hSw); (go_simp <;> with_reducible rfl)
            try simp only [Act.put, List.setIfInBounds_toArray, List.set_cons_zero, List.set_cons_succ]
            refine wpAnyH_take (i := 31) (oi := { dst := some 79, op := Op.load 22 (Operand.tmp 78), type := 22, pos := "types.go:281", after := #[{ on := 30, ground := Ground.data }, { on := 10, ground := Ground.guard }], guard := some (10, false) }) (v := ?_) rfl (by kernel_rfl) (by kernel_rfl) (by kernel_rfl) (fun _ _ _ h => h) (Or.inl ⟨by rfl, ?_⟩) (by exact kS) ?_
            rotate_left
            · intro w hSw; (try dsimp only at hSw); (go_simp <;> with_reducible rfl)
            try simp only [Act.put, List.setIfInBounds_toArray, List.set_cons_zero, List.set_cons_succ]
            refine wpAnyH_take (i := 32) (oi := { dst := some 80, op := Op.call { callee := Callee.builtin Builtin.len, args := #[Operand.tmp 79], argTypes := #[22] }, type := 3, pos := "types.go:281", after := #[{ on := 31, ground := Ground.data }, { on := 10, ground := Ground.guard }], guard := some (10, false) }) (v := ?_) rfl (by kernel_rfl) (by kernel_rfl) (by kernel_rfl) (fun _ _ _ h => h) (Or.inl ⟨by rfl, ?_⟩) (by exact kS) ?_
            rotate_left
            · intro w hSw; (try dsimp only at hSw); (go_simp <;> with_reducible rfl)
            try simp only [Act.put, List.setIfInBounds_toArray, List.set_cons_zero, List.set_cons_succ]
            refine wpAnyH_ready (rs := [33]) (by kernel_rfl) (by simp) ?_
            refine AllReadyH.cons (o := { dst := some 81, op := Op.makeSlice 24 (Operand.tmp 80) (Operand.tmp 80), type := 24, pos := "types.go:281", after := #[{ on := 32, ground := Ground.data }, { on := 32, ground := Ground.data }, { on := 10, ground := Ground.guard }], guard := some (10, false) }) rfl (fun K hK => ?_) AllReadyH.nil
            go_simp
            have kS := HKP.out _ (bthen HB5.out (below_alloc w5 (.cells (mtA (List.replicate l.length false)) 4)))
            go_wp2_with fail
            refine hK.out _ _ (by exact kS) (fun hHeld => ?_)
            clear hK K hHeld
            try simp only [Act.put, List.setIfInBounds_toArray, List.set_cons_zero, List.set_cons_succ]
            refine wpAnyH_ready (rs := [34]) (by kernel_rfl) (by simp) ?_
            refine AllReadyH.cons (o := { dst := some 82, op := Op.call { callee := Callee.value (Operand.func 26), args := #[Operand.tmp 59, Operand.tmp 67, Operand.tmp 75, Operand.tmp 81], argTypes := #[35, 27, 9, 24] }, type := 4, pos := "types.go:281", after := #[{ on := 11, ground := Ground.data }, { on := 19, ground := Ground.data }, { on := 27, ground := Ground.data }, { on := 33, ground := Ground.data }, { on := 10, ground := Ground.chain }, { on := 10, ground := Ground.guard }], guard := some (10, false) }) rfl (fun K hK => ?_) AllReadyH.nil
            go_simp
            go_at_call 26; refine hho.mono ?_; rintro e w6 ⟨q, rfl, hq, hb6⟩; have HB6 : Hid (Below wr.heap.size wr w6) := hb6; have HQ : Hid (q = true ↔ Rch (Hf l) (l[i]).name (l[i]).name) := hq; have kS := HKP.out w6 HB6.out; clear hb6 hq hho
            go_wp2_with fail
            refine hK.out _ _ (by exact kS) (fun hHeld => ?_)
            clear hK K hHeld
            try simp only [Act.put, List.setIfInBounds_toArray, List.set_cons_zero, List.set_cons_succ]
            refine wpAnyH_take (i := 35) (oi := { dst := some 83, op := Op.pick (Operand.tmp 58) (Operand.const (Value.bool true)) (Operand.tmp 82), type := 4, pos := "types.go:281", after := #[{ on := 10, ground := Ground.data }, { on := 34, ground := Ground.data }], guard := none }) (v := ?_) rfl (by kernel_rfl) (by kernel_rfl) (by kernel_rfl) (fun _ _ _ h => h) (Or.inl ⟨by rfl, ?_⟩) (by exact kS) ?_
            rotate_left
            · intro w hSw; (try dsimp only at hSw); (go_simp <;> with_reducible rfl)
            try simp only [Act.put, List.setIfInBounds_toArray, List.set_cons_zero, List.set_cons_succ]
            refine wpAnyH_done (by kernel_rfl) ?_ _
            cases q with
            | true =>
              have HC : Hid (∃ a ∈ l.map Nmd.name, Rch (Hf l) a a) := HNC.out (HQ.out.1 rfl)
              clear kS
              go_wp2_with fail
              go_ret2
              exact ⟨bthen HV.out.2.2 (bthen HX.out.1 HB6.out), .inr (.inl ⟨HV.out.2.1, HC.out, rfl⟩)⟩
            | false =>
              have HN : Hid (∀ j (hj : j < l.length), j < i + 1 → ¬ Rch (Hf l) (l[j]).name (l[j]).name) := HNX.out (fun h => by have := HQ.out.2 h; cases this)
              clear kS
              go_wp2_with fail
              go_roundg (l.length - (i + 1))
              case measure => omega
              case rel => exact ⟨i + 1, by omega, Nat.le_refl _, by go_num, bthen HX.out.1 HB6.out, HN.out⟩
        · have z1 : ¬ (i : Int) < (l.length : Int) := by omega
          have hnc : ¬ ∃ a ∈ l.map Nmd.name, Rch (Hf l) a a := by
            rintro ⟨a, ha, hr⟩
            obtain ⟨u, hu, rfl⟩ := List.mem_map.1 ha
            obtain ⟨j, hj, rfl⟩ := List.getElem_of_mem hu
            exact HX.out.2 j hj (by omega) hr
          have HNC : Hid (¬ ∃ a ∈ l.map Nmd.name, Rch (Hf l) a a) := hnc
          have HWB : Hid (Below wa.heap.size wa wr) := HX.out.1
          clear HX hnc HMK hi hg
          go_wp2_with fail
          obtain ⟨wb, hwb⟩ : ∃ wb, wb = wr := ⟨_, rfl⟩
          subst hwb
          go_loopg [7] l.length (fun g u7 wr => ∃ (i : Nat), i ≤ l.length ∧ l.length - i ≤ g ∧ u7 = .int .i64 i ∧ Hid (Below wb.heap.size wb wr ∧ (l.take i).all (Nmd.clo (l.map Nmd.name)) = true))
          case atStart => exact ⟨0, Nat.zero_le _, Nat.le_refl _, rfl, Below.refl _ _, by simp⟩
          case round =>
            obtain ⟨i, hi, hg, rfl, HX⟩ := hrel
            have HBW : Hid (Below wa.heap.size wa wr) := bthen HWB.out HX.out.1
            have HW : Hid (W8S (fun _ => True) wr w.heap.size l) := HV.out.1.kept HBW.out
            have x0 := kept_cell HBW.out X0.out
            have vw : w.heap.size < wr.heap.size := World.block_lt_of_cell? _ _ x0
            by_cases hlt : i < l.length
            · have z1 : (i : Int) < (l.length : Int) := by omega
              have z0 : (0 : Int) ≤ (i : Int) := by omega
              obtain ⟨v', hv', hsl⟩ := HW.out
              have hvv : v' = .slice ua l.length uc := by rw [x0] at hv'; exact (Option.some.inj hv').symm
              subst hvv
              obtain ⟨a', c', e, _, hx⟩ := hsl.open
              obtain ⟨rfl, rfl⟩ : ua = a' ∧ uc = c' := by simpa using e
              obtain ⟨b, o, rfl, hbl, _, hli⟩ := hx i hlt
              obtain ⟨k0, hun, xs, k8, hms⟩ := hli
              obtain ⟨k1, k2, k3, k4, xn, xm, xk, k5, k6, k7, hpr⟩ := lies_iff.1 hun
              obtain ⟨a1, c1, a2, c2, a3, c3, rfl, rfl, rfl⟩ := hpr.form
              have q1 : wr.cell? ⟨b, o + i * 9 + 1, none⟩ = some (.int .i64 (l[i]).under.kind) := k1
              have q2 : wr.cell? ⟨b, o + i * 9 + 2, none⟩ = some (.string (l[i]).under.name) := k2
              have q3 : wr.cell? ⟨b, o + i * 9 + 3, none⟩ = some (.int .i64 (l[i]).under.n) := k3
              have q4 : wr.cell? ⟨b, o + i * 9 + 4, none⟩ = some (.bool (l[i]).under.flag) := k4
              have q5 : wr.cell? ⟨b, o + i * 9 + 5, none⟩ = some (.slice a1 (l[i]).under.names.length c1) := k5
              have q6 : wr.cell? ⟨b, o + i * 9 + 6, none⟩ = some (.slice a2 (l[i]).under.marks.length c2) := k6
              have q7 : wr.cell? ⟨b, o + i * 9 + 7, none⟩ = some (.slice a3 (l[i]).under.kids.length c3) := k7
              obtain ⟨sa, sc, rfl, hsl8, hsx⟩ := hms.open
              have K8 : Hid (wr.cell? ⟨b, o + i * 9 + 8, none⟩ = some (.slice sa (l[i]).mths.length sc)) := k8
              have HSX : Hid (∀ j (hj : j < (l[i]).mths.length), ∃ b o, sa = some ⟨b, o, none⟩ ∧ b < wr.heap.size ∧ ((l[i]).mths[j]).lies (fun _ => True) wr b (o + j * 9)) := hsx
              have X1 : Hid (wr.cell? ⟨w.heap.size, 0, none⟩ = some (.slice (some ⟨b, o, none⟩) l.length uc)) := x0
              have hkn := rknown_any (l[i]).under wr _ _ _ HW.out hpr
              have HQ0 : Hid ((l.take (i + 1)).all (Nmd.clo (l.map Nmd.name)) = ((l[i]).under.kno (l.map Nmd.name) && (l[i]).mths.all (fun m => m.sig.kno (l.map Nmd.name)))) := by
                show _ = _
                rw [all_take hlt, HX.out.2]
                rfl
              have HQ1 : Hid (((l[i]).under.kno (l.map Nmd.name) && (l[i]).mths.all (fun m => m.sig.kno (l.map Nmd.name))) = false → l.all (Nmd.clo (l.map Nmd.name)) = false) := fun h => all_false hlt h
              unfold agT at hkn
              clear hun hpr hms hx e hsl k1 k2 k3 k4 k5 k6 k7 k8 hsx
              generalize hkk : (l[i]).under.kno (l.map Nmd.name) = p0 at hkn HQ0 HQ1
              clear hkk
              go_wp2_with (go_at_call 27; refine hkn.mono ?_; rintro e w5 ⟨rfl, hb5⟩; have HB5 : Hid (Below wr.heap.size wr w5) := hb5; clear hb5 hkn)
              obtain ⟨wc, hwc⟩ : ∃ wc, wc = wr := ⟨_, rfl⟩
              subst hwc
              clear q1 q2 q3 q4 q5 q6 q7 k0 x0
              have hml : ((l[i]).mths.length : Int) ≤ 9223372036854775807 := hsl8
              go_loopg [8, 9] (l[i]).mths.length (fun g u8 u9 wr => ∃ (j : Nat), j ≤ (l[i]).mths.length ∧ (l[i]).mths.length - j ≤ g ∧ u8 = .bool (p0 && ((l[i]).mths.take j).all (fun m => m.sig.kno (l.map Nmd.name))) ∧ u9 = .int .i64 j ∧ Hid (Below wc.heap.size wc wr))
              case atStart => exact ⟨0, Nat.zero_le _, Nat.le_refl _, by simp, rfl, HB5.out⟩
              case round =>
                obtain ⟨j, hj, hgj, rfl, rfl, HY⟩ := hrel
                have x0 := kept_cell HY.out X1.out
                have k8 := kept_cell HY.out K8.out
                generalize hpj : (p0 && ((l[i]).mths.take j).all (fun m => m.sig.kno (l.map Nmd.name))) = p at *
                have HPJ : Hid ((p0 && ((l[i]).mths.take j).all (fun m => m.sig.kno (l.map Nmd.name))) = p) := hpj
                clear hpj
                by_cases hjl : j < (l[i]).mths.length
                · have y1 : (j : Int) < ((l[i]).mths.length : Int) := by omega
                  have y0 : (0 : Int) ≤ (j : Int) := by omega
                  have HNX : Hid ((p0 && ((l[i]).mths.take (j + 1)).all (fun m => m.sig.kno (l.map Nmd.name))) = (p && ((l[i]).mths[j]).sig.kno (l.map Nmd.name))) := by
                    show _ = _
                    rw [mall_take hjl, ← HPJ.out, Bool.and_assoc]
                  cases p with
                  | false =>
                    go_wp2_with fail
                    go_roundg ((l[i]).mths.length - (j + 1))
                    case measure => omega
                    case rel => exact ⟨j + 1, by omega, Nat.le_refl _, by rw [HNX.out]; rfl, by go_num, HY.out⟩
                  | true =>
                    obtain ⟨b2, o2, rfl, hb2, hlj⟩ := HSX.out j hjl
                    obtain ⟨_, _, hsg⟩ := hlj
                    obtain ⟨m1, m2, m3, m4, yn, ym, yk, m5, m6, m7, hps⟩ := lies_iff.1 hsg
                    obtain ⟨e1, d1, e2, d2, e3, d3, rfl, rfl, rfl⟩ := hps.form
                    have n1 : wr.cell? ⟨b2, o2 + j * 9 + 2, none⟩ = some (.int .i64 ((l[i]).mths[j]).sig.kind) := kept_cell HY.out m1
                    have n2 : wr.cell? ⟨b2, o2 + j * 9 + 3, none⟩ = some (.string ((l[i]).mths[j]).sig.name) := kept_cell HY.out m2
                    have n3 : wr.cell? ⟨b2, o2 + j * 9 + 4, none⟩ = some (.int .i64 ((l[i]).mths[j]).sig.n) := kept_cell HY.out m3
                    have n4 : wr.cell? ⟨b2, o2 + j * 9 + 5, none⟩ = some (.bool ((l[i]).mths[j]).sig.flag) := kept_cell HY.out m4
                    have n5 : wr.cell? ⟨b2, o2 + j * 9 + 6, none⟩ = some (.slice e1 ((l[i]).mths[j]).sig.names.length d1) := kept_cell HY.out m5
                    have n6 : wr.cell? ⟨b2, o2 + j * 9 + 7, none⟩ = some (.slice e2 ((l[i]).mths[j]).sig.marks.length d2) := kept_cell HY.out m6
                    have n7 : wr.cell? ⟨b2, o2 + j * 9 + 8, none⟩ = some (.slice e3 ((l[i]).mths[j]).sig.kids.length d3) := kept_cell HY.out m7
                    have hk2 := rknown_any ((l[i]).mths[j]).sig wr _ _ _ (HW.out.kept HY.out) (hps.kept HY.out)
                    unfold agT at hk2
                    generalize hq2 : ((l[i]).mths[j]).sig.kno (l.map Nmd.name) = q2 at hk2 HNX
                    clear hq2 hsg hps m1 m2 m3 m4 m5 m6 m7
                    go_wp2_with (go_at_call 27; refine hk2.mono ?_; rintro e w6 ⟨rfl, hb6⟩; have HB6 : Hid (Below wr.heap.size wr w6) := hb6; clear hb6 hk2)
                    go_roundg ((l[i]).mths.length - (j + 1))
                    case measure => omega
                    case rel => exact ⟨j + 1, by omega, Nat.le_refl _, by rw [HNX.out]; rfl, by go_num, bthen HY.out HB6.out⟩
                · have y1 : ¬ (j : Int) < ((l[i]).mths.length : Int) := by omega
                  have hpp := HPJ.out
                  rw [List.take_of_length_le (by omega)] at hpp
                  have HPP : Hid ((p0 && (l[i]).mths.all (fun m => m.sig.kno (l.map Nmd.name))) = p) := hpp
                  clear hpp
                  cases p with
                  | false =>
                    have HF : Hid (l.all (Nmd.clo (l.map Nmd.name)) = false) := HQ1.out HPP.out
                    go_wp2_with fail
                    go_ret2
                    exact ⟨bthen HV.out.2.2 (bthen HBW.out HY.out), .inr (.inr (.inl ⟨HV.out.2.1, HNC.out, HF.out, rfl⟩))⟩
                  | true =>
                    have HT : Hid ((l.take (i + 1)).all (Nmd.clo (l.map Nmd.name)) = true) := by
                      show _ = _
                      rw [HQ0.out, HPP.out]
                    go_wp2_with fail
                    go_roundg (l.length - (i + 1))
                    case measure => omega
                    case rel => exact ⟨i + 1, by omega, Nat.le_refl _, by go_num, bthen HX.out.1 HY.out, HT.out⟩
            · have z1 : ¬ (i : Int) < (l.length : Int) := by omega
              have hat := HX.out.2
              rw [List.take_of_length_le (by omega)] at hat
              have HAT : Hid (l.all (Nmd.clo (l.map Nmd.name)) = true) := hat
              clear hat
              go_wp2_with fail
              go_ret2
              exact ⟨bthen HV.out.2.2 HBW.out, .inr (.inr (.inr ⟨HV.out.2.1, HNC.out, HAT.out, _, rfl, HW.out⟩))⟩
end Go.Proofs.Ytpcpncgigdebiaa

