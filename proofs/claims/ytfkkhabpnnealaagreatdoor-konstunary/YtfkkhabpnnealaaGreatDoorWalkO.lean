/-
  The contract of exact.Text at every argument.
-/
import Derived.Test.YtfkkhabpnnealaaGreatDoorWlkK
import Derived.Test.YtfkkhabpnnealaaGreatDoorWalkH
namespace Go.Proofs.YtfkkhabpnnealaaGreatDoor
open Go.RowKit
attribute [local go_sem ↓] Go.wp_at_zero Go.wp_at_succ
open Go.Sort (Holds putRow holds_putRow putRow_self putRow_set cell?_putRow_other)
theorem holds_take {w : World} {g : Nat} {l : List Nat} (h : Holds eU w g 0 l.toArray) (k : Nat) (hk : k ≤ l.length) : Holds eU w g 0 (l.take k).toArray := holds_of fun j hj => by
  have hj2 : j < k := by simp at hj; omega
  rw [getD_take l k j hj2]
  exact holds_cell h j (by omega)
def slLen : Value → Nat | .slice _ n _ => n | _ => 0
/-- the text of a number -/
def decT (s : Bool) (N : Nat) (t : ByteArray) : Prop := ∃ D, Form 10 D ∧ vl 10 D = N ∧ t = (if N = 0 then ⟨#[48]⟩ else if s then ⟨#[45]⟩ ++ txt D else txt D)
theorem arr18 : (#[.int .u32 0, .int .u32 0, .int .u32 0, .int .u32 0, .int .u32 0, .int .u32 0, .int .u32 0, .int .u32 0, .int .u32 0, .int .u32 0, .int .u32 0, .int .u32 0, .int .u32 0, .int .u32 0, .int .u32 0, .int .u32 0, .int .u32 0, .int .u32 0] : Array Value) = ((List.replicate 18 0).map eU).toArray := rfl
theorem zero18 (w : World) : Holds eU (w.alloc (Obj.cells #[.int .u32 0, .int .u32 0, .int .u32 0, .int .u32 0, .int .u32 0, .int .u32 0, .int .u32 0, .int .u32 0, .int .u32 0, .int .u32 0, .int .u32 0, .int .u32 0, .int .u32 0, .int .u32 0, .int .u32 0, .int .u32 0, .int .u32 0, .int .u32 0] 74)) w.heap.size 0 (List.replicate 18 0).toArray := holds_of fun j hj => by
  rw [Nat.zero_add, World.cell?_alloc_new, World.frozen?_alloc_new]
  have h := getElem?_map_eU (List.replicate 18 0) j hj
  refine ⟨?_, rfl⟩
  rw [← h, arr18, List.getElem?_toArray]
theorem divW_any (g n cap : Nat) (s : List Nat) (word : Nat) (w : World)
    (hs : Holds eU w g 0 s.toArray) (hsl : s.length = n) (hsw : Wd 4294967296 s) (hword : word ≤ 4294967295) (hw0 : 1 ≤ word) (hn : n ≤ 1000000) :
    Calls Tryz.prog 53 #[.slice (some ⟨g, 0, none⟩) n cap, .int .u32 word] w fun e w' => ∃ (r : List Nat) (c : Nat), e = .returned (.int .u32 c) ∧ w' = putRow eU w g 0 r.toArray ∧ DivR s word 0 r c := by
  rcases Nat.eq_zero_or_pos n with h | h
  · subst h
    have hnil : s = [] := List.eq_nil_of_length_eq_zero hsl
    subst hnil
    refine (divideByWord_none _ cap word w).mono fun e w' ⟨he, hw⟩ => ⟨[], 0, by rw [he]; rfl, ?_, ⟨rfl, by simp [Wd], by omega, by simp [vl]⟩⟩
    rw [hw, putRow_self eU w g 0 _ hs]
  · exact divideByWord_any g 0 n cap s word w hs hsl hsw hword hw0 hn
set_option maxHeartbeats 4000000 in
set_option maxRecDepth 100000 in
theorem text_any (s : Bool) (ao : Option Addr) (n cap : Nat) (l : List Nat) (w : World) (hl : Sl w ao n cap l) (hn : n ≤ 1000) :
    Calls Tryz.prog 30 #[.agg #[.bool s, .slice ao n cap]] w fun e w' => ∃ t, e = .returned (.string t) ∧ decT s (vl 4294967296 l) t ∧ Below w.heap.size w w' := by
  have HL : Hid (Sl w ao n cap l) := hl
  have K1 := tk_le hl
  clear hl
  go_enter Tryz.func30, Tryz.ntmps30
  go_wp2_with fail
  have x1 := Box.new w (.bool s) (.slice ao n cap) 24
  have hb0 : Below w.heap.size w (w.alloc (Obj.cells #[Value.bool s, Value.slice ao n cap] 24)) := (Below.refl _ _).alloc (Nat.le_refl _) _
  have hz0 : (w.alloc (Obj.cells #[Value.bool s, Value.slice ao n cap] 24)).heap.size = w.heap.size + 1 := by simp
  generalize (w.alloc (Obj.cells #[Value.bool s, Value.slice ao n cap] 24)) = W at *
  have X1 : Hid (Box W w.heap.size (.bool s) (.slice ao n cap)) := x1
  have HB0 : Hid (Below w.heap.size w W) := hb0
  have HZ0 : Hid (W.heap.size = w.heap.size + 1) := hz0
  have a1 := x1.z1
  clear x1 hb0 hz0
  go_wp2_with fail
  refine (trimmed_eq ao n cap l _ (HL.out.below HB0.out (Nat.le_refl _))).mono ?_
  rintro e W ⟨rfl, rfl⟩
  go_wp2_with fail
  refine (clone_any ao (tk l) cap (l.take (tk l)) _ (HL.out.below HB0.out (Nat.le_refl _)).trim (by omega)).mono ?_
  rintro e w2 ⟨ao2, cap2, rfl, ho, hb⟩
  have hzs := HZ0.out
  by_cases h0 : tk l = 0
  · have hv : vl 4294967296 l = 0 := by rw [← trim_val l, h0]; rfl
    have HV : Hid (vl 4294967296 l = 0) := hv
    have HB : Hid (Below w.heap.size w w2) := HB0.out.trans (hb.mono (by omega))
    have h0' : tk l ≤ 0 := by omega
    clear ho hb hv h0
    go_wp2_with fail
    go_ret
    exact ⟨_, rfl, ⟨[], trivial, by rw [HV.out]; rfl, by rw [if_pos HV.out]⟩, HB.out⟩
  · obtain ⟨g, rfl, hg1, hg2, hg3⟩ := ho.own (by omega)
    have HC : Hid (cap2 ≤ 9223372036854775807 ∧ tk l ≤ cap2) := ⟨ho.sl.mx, ho.sl.lec⟩
    have HG : Hid (Holds eU w2 g 0 (l.take (tk l)).toArray) := hg3
    have HGS : Hid (g < w2.heap.size) := hg2
    have HB : Hid (Below w.heap.size w w2) := HB0.out.trans (hb.mono (by omega))
    have X1 : Hid (Box w2 w.heap.size (.bool s) (.slice ao n cap)) := X1.out.below hb (by omega)
    have hbg : w.heap.size < g := by omega
    have HTT : Hid (TtR (vl 4294967296 l) (tk l) (tk l) [] (l.take (tk l))) := ⟨by simp [Wd], trim_form HL.out.wd, by have := (tk_trim l).le; simp; omega, by simp, by simp [vl, trim_val]⟩
    have hv0 : vl 4294967296 l ≠ 0 := by
      have := vl_zero_form (trim_form HL.out.wd) (by have := (tk_trim l).le; rw [List.length_take]; omega)
      rwa [trim_val] at this
    have HV0 : Hid (vl 4294967296 l ≠ 0) := hv0
    have hc1 := HC.out.1
    have hc2 := HC.out.2
    have htk0 : (((tk l : Nat) : Int) == 0) = false := beq_eq_false_iff_ne.2 (by omega)
    clear ho hb hg1 hg2 hg3 hv0 HZ0 hzs HB0 a1
    go_wp2_with fail
    go_loopw [2, 3] (fun tv rv wr => ∃ (k : Nat) (D rl : List Nat), k ≤ tk l ∧ rv = .slice (some ⟨g, 0, none⟩) k cap2 ∧ tv = .string (txt D) ∧ Hid (TtR (vl 4294967296 l) (tk l) k D rl) ∧ Hid (Holds eU wr g 0 rl.toArray) ∧ Hid (g < wr.heap.size) ∧ Hid (Box wr w.heap.size (.bool s) (.slice ao n cap)) ∧ Hid (Below w.heap.size w wr)) (fun _ rv _ => slLen rv)
    case atStart => exact ⟨tk l, [], _, Nat.le_refl _, rfl, rfl, HTT, HG, HGS, X1, HB⟩
    case round =>
      clear HTT HG HGS X1 HB
      obtain ⟨k, D, rl, hk, rfl, rfl, HTT, HG, HGS, X1, HB⟩ := hrel
      by_cases hk0 : 0 < k
      · obtain ⟨w0, hw0⟩ : ∃ w0, w0 = wr := ⟨_, rfl⟩
        subst hw0
        go_wp2_with fail
        go_loopw [3, 16] (fun rv iv wr => ∃ (i k' : Nat) (pl rl' : List Nat), i ≤ 18 ∧ k' ≤ k ∧ iv = .int .i64 i ∧ rv = .slice (some ⟨g, 0, none⟩) k' cap2 ∧ Hid (PcR (vl 4294967296 rl) i pl rl') ∧ Hid (rl'.length = k') ∧ Hid (Holds eU wr g 0 rl'.toArray) ∧ Hid (Holds eU wr w0.heap.size 0 pl.toArray) ∧ Hid (w0.heap.size < wr.heap.size) ∧ Hid (Box wr w.heap.size (.bool s) (.slice ao n cap)) ∧ Hid (Below w.heap.size w wr)) (fun _ iv _ => 18 - (intOf iv).toNat)
        case atStart => exact ⟨0, k, List.replicate 18 0, rl, by omega, Nat.le_refl _, rfl, rfl, ⟨by simp, fun x hx => by rw [(List.mem_replicate.1 hx).2]; omega, HTT.out.form, by simp [dsOf, vl]⟩, HTT.out.len, holds_below HG.out ((Below.refl _ _).alloc (Nat.le_refl _) _) HGS.out, zero18 w0, by simp [Hid], X1.out.below ((Below.refl _ _).alloc (Nat.le_refl _) _) X1.out.lt, HB.out.alloc HB.out.size _⟩
        case round =>
          obtain ⟨i, k', pl, rl', hi, hk', rfl, rfl, HPC, HRL, HG', HP', HS', X1', HB'⟩ := hrel
          have hgs := HGS.out
          have hps := HS'.out
          have hx1 := X1.out.lt
          by_cases hlt : i < 18
          · go_wp2_with fail
            refine (divW_any g k' cap2 rl' 1000000000 wr HG'.out HRL.out HPC.out.form.wd (by omega) (by omega) (by omega)).mono ?_
            rintro e w5 ⟨r, c, rfl, hw5, hdr⟩
            have hP5 : Holds eU w5 w0.heap.size 0 pl.toArray := by rw [hw5]; exact holds_put_other HP'.out (by omega)
            have hrl : r.length = k' := by have := hdr.len; have := HRL.out; omega
            have G5 : Hid (Holds eU w5 g 0 r.toArray) := by rw [hw5]; exact holds_putRow eU wr g 0 rl'.toArray r.toArray HG'.out (by have := HRL.out; simp; omega)
            have S5 : Hid (w0.heap.size < w5.heap.size) := by rw [hw5, Hid, Go.Sort.size_putRow]; exact hps
            have B5 : Hid (Below w.heap.size w w5) := by rw [hw5]; exact below_putRow HB'.out (by omega) _ _
            have X5 : Hid (Box w5 w.heap.size (.bool s) (.slice ao n cap)) := by rw [hw5]; exact X1'.out.below (below_putRow (Below.refl (w.heap.size + 1) _) (by omega) _ _) (by omega)
            obtain ⟨hpc, hpf⟩ := holds_cell hP5 i (by rw [HPC.out.len]; exact hlt)
            rw [Nat.zero_add] at hpc hpf
            generalize pl.getD i 0 = pi at hpc
            have P5 : Hid (Holds eU w5 w0.heap.size 0 pl.toArray) := hP5
            have HDR : Hid (DivR rl' 1000000000 0 r c) := hdr
            have HR : Hid (r.length = k') := hrl
            have hcb := hdr.small
            clear hP5 hw5 hdr hrl HG' HP' HS' X1' HB'
            go_wp2_with fail
            have hG6 := holds_set_other (a := ⟨w0.heap.size, i, none⟩) (u := .int .u32 (c : Int)) G5.out (by show g ≠ w0.heap.size; omega)
            have hsl : Sl (w5.setCell ⟨w0.heap.size, i, none⟩ (.int .u32 (c : Int))) (some ⟨g, 0, none⟩) k' cap2 r := by
              have := sl_holds (n := k') (cap := cap2) hG6 (by have := S5.out; simp; omega) (by rw [HR.out]; omega) (by omega) (by omega) HDR.out.wd
              rwa [List.take_of_length_le (by rw [HR.out]; omega)] at this
            have HSL : Hid (Sl _ _ _ _ r) := hsl
            clear hG6 hsl
            refine (trimmed_eq _ k' cap2 r _ HSL.out).mono ?_
            rintro e w6 ⟨rfl, hw6⟩
            have G6 : Hid (Holds eU w6 g 0 (r.take (tk r)).toArray) := by rw [hw6]; exact holds_take (holds_set_other G5.out (by show g ≠ w0.heap.size; omega)) _ (tk_trim r).le
            have P6 : Hid (Holds eU w6 w0.heap.size 0 (pl.set i c).toArray) := by rw [hw6]; exact holds_set P5.out (by rw [HPC.out.len]; exact hlt) rfl
            have S6 : Hid (w0.heap.size < w6.heap.size) := by rw [hw6]; have := S5.out; simpa [Hid] using this
            have X6 : Hid (Box w6 w.heap.size (.bool s) (.slice ao n cap)) := by rw [hw6]; exact X5.out.below ((Below.refl (w.heap.size + 1) _).setCell (p := ⟨w0.heap.size, i, none⟩) (by show w.heap.size + 1 ≤ w0.heap.size; omega) _) (by omega)
            have B6 : Hid (Below w.heap.size w w6) := by rw [hw6]; exact B5.out.setCell (p := ⟨w0.heap.size, i, none⟩) (by show w.heap.size ≤ w0.heap.size; omega) _
            have htk : tk r ≤ k' := by have := (tk_trim r).le; have := HR.out; omega
            clear hw6 HSL
            go_wp2_with fail
            go_roundw
            case rel =>
              have he := HDR.out.eq
              rw [List.drop_zero] at he
              exact ⟨i + 1, tk r, pl.set i c, r.take (tk r), by omega, by omega, by go_num, rfl, HPC.out.step hlt he HDR.out.small (trim_form HDR.out.wd), by have := (tk_trim r).le; show _ = _; simp; omega, G6, P6, S6, X6, B6⟩
            case measure => simp [intOf]; omega
          · obtain rfl : i = 18 := by omega
            have HAL : Hid (some 18 = some (pl.map eU).length) := by show _ = _; rw [List.length_map, HPC.out.len]
            have HRG : Hid (wr.rangeAt w0.heap.size 0 (pl.map eU)) := by
              intro j v hj
              have hjn : j < pl.length := by
                rcases Nat.lt_or_ge j pl.length with h | h
                · exact h
                · rw [List.getElem?_eq_none (by simpa using h)] at hj; cases hj
              rw [getElem?_map_eU pl j hjn] at hj
              rw [← hj]
              exact (holds_cell HP'.out j hjn).1
            have hTS : (txt (dsOf pl 18)).size ≤ 162 := by rw [txt_size, dsOf_len]; omega
            have hTD : (txt D).size ≤ 162000 := by rw [txt_size]; have := HTT.out.bound; omega
            obtain ⟨A, hA⟩ : ∃ A, A = pl.map eU := ⟨_, rfl⟩
            rw [← hA] at HRG HAL
            have HA : Hid (A = pl.map eU) := hA
            clear hA
            go_wp2_with (refine wpList_load_mid rfl 74 (.tmp 4) rfl w0.heap.size 0 rfl A _ HRG.out Tryz.underlying74 rfl (size60.trans HAL.out) ?_)
            rw [HA.out]
            refine (digits_any pl wr HPC.out.len HPC.out.le).mono ?_
            rintro e w7 ⟨rfl, hb7⟩
            have hs' := HS'.out
            have G7 : Hid (Holds eU w7 g 0 rl'.toArray) := holds_below HG'.out hb7 (by omega)
            have X7 : Hid (Box w7 w.heap.size (.bool s) (.slice ao n cap)) := X1'.out.below hb7 X1'.out.lt
            have B7 : Hid (Below w.heap.size w w7) := HB'.out.trans (hb7.mono HB'.out.size)
            have S7 : Hid (g < w7.heap.size) := by have := hb7.size; show _ < _; omega
            clear hb7
            go_wp2_with fail
            go_roundw
            case rel =>
              obtain ⟨t1, t2⟩ := HTT.out.step hk0 HPC.out
              have hrl := HRL.out
              rw [hrl] at t1 t2
              exact ⟨k', D ++ dsOf pl 18, rl', by omega, rfl, by rw [txt_app], t1, G7, S7, X7, B7⟩
            case measure =>
              obtain ⟨t1, t2⟩ := HTT.out.step hk0 HPC.out
              have hrl := HRL.out
              rw [hrl] at t2
              simpa [slLen] using t2
      · obtain rfl : k = 0 := by omega
        have hD : 0 < D.length := by
          rcases Nat.eq_zero_or_pos D.length with h | h
          · have h1 := HTT.out.done.1
            rw [List.eq_nil_of_length_eq_zero h] at h1
            exact absurd h1.symm HV0.out
          · exact h
        have hDb : D.length ≤ 162000 := by have := HTT.out.bound; omega
        have a0 := X1.out.z0
        have hTD : (txt (D.take (tk D))).size ≤ 162000 := by rw [txt_size, List.length_take]; omega
        obtain ⟨d1, d2, d3⟩ := HTT.out.done
        have HD1 : Hid (Form 10 (D.take (tk D))) := d2
        have HD2 : Hid (vl 10 (D.take (tk D)) = vl 4294967296 l) := d3
        have HWD : Hid (Wd 10 D) := HTT.out.wd
        clear d1 d2 d3
        cases s
        · go_wp2_with (go_at_call 55; refine (trimLeft_any D _ HWD.out (by omega) hD).mono ?_; rintro e w' ⟨rfl, rfl⟩)
          go_ret
          exact ⟨_, rfl, ⟨_, HD1.out, HD2.out, by rw [if_neg HV0.out]; rfl⟩, HB.out⟩
        · go_wp2_with (go_at_call 55; refine (trimLeft_any D _ HWD.out (by omega) hD).mono ?_; rintro e w' ⟨rfl, rfl⟩)
          go_ret
          exact ⟨_, rfl, ⟨_, HD1.out, HD2.out, by rw [if_neg HV0.out]; rfl⟩, HB.out⟩
end Go.Proofs.YtfkkhabpnnealaaGreatDoor

