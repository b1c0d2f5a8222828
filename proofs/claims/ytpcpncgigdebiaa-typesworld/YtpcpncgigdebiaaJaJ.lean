/-
  The document's World: Find and known, walked.
-/
import Derived.Test.YtpcpncgigdebiaaJaF
import Derived.Test.YtpcpncgigdebiaaJaI
namespace Go.Proofs.Ytpcpncgigdebiaa
open Go.RowKit
attribute [local go_sem ↓] Go.wp_at_zero Go.wp_at_succ
/-- a declared type lies at (b, o): nine cells -/
def Nmd.lies (B : BQ) (W : World) (t : Nmd) (b o : Nat) : Prop := W.cell? ⟨b, o, none⟩ = some (.string t.name) ∧ t.under.lies B W b (o + 1) ∧ ∃ vs, W.cell? ⟨b, o + 8, none⟩ = some vs ∧ SlM B W vs t.mths
/-- a slice of declared types -/
def SlN (B : BQ) (W : World) (v : Value) (l : List Nmd) : Prop :=
  (∃ a c, v = .slice a 0 c ∧ l = []) ∨ ∃ b o c, v = .slice (some ⟨b, o, none⟩) l.length c ∧ (l.length : Int) ≤ 9223372036854775807 ∧ b < W.heap.size ∧ B b ∧ ∀ i (hi : i < l.length), (l[i]).lies B W b (o + i * 9)
theorem Nmd.lies_to {B B' : BQ} {X : Nat → Prop} {W W' : World} (hk : Kx X W W') (hB : ∀ b, b < W.heap.size → B b → B' b) (hX : ∀ b, b < W.heap.size → B b → ¬ X b) (t : Nmd) (b o : Nat) (hb : ¬ X b) (h : t.lies B W b o) : t.lies B' W' b o := by
  obtain ⟨h1, h2, vs, h3, h4⟩ := h
  exact ⟨hk.cell h1 hb, Go.Proofs.Ytpcpncgigdebiaa.lies_to hk hB hX _ _ _ hb h2, vs, hk.cell h3 hb, h4.to hk hB hX⟩
theorem SlN.to {B B' : BQ} {X : Nat → Prop} {W W' : World} {v : Value} {l : List Nmd} (h : SlN B W v l) (hk : Kx X W W') (hB : ∀ b, b < W.heap.size → B b → B' b) (hX : ∀ b, b < W.heap.size → B b → ¬ X b) : SlN B' W' v l := by
  rcases h with h | ⟨b, o, c, h1, h2, h3, h4, h5⟩
  · exact .inl h
  · exact .inr ⟨b, o, c, h1, h2, Nat.lt_of_lt_of_le h3 hk.size, hB b h3 h4, fun i hi => Nmd.lies_to hk hB hX _ _ _ (hX b h3 h4) (h5 i hi)⟩
theorem SlN.kept {B : BQ} {W W' : World} {v : Value} {l : List Nmd} (h : SlN B W v l) (hk : Below W.heap.size W W') : SlN B W' v l := h.to (X := fun _ => False) (Kx.of_whole hk) (fun _ _ h => h) (fun _ _ _ h => h)
theorem SlN.open {B : BQ} {W : World} {v : Value} {l : List Nmd} (h : SlN B W v l) : ∃ a c, v = .slice a l.length c ∧ (l.length : Int) ≤ 9223372036854775807 ∧ ∀ i (hi : i < l.length), ∃ b o, a = some ⟨b, o, none⟩ ∧ b < W.heap.size ∧ B b ∧ (l[i]).lies B W b (o + i * 9) := by
  rcases h with ⟨a, c, rfl, rfl⟩ | ⟨b, o, c, rfl, h2, h3, h4, h5⟩
  · exact ⟨a, c, rfl, by simp, fun i hi => by cases hi⟩
  · exact ⟨_, c, rfl, h2, fun i hi => ⟨b, o, rfl, h3, h4, h5 i hi⟩⟩
/-- the document's world at block V -/
def W8S (B : BQ) (W : World) (V : Nat) (l : List Nmd) : Prop := ∃ v, W.cell? ⟨V, 0, none⟩ = some v ∧ SlN B W v l
theorem W8S.kept {B : BQ} {W W' : World} {V : Nat} {l : List Nmd} (h : W8S B W V l) (hk : Below W.heap.size W W') : W8S B W' V l := by
  obtain ⟨v, h1, h2⟩ := h
  exact ⟨v, kept_cell hk h1, h2.kept hk⟩
/-- where a name stands -/
def fnd : List Nmd → ByteArray → Int
  | [], _ => -1
  | t :: r, s => if t.name = s then 0 else (if fnd r s < 0 then -1 else fnd r s + 1)
theorem fnd_ge (s : ByteArray) : ∀ l : List Nmd, -1 ≤ fnd l s
  | [] => by show (-1 : Int) ≤ -1; omega
  | t :: r => by
    have := fnd_ge s r
    simp only [fnd]
    split
    · omega
    · split <;> omega
theorem fnd_drop (l : List Nmd) (s : ByteArray) (i : Nat) (hi : i < l.length) : fnd (l.drop i) s = if (l[i]).name = s then 0 else (if fnd (l.drop (i + 1)) s < 0 then -1 else fnd (l.drop (i + 1)) s + 1) := by
  rw [List.drop_eq_getElem_cons hi]; rfl
set_option maxRecDepth 100000 in
set_option maxHeartbeats 4000000 in
theorem rfind_any {B : BQ} {w : World} {V : Nat} {l : List Nmd} (h : W8S B w V l) (s : ByteArray) : Calls Try.prog 24 #[.pointer (some ⟨V, 0, none⟩), .string s] w fun e w' => e = .returned (.int .i64 (fnd l s)) ∧ w' = w := by
  obtain ⟨v, c0, hs⟩ := h
  obtain ⟨a, c, rfl, hlen, hel⟩ := hs.open
  have HEL : Hid (∀ i (hi : i < l.length), ∃ b o, a = some ⟨b, o, none⟩ ∧ b < w.heap.size ∧ B b ∧ (l[i]).lies B w b (o + i * 9)) := hel
  generalize hR : fnd l s = R at *
  have HR : Hid (fnd l s = R) := hR
  clear hs hel hR
  go_enter Try.func24, Try.ntmps24
  go_wp2_with fail
  go_loopg [5] l.length (fun g u5 wr => ∃ (i : Nat), i ≤ l.length ∧ l.length - i ≤ g ∧ u5 = .int .i64 i ∧ wr = w ∧ Hid (R = if fnd (l.drop i) s < 0 then -1 else fnd (l.drop i) s + i))
  case atStart => exact ⟨0, Nat.zero_le _, Nat.le_refl _, rfl, rfl, by
    show R = _
    rw [← HR.out, List.drop_zero]
    have := fnd_ge s l
    split <;> omega⟩
  case round =>
    obtain ⟨i, hi, hg, rfl, hw, HX⟩ := hrel
    obtain rfl := hw.symm
    clear hw
    by_cases hlt : i < l.length
    · have z1 : (i : Int) < (l.length : Int) := by omega
      have z0 : (0 : Int) ≤ (i : Int) := by omega
      obtain ⟨b, o, rfl, _, _, hli⟩ := HEL.out i hlt
      have c1 := hli.1
      have hfd := fnd_drop l s i hlt
      generalize hnm : (l[i]).name = nm at *
      clear hli
      by_cases he : nm = s
      · have k2 := str_eq he
        have hRi : R = (i : Int) := by
          rw [HX.out, hfd, if_pos he]
          simp
        subst hRi
        clear hfd hnm
        go_wp2_with fail
        go_ret
        exact ⟨rfl, rfl⟩
      · have k2 := str_ne he
        have HN : Hid (R = if fnd (l.drop (i + 1)) s < 0 then -1 else fnd (l.drop (i + 1)) s + ((i + 1 : Nat) : Int)) := by
          show R = _
          rw [HX.out, hfd, if_neg he]
          by_cases h0 : fnd (l.drop (i + 1)) s < 0
          · simp [h0]
          · simp only [if_neg h0]
            rw [if_neg (by omega)]
            omega
        clear hfd hnm
        go_wp2_with fail
        go_roundg (l.length - (i + 1))
        case measure => omega
        case rel => exact ⟨i + 1, by omega, Nat.le_refl _, by go_num, rfl, HN⟩
    · have z1 : ¬ (i : Int) < (l.length : Int) := by omega
      have hRi : R = -1 := by
        rw [HX.out, List.drop_eq_nil_of_le (by omega)]
        rfl
      subst hRi
      go_wp2_with fail
      go_ret
      exact ⟨rfl, rfl⟩
theorem fnd_mem (s : ByteArray) : ∀ l : List Nmd, s ∈ l.map Nmd.name ↔ 0 ≤ fnd l s
  | [] => by
    have e1 : fnd [] s = -1 := rfl
    rw [e1]; simp
  | t :: r => by
    have ih := fnd_mem s r
    have e1 : fnd (t :: r) s = if t.name = s then 0 else (if fnd r s < 0 then -1 else fnd r s + 1) := rfl
    rw [e1, List.map_cons, List.mem_cons]
    by_cases e : t.name = s
    · rw [if_pos e]
      exact ⟨fun _ => Int.le_refl 0, fun _ => .inl e.symm⟩
    · rw [if_neg e]
      have e2 : ¬ s = t.name := fun h => e h.symm
      by_cases h0 : fnd r s < 0
      · rw [if_pos h0]
        constructor
        · rintro (h | h)
          · exact absurd h e2
          · have := ih.1 h; omega
        · intro h; omega
      · rw [if_neg h0]
        exact ⟨fun _ => by omega, fun _ => .inr (ih.2 (by omega))⟩
theorem fnd_memB (l : List Nmd) (s : ByteArray) : memB s (l.map Nmd.name) = decide (0 ≤ fnd l s) := by
  unfold memB
  exact decide_eq_decide.2 (fnd_mem s l)
set_option maxRecDepth 100000 in
set_option maxHeartbeats 4000000 in
theorem rknown_any {B B' : BQ} {V : Nat} {l : List Nmd} : ∀ t : Ty, ∀ (w : World) (vn vm vk : Value), W8S B w V l → Prt B' w t vn vm vk → Calls Try.prog 27 #[.pointer (some ⟨V, 0, none⟩), agT t vn vm vk] w fun e w' => e = .returned (.bool (t.kno (l.map Nmd.name))) ∧ Below w.heap.size w w' := by
  refine Ty.ind fun k nm n f ns ms ks ih w vn vm vk hw hp => ?_
  have HI : Hid (∀ x ∈ ks, ∀ (w : World) (vn vm vk : Value), W8S B w V l → Prt B' w x vn vm vk → Calls Try.prog 27 #[.pointer (some ⟨V, 0, none⟩), agT x vn vm vk] w fun e w' => e = .returned (.bool (x.kno (l.map Nmd.name))) ∧ Below w.heap.size w w') := ih
  obtain ⟨an, cn, am, cm, ak, ck, rfl, rfl, rfl⟩ := hp.form
  unfold agT
  simp only [Ty.kind, Ty.name, Ty.n, Ty.flag, Ty.names, Ty.marks, Ty.kids, Ty.kno]
  obtain ⟨W0, hW0⟩ : ∃ W0, W0 = w.alloc (.cells #[.int .i64 k, .string nm, .int .i64 n, .bool f, .slice an ns.length cn, .slice am ms.length cm, .slice ak ks.length ck] 27) := ⟨_, rfl⟩
  have hb0 : Below w.heap.size w W0 := by rw [hW0]; exact below_alloc _ _
  have HB0 : Hid (Below w.heap.size w W0) := hb0
  have hz0 := hb0.size
  obtain ⟨a0, c0, e0, hlen, hel⟩ := (hp.kept hb0).ks.open
  obtain ⟨rfl, rfl⟩ : ak = a0 ∧ ck = c0 := by simpa [Ty.kids] using e0
  have HEL : Hid (∀ i (hi : i < ks.length), ∃ b o, ak = some ⟨b, o, none⟩ ∧ b < W0.heap.size ∧ B' b ∧ (ks[i]).lies B' W0 b (o + i * 7)) := hel
  have hlen : (ks.length : Int) ≤ 9223372036854775807 := hlen
  have HC : Hid (W0.cell? ⟨w.heap.size, 6, none⟩ = some (.slice ak ks.length ck)) := by
    rw [hW0]; exact (bx7 (heap_new w _)).2.2.2.2.2.2
  have HW : Hid (W8S B W0 V l) := hw.kept hb0
  have hfd := rfind_any (hw.kept hb0) nm
  have hfm := fnd_memB l nm
  generalize fnd l nm = r at *
  have HFM : Hid (memB nm (l.map Nmd.name) = decide (0 ≤ r)) := hfm
  obtain ⟨R, hR⟩ : ∃ R, R = ((memB nm (l.map Nmd.name) || decide (k ≠ 8)) && knoL (l.map Nmd.name) ks) := ⟨_, rfl⟩
  rw [← hR]
  have HR : Hid (R = ((memB nm (l.map Nmd.name) || decide (k ≠ 8)) && knoL (l.map Nmd.name) ks)) := hR
  clear ih hp hb0 e0 hel hR hw hfm
  subst hW0
  by_cases hbad : k = 8 ∧ r < 0
  · obtain ⟨rfl, hr⟩ := hbad
    have hRf : R = false := by
      have h1 : ¬ 0 ≤ r := by omega
      rw [HR.out, HFM.out]
      simp [h1]
    subst hRf
    go_enter Try.func27, Try.ntmps27
    go_wp2_with (go_at_call 24; refine hfd.mono ?_; rintro e w1 ⟨rfl, rfl⟩; clear hfd)
    go_ret
    exact ⟨rfl, HB0.out⟩
  · have HRT : Hid (R = knoL (l.map Nmd.name) ks) := by
      show R = _
      rw [HR.out, HFM.out]
      by_cases h8 : k = 8
      · have h1 : 0 ≤ r := by
          by_cases h2 : r < 0
          · exact absurd ⟨h8, h2⟩ hbad
          · omega
        simp [h1]
      · simp [h8]
    have hk0 : k = 8 → ¬ r < 0 := fun h1 h2 => hbad ⟨h1, h2⟩
    clear hbad
    go_enter Try.func27, Try.ntmps27
    by_cases h8 : k = 8
    · have hr0 := hk0 h8
      have hr1 : decide (r < 0) = false := decide_eq_false hr0
      have q8 : (k == 8) = true := int_beq h8
      clear hk0 h8
      go_wp2_with (go_at_call 24; refine hfd.mono ?_; rintro e w1 ⟨rfl, rfl⟩; clear hfd)
      generalize w.alloc (.cells #[.int .i64 k, .string nm, .int .i64 n, .bool f, .slice an ns.length cn, .slice am ms.length cm, .slice ak ks.length ck] 27) = W0 at *
      go_loopg [5] ks.length (fun g u5 wr => ∃ (i : Nat), i ≤ ks.length ∧ ks.length - i ≤ g ∧ u5 = .int .i64 i ∧ Hid (Below W0.heap.size W0 wr ∧ R = knoL (l.map Nmd.name) (ks.drop i)))
      case atStart => exact ⟨0, Nat.zero_le _, Nat.le_refl _, rfl, Below.refl _ _, by rw [HRT.out]; rfl⟩
      case round =>
        obtain ⟨i, hi, hg, rfl, HX⟩ := hrel
        have x6 := kept_cell HX.out.1 HC.out
        have HXB : Hid (Below W0.heap.size W0 wr) := HX.out.1
        have HXE : Hid (R = knoL (l.map Nmd.name) (ks.drop i)) := HX.out.2
        clear HX
        by_cases hlt : i < ks.length
        · have z1 : (i : Int) < (ks.length : Int) := by omega
          have z0 : (0 : Int) ≤ (i : Int) := by omega
          obtain ⟨b, o, rfl, _, _, hli⟩ := HEL.out i hlt
          obtain ⟨e0, e1, e2, e3, v4, v5, v6, e4, e5, e6, hpi⟩ := lies_iff.1 hli
          obtain ⟨bn, dn, bm, dm, bk, dk, rfl, rfl, rfl⟩ := hpi.form
          have e0 := kept_cell HXB.out e0
          have e1 := kept_cell HXB.out e1
          have e2 := kept_cell HXB.out e2
          have e3 := kept_cell HXB.out e3
          have e4 := kept_cell HXB.out e4
          have e5 := kept_cell HXB.out e5
          have e6 := kept_cell HXB.out e6
          have hc := HI.out ks[i] (List.getElem_mem _) wr _ _ _ (HW.out.kept HXB.out) (hpi.kept HXB.out)
          have HD : Hid (knoL (l.map Nmd.name) (ks.drop i) = ((ks[i]).kno (l.map Nmd.name) && knoL (l.map Nmd.name) (ks.drop (i + 1)))) := by
            show _ = _
            rw [List.drop_eq_getElem_cons hlt]; simp only [knoL]
          unfold agT at hc
          clear hli hpi
          generalize (ks[i]).kno (l.map Nmd.name) = q at *
          generalize (ks[i]).kind = ki at *
          generalize (ks[i]).name = ni at *
          generalize (ks[i]).n = nn at *
          generalize (ks[i]).flag = fi at *
          generalize (ks[i]).names.length = l1 at *
          generalize (ks[i]).marks.length = l2 at *
          generalize (ks[i]).kids.length = l3 at *
          cases q with
          | false =>
            have hRf : R = false := by rw [HXE.out, HD.out]; rfl
            subst hRf
            go_wp2_with (go_at_call 27; refine hc.mono ?_; rintro e w1 ⟨rfl, hb1⟩; have HB1 : Hid (Below W0.heap.size W0 w1) := HXB.out.trans (hb1.mono HXB.out.size); clear hb1 hc)
            go_ret
            exact ⟨rfl, HB0.out.trans (HB1.out.mono hz0)⟩
          | true =>
            have HN : Hid (R = knoL (l.map Nmd.name) (ks.drop (i + 1))) := by
              show R = _
              rw [HXE.out, HD.out]; rfl
            go_wp2_with (go_at_call 27; refine hc.mono ?_; rintro e w1 ⟨rfl, hb1⟩; have HB1 : Hid (Below W0.heap.size W0 w1) := HXB.out.trans (hb1.mono HXB.out.size); clear hb1 hc)
            go_roundg (ks.length - (i + 1))
            case measure => omega
            case rel => exact ⟨i + 1, by omega, Nat.le_refl _, by go_num, HB1.out, HN.out⟩
        · have z1 : ¬ (i : Int) < (ks.length : Int) := by omega
          have hRt : R = true := by rw [HXE.out, List.drop_eq_nil_of_le (by omega)]; rfl
          subst hRt
          go_wp2_with fail
          go_ret
          exact ⟨rfl, HB0.out.trans (HXB.out.mono hz0)⟩
    · have q8 := int_bne h8
      clear hk0 h8
      go_wp2_with fail
      generalize w.alloc (.cells #[.int .i64 k, .string nm, .int .i64 n, .bool f, .slice an ns.length cn, .slice am ms.length cm, .slice ak ks.length ck] 27) = W0 at *
      go_loopg [5] ks.length (fun g u5 wr => ∃ (i : Nat), i ≤ ks.length ∧ ks.length - i ≤ g ∧ u5 = .int .i64 i ∧ Hid (Below W0.heap.size W0 wr ∧ R = knoL (l.map Nmd.name) (ks.drop i)))
      case atStart => exact ⟨0, Nat.zero_le _, Nat.le_refl _, rfl, Below.refl _ _, by rw [HRT.out]; rfl⟩
      case round =>
        obtain ⟨i, hi, hg, rfl, HX⟩ := hrel
        have x6 := kept_cell HX.out.1 HC.out
        have HXB : Hid (Below W0.heap.size W0 wr) := HX.out.1
        have HXE : Hid (R = knoL (l.map Nmd.name) (ks.drop i)) := HX.out.2
        clear HX
        by_cases hlt : i < ks.length
        · have z1 : (i : Int) < (ks.length : Int) := by omega
          have z0 : (0 : Int) ≤ (i : Int) := by omega
          obtain ⟨b, o, rfl, _, _, hli⟩ := HEL.out i hlt
          obtain ⟨e0, e1, e2, e3, v4, v5, v6, e4, e5, e6, hpi⟩ := lies_iff.1 hli
          obtain ⟨bn, dn, bm, dm, bk, dk, rfl, rfl, rfl⟩ := hpi.form
          have e0 := kept_cell HXB.out e0
          have e1 := kept_cell HXB.out e1
          have e2 := kept_cell HXB.out e2
          have e3 := kept_cell HXB.out e3
          have e4 := kept_cell HXB.out e4
          have e5 := kept_cell HXB.out e5
          have e6 := kept_cell HXB.out e6
          have hc := HI.out ks[i] (List.getElem_mem _) wr _ _ _ (HW.out.kept HXB.out) (hpi.kept HXB.out)
          have HD : Hid (knoL (l.map Nmd.name) (ks.drop i) = ((ks[i]).kno (l.map Nmd.name) && knoL (l.map Nmd.name) (ks.drop (i + 1)))) := by
            show _ = _
            rw [List.drop_eq_getElem_cons hlt]; simp only [knoL]
          unfold agT at hc
          clear hli hpi
          generalize (ks[i]).kno (l.map Nmd.name) = q at *
          generalize (ks[i]).kind = ki at *
          generalize (ks[i]).name = ni at *
          generalize (ks[i]).n = nn at *
          generalize (ks[i]).flag = fi at *
          generalize (ks[i]).names.length = l1 at *
          generalize (ks[i]).marks.length = l2 at *
          generalize (ks[i]).kids.length = l3 at *
          cases q with
          | false =>
            have hRf : R = false := by rw [HXE.out, HD.out]; rfl
            subst hRf
            go_wp2_with (go_at_call 27; refine hc.mono ?_; rintro e w1 ⟨rfl, hb1⟩; have HB1 : Hid (Below W0.heap.size W0 w1) := HXB.out.trans (hb1.mono HXB.out.size); clear hb1 hc)
            go_ret
            exact ⟨rfl, HB0.out.trans (HB1.out.mono hz0)⟩
          | true =>
            have HN : Hid (R = knoL (l.map Nmd.name) (ks.drop (i + 1))) := by
              show R = _
              rw [HXE.out, HD.out]; rfl
            go_wp2_with (go_at_call 27; refine hc.mono ?_; rintro e w1 ⟨rfl, hb1⟩; have HB1 : Hid (Below W0.heap.size W0 w1) := HXB.out.trans (hb1.mono HXB.out.size); clear hb1 hc)
            go_roundg (ks.length - (i + 1))
            case measure => omega
            case rel => exact ⟨i + 1, by omega, Nat.le_refl _, by go_num, HB1.out, HN.out⟩
        · have z1 : ¬ (i : Int) < (ks.length : Int) := by omega
          have hRt : R = true := by rw [HXE.out, List.drop_eq_nil_of_le (by omega)]; rfl
          subst hRt
          go_wp2_with fail
          go_ret
          exact ⟨rfl, HB0.out.trans (HXB.out.mono hz0)⟩
end Go.Proofs.Ytpcpncgigdebiaa

/-
  types.New, walked.
-/
namespace Go.Proofs.Ytpcpncgigdebiaa
open Go.RowKit
attribute [local go_sem ↓] Go.wp_at_zero Go.wp_at_succ
theorem TbS.nd {K : BQ} {w : World} {b0 n : Nat} {l : List Nmd} (h : TbS K w b0 n l) : (l.map Nmd.name).Nodup := by
  obtain ⟨f, hm, _⟩ := h.ex
  obtain ⟨D, _, hD⟩ := hm.ex
  exact hD.nd
theorem TbS.lt {K : BQ} {w : World} {b0 n : Nat} {l : List Nmd} (h : TbS K w b0 n l) : b0 < w.heap.size := by
  obtain ⟨f, hm, _⟩ := h.ex
  exact hm.lt
theorem TbS.add_old {K B : BQ} {w : World} {b0 n : Nat} {l : List Nmd} {t : Nmd} {vn vm vk vs : Value} (h : TbS K w b0 n l) (hp : NmP B w t vn vm vk vs) (hs : t.name.size ≤ maxLen) (ho : t.name ∈ l.map Nmd.name) : Calls Try.prog 21 #[.map (some b0), agN t vn vm vk vs] w fun e w' => e = .returned (.bool false) ∧ Below w.heap.size w w' := by
  obtain ⟨f, hm, hf⟩ := h.ex
  obtain ⟨u, hu, e⟩ := List.mem_map.1 ho
  obtain ⟨xn, xm, xk, xs, e1, hp1⟩ := hf u hu
  obtain ⟨a1, c1, a2, c2, a3, c3, a4, c4, rfl, rfl, rfl, rfl⟩ := hp1.form
  rw [e] at e1
  exact Go.Proofs.Ytpcpncgigdebiaa.add_old hm hp hs e1
theorem TbS.add_new {K B : BQ} {w : World} {b0 n : Nat} {l : List Nmd} {t : Nmd} {vn vm vk vs : Value} (h : TbS K w b0 n l) (hp : NmP B w t vn vm vk vs) (hf : FitN t) (hs : t.name.size ≤ maxLen) (hn : n < maxLen) (ho : t.name ∉ l.map Nmd.name) (hK : ∀ b, w.heap.size ≤ b → K b) (hb : ¬ K b0) : Calls Try.prog 21 #[.map (some b0), agN t vn vm vk vs] w fun e w' => e = .returned (.bool true) ∧ TbS K w' b0 (n + 1) (l ++ [t]) ∧ Kx (· = b0) w w' := by
  obtain ⟨f, hm, hg⟩ := h.ex
  have hno : f t.name = none := by
    obtain ⟨D, _, hD⟩ := hm.ex
    cases e : f t.name with
    | none => rfl
    | some v => exact absurd ((hD.mem _).2 (by rw [e]; rfl)) ho
  refine (Go.Proofs.Ytpcpncgigdebiaa.add_new hm hp hf hs hn hno).mono ?_
  intro e w' hq
  refine ⟨hq.ret, ?_, hq.kx⟩
  obtain ⟨xn, xm, xk, xs, h1, h2⟩ := hq.ex
  rw [insK_new ho] at h1
  refine ⟨_, by rw [List.map_append]; exact h1, fun u hu => ?_⟩
  rcases List.mem_append.1 hu with hu | hu
  · obtain ⟨yn, ym, yk, ys, e1, hp1⟩ := hg u hu
    refine ⟨yn, ym, yk, ys, ?_, hp1.to hq.kx (fun _ _ h => h) (fun b _ hB e => hb (e ▸ hB))⟩
    unfold ups
    rw [if_neg (fun (e : u.name = t.name) => ho (by rw [← e]; exact List.mem_map_of_mem hu))]
    exact e1
  · have e : u = t := by simpa using hu
    subst e
    exact ⟨xn, xm, xk, xs, by unfold ups; rw [if_pos rfl], h2.with (fun b _ hB => hK b hB)⟩
/-- what New answers -/
structure NwQ (w : World) (l : List Nmd) (e : Ending) (w' : World) : Prop where
  bl : Below w.heap.size w w'
  ex : (¬ (l.map Nmd.name).Nodup ∧ e = .returned (.tuple #[.pointer none, .int .i64 1])) ∨
    ((l.map Nmd.name).Nodup ∧ (∃ a ∈ l.map Nmd.name, Rch (Hf l) a a) ∧ e = .returned (.tuple #[.pointer none, .int .i64 1])) ∨
    ((l.map Nmd.name).Nodup ∧ ¬ (∃ a ∈ l.map Nmd.name, Rch (Hf l) a a) ∧ l.all (Nmd.clo (l.map Nmd.name)) = false ∧ e = .returned (.tuple #[.pointer none, .int .i64 4])) ∨
    ((l.map Nmd.name).Nodup ∧ ¬ (∃ a ∈ l.map Nmd.name, Rch (Hf l) a a) ∧ l.all (Nmd.clo (l.map Nmd.name)) = true ∧ ∃ V b0 n, e = .returned (.tuple #[.pointer (some ⟨V, 0, none⟩), .int .i64 0]) ∧ w.heap.size ≤ V ∧ w.heap.size ≤ b0 ∧ w'.cell? ⟨V, 0, none⟩ = some (.map (some b0)) ∧ TbS (fun b => w.heap.size ≤ b) w' b0 n l)
theorem nodup_take {l : List Nmd} {i : Nat} (hi : i < l.length) (h : (l.map Nmd.name).Nodup) : (l[i]).name ∉ (l.take i).map Nmd.name := by
  intro hm
  obtain ⟨u, hu, e⟩ := List.mem_map.1 hm
  obtain ⟨j, hj, e2⟩ := List.mem_take_iff_getElem.1 hu
  have hji : j < i := by omega
  have := List.pairwise_iff_getElem.1 h j i (by simp; omega) (by simpa using hi) hji
  apply this
  simp only [List.getElem_map]
  rw [e2, e]
theorem TbS.wide {K K' : BQ} {W : World} {b0 n : Nat} {l : List Nmd} (h : TbS K W b0 n l) (hK : ∀ b, b < W.heap.size → K b → K' b) : TbS K' W b0 n l := by
  obtain ⟨f, h1, h2⟩ := h.ex
  exact ⟨f, h1, fun t ht => by
    obtain ⟨vn, vm, vk, vs, e, hp⟩ := h2 t ht
    exact ⟨vn, vm, vk, vs, e, hp.with hK⟩⟩
/-- between two of New's rounds -/
structure NwS (w : World) (l : List Nmd) (i : Nat) (W : World) : Prop where
  bl : Below w.heap.size w W
  sz : w.heap.size + 2 ≤ W.heap.size
  pt : W.cell? ⟨w.heap.size + 1, 0, none⟩ = some (.map (some w.heap.size))
  tb : TbS (fun b => w.heap.size + 2 ≤ b) W w.heap.size i (l.take i)
theorem NwS.step {w : World} {l : List Nmd} {i : Nat} {wr W3 w4 : World} (h : NwS w l i wr) (hi : i < l.length) (hb : Below wr.heap.size wr W3) (hk : Kx (· = w.heap.size) W3 w4) (ht : TbS (fun b => w.heap.size + 2 ≤ b) w4 w.heap.size (i + 1) (l.take i ++ [l[i]])) : NwS w l (i + 1) w4 := by
  refine ⟨below_kx1 (bthen h.bl hb) hk (Nat.le_refl _), Nat.le_trans (Nat.le_trans h.sz hb.size) hk.size, hk.cell (kept_cell hb h.pt) (fun e => by have e' : w.heap.size + 1 = w.heap.size := e; omega), ?_⟩
  rw [List.take_succ_eq_append_getElem hi]
  exact ht
set_option maxRecDepth 100000 in
set_option maxHeartbeats 8000000 in
theorem new_any {B : BQ} {w : World} {v : Value} {l : List Nmd} (h : SlN B w v l) (hs : ∀ t ∈ l, NmS t) (hf : ∀ t ∈ l, FitN t) (hl : l.length ≤ 1000) (hc : ∀ t ∈ l, t.under.cnt ≤ 1000) : Calls Try.prog 7 #[v] w (NwQ w l) := by
  obtain ⟨a, c, rfl, _, _⟩ := h.open
  obtain ⟨W2, hW2⟩ : ∃ W2, W2 = (w.alloc (.map #[] 0)).alloc (.cells #[.map (some w.heap.size)] 57) := ⟨_, rfl⟩
  have HS0 : Hid (NwS w l 0 W2) := by
    refine ⟨by rw [hW2]; exact bthen (below_alloc _ _) (below_alloc _ _), by rw [hW2]; simp, ?_, ⟨fun _ => none, ?_, fun t ht => by simp at ht⟩⟩
    · rw [hW2]
      have := heap_new (w.alloc (.map #[] 0)) (.cells #[.map (some w.heap.size)] 57)
      rw [World.size_alloc] at this
      exact cell_of this 0
    · rw [hW2]; exact (MpS.made w).kept (below_alloc _ _)
  have HSL : Hid (SlN B w (.slice a l.length c) l) := h
  have HF : Hid ((∀ t ∈ l, NmS t) ∧ (∀ t ∈ l, FitN t) ∧ l.length ≤ 1000 ∧ ∀ t ∈ l, t.under.cnt ≤ 1000) := ⟨hs, hf, hl, hc⟩
  clear h hs hf hc
  subst hW2
  have hmk : ∀ (t : TypeId) (W : World), (Instr.makeMap t none).run Try.prog W = .ok (.map (some W.heap.size)) (W.alloc (.map #[] 0)) := fun _ _ => rfl
  go_enter Try.func7, Try.ntmps7
  go_wp2_with fail
  go_loopg [12] l.length (fun g u12 wr => ∃ (i : Nat), i ≤ l.length ∧ l.length - i ≤ g ∧ u12 = .int .i64 i ∧ Hid (NwS w l i wr))
  case atStart => exact ⟨0, Nat.zero_le _, Nat.le_refl _, rfl, HS0⟩
  case round =>
    obtain ⟨i, hi, hg, rfl, HX⟩ := hrel
    have cw := HX.out.pt
    have vw := HX.out.sz
    have vw2 : w.heap.size + 1 < wr.heap.size := World.block_lt_of_cell? _ _ cw
    by_cases hlt : i < l.length
    · have z1 : (i : Int) < (l.length : Int) := by omega
      have z0 : (0 : Int) ≤ (i : Int) := by omega
      obtain ⟨a', c', e, _, hx⟩ := (HSL.out.kept HX.out.bl).open
      obtain ⟨rfl, rfl⟩ : a = a' ∧ c = c' := by simpa using e
      obtain ⟨b, o, rfl, hbl, _, hli⟩ := hx i hlt
      obtain ⟨k0, hun, xs, k8, hms⟩ := hli
      obtain ⟨k1, k2, k3, k4, xn, xm, xk, k5, k6, k7, hpr⟩ := lies_iff.1 hun
      have hnp : NmP B wr (l[i]) xn xm xk xs := ⟨hpr, hms⟩
      obtain ⟨a1, c1, a2, c2, a3, c3, a4, c4, rfl, rfl, rfl, rfl⟩ := hnp.form
      have q1 : wr.cell? ⟨b, o + i * 9 + 1, none⟩ = some (.int .i64 (l[i]).under.kind) := k1
      have q2 : wr.cell? ⟨b, o + i * 9 + 2, none⟩ = some (.string (l[i]).under.name) := k2
      have q3 : wr.cell? ⟨b, o + i * 9 + 3, none⟩ = some (.int .i64 (l[i]).under.n) := k3
      have q4 : wr.cell? ⟨b, o + i * 9 + 4, none⟩ = some (.bool (l[i]).under.flag) := k4
      have q5 : wr.cell? ⟨b, o + i * 9 + 5, none⟩ = some (.slice a1 (l[i]).under.names.length c1) := k5
      have q6 : wr.cell? ⟨b, o + i * 9 + 6, none⟩ = some (.slice a2 (l[i]).under.marks.length c2) := k6
      have q7 : wr.cell? ⟨b, o + i * 9 + 7, none⟩ = some (.slice a3 (l[i]).under.kids.length c3) := k7
      clear k1 k2 k3 k4 k5 k6 k7 hun hpr hms hx e
      obtain ⟨W3, hW3⟩ : ∃ W3, W3 = wr.alloc (.cells #[.string (l[i]).name, .int .i64 (l[i]).under.kind, .string (l[i]).under.name, .int .i64 (l[i]).under.n, .bool (l[i]).under.flag, .slice a1 (l[i]).under.names.length c1, .slice a2 (l[i]).under.marks.length c2, .slice a3 (l[i]).under.kids.length c3, .slice a4 (l[i]).mths.length c4] 40) := ⟨_, rfl⟩
      have hb3 : Below wr.heap.size wr W3.drew := by rw [hW3]; exact bthen (below_alloc _ _) (below_drew1 _)
      have hmi := List.getElem_mem hlt
      have HB3 : Hid (Below wr.heap.size wr W3.drew) := hb3
      have HLT : Hid (i < l.length) := hlt
      by_cases hme : (l[i]).name ∈ (l.take i).map Nmd.name
      · have had := (HX.out.tb.kept hb3).add_old (hnp.kept hb3) (HF.out.1 _ hmi).nm hme
        have HND : Hid (¬ (l.map Nmd.name).Nodup) := fun hn => nodup_take hlt hn hme
        unfold agN at had
        clear hb3 hmi hme hnp
        subst hW3
        go_wp2_with fail
        go_region_law
          (go_simp; go_wp2_with (go_at_call 21; refine had.mono ?_; rintro e w4 ⟨rfl, hb4⟩; have HB4 : Hid (Below wr.heap.size wr w4) := bthen HB3.out hb4; clear hb4 had))
        all_goals
          go_simp
          go_wp2_with fail
          go_ret2
          exact ⟨bthen HX.out.bl HB4.out, .inl ⟨HND.out, rfl⟩⟩
      · have hzz := HF.out.2.2.1
        have had := (HX.out.tb.kept hb3).add_new (hnp.kept hb3) (HF.out.2.1 _ hmi) (HF.out.1 _ hmi).nm (by unfold maxLen; omega) hme (fun b hb => by have := hb3.size; show w.heap.size + 2 ≤ b; omega) (fun e => by have e' : w.heap.size + 2 ≤ w.heap.size := e; omega)
        unfold agN at had
        clear hb3 hmi hme hnp
        subst hW3
        go_wp2_with fail
        go_region_law
          (go_simp; go_wp2_with (go_at_call 21; refine had.mono ?_; rintro e w4 ⟨rfl, htb, hk4⟩; have HST : Hid (NwS w l (i + 1) w4) := HX.out.step HLT.out HB3.out hk4 htb; clear hk4 htb had))
        all_goals
          go_simp
          go_wp2_with fail
          go_roundg (l.length - (i + 1))
          case measure => have := HLT.out; omega
          case rel => exact ⟨i + 1, by have := HLT.out; omega, Nat.le_refl _, by go_num, HST⟩
    · have z1 : ¬ (i : Int) < (l.length : Int) := by omega
      have htb := HX.out.tb
      rw [List.take_of_length_le (by omega)] at htb
      have HTB : Hid (TbS (fun b => w.heap.size + 2 ≤ b) wr w.heap.size i l) := htb
      have hci := circular_any htb HF.out.1 HF.out.2.2.1 HF.out.2.2.2
      by_cases hcr : ∃ a ∈ l.map Nmd.name, Rch (Hf l) a a
      · have hci2 : Calls Try.prog 22 #[.map (some w.heap.size)] wr fun e w' => e = .returned (.bool true) ∧ Below wr.heap.size wr w' := hci.mono (fun e w' hq => by
          obtain ⟨⟨q, rfl, hq⟩, hb⟩ := hq
          exact ⟨by rw [hq.2 hcr], hb⟩)
        have HCR : Hid (∃ a ∈ l.map Nmd.name, Rch (Hf l) a a) := hcr
        clear hci htb hcr
        go_wp2_with (go_at_call 22; refine hci2.mono ?_; rintro e w4 ⟨rfl, hb4⟩; have HB4 : Hid (Below wr.heap.size wr w4) := hb4; clear hb4 hci2)
        go_ret2
        exact ⟨bthen HX.out.bl HB4.out, .inr (.inl ⟨HTB.out.nd, HCR.out, rfl⟩)⟩
      · have hci2 : Calls Try.prog 22 #[.map (some w.heap.size)] wr fun e w' => e = .returned (.bool false) ∧ Below wr.heap.size wr w' := hci.mono (fun e w' hq => by
          obtain ⟨⟨q, rfl, hq⟩, hb⟩ := hq
          refine ⟨?_, hb⟩
          cases q with
          | true => exact absurd (hq.1 rfl) hcr
          | false => rfl)
        have HCR : Hid (¬ ∃ a ∈ l.map Nmd.name, Rch (Hf l) a a) := hcr
        have HCL : Hid (∀ W, Below wr.heap.size wr W → Calls Try.prog 23 #[.map (some w.heap.size)] W fun e w' => e = .returned (.bool (l.all (Nmd.clo (l.map Nmd.name)))) ∧ Below W.heap.size W w') := fun W hb => closed_any (HTB.out.kept hb) HF.out.1
        clear hci htb hcr
        generalize hall : l.all (Nmd.clo (l.map Nmd.name)) = q at HCL
        have HAL : Hid (l.all (Nmd.clo (l.map Nmd.name)) = q) := hall
        clear hall
        cases q with
        | false =>
          go_wp2_with (first
            | (go_at_call 22; refine hci2.mono ?_; rintro e w4 ⟨rfl, hb4⟩; have HB4 : Hid (Below wr.heap.size wr w4) := hb4; have cw4 := kept_cell hb4 HX.out.pt; have hcl := HCL.out w4 hb4; clear hb4 hci2)
            | (go_at_call 23; refine hcl.mono ?_; rintro e w5 ⟨rfl, hb5⟩; have HB5 : Hid (Below wr.heap.size wr w5) := bthen HB4.out hb5; clear hb5 hcl))
          go_ret2
          exact ⟨bthen HX.out.bl HB5.out, .inr (.inr (.inl ⟨HTB.out.nd, HCR.out, HAL.out, rfl⟩))⟩
        | true =>
          go_wp2_with (first
            | (go_at_call 22; refine hci2.mono ?_; rintro e w4 ⟨rfl, hb4⟩; have HB4 : Hid (Below wr.heap.size wr w4) := hb4; have cw4 := kept_cell hb4 HX.out.pt; have hcl := HCL.out w4 hb4; clear hb4 hci2)
            | (go_at_call 23; refine hcl.mono ?_; rintro e w5 ⟨rfl, hb5⟩; have HB5 : Hid (Below wr.heap.size wr w5) := bthen HB4.out hb5; clear hb5 hcl))
          go_ret2
          exact ⟨bthen HX.out.bl HB5.out, .inr (.inr (.inr ⟨HTB.out.nd, HCR.out, HAL.out, _, _, _, rfl, by omega, Nat.le_refl _, kept_cell HB5.out HX.out.pt, (HTB.out.kept HB5.out).wide (fun b _ h => by have h' : w.heap.size + 2 ≤ b := h; show w.heap.size ≤ b; omega)⟩))⟩
end Go.Proofs.Ytpcpncgigdebiaa

/-
  table.under with declared types, walked.
-/
namespace Go.Proofs.Ytpcpncgigdebiaa
open Go.RowKit
attribute [local go_sem ↓] Go.wp_at_zero Go.wp_at_succ
/-- r is what t is underneath, n declared types on -/
inductive Und (l : List Nmd) : Nat → Ty → Ty → Prop
  | kind (t : Ty) (h : t.kind ≠ 8) : Und l 0 t t
  | none (t : Ty) (h : t.kind = 8) (hn : t.name ∉ l.map Nmd.name) : Und l 0 t t
  | step (t : Ty) (u : Nmd) (r : Ty) (n : Nat) (h : t.kind = 8) (hu : u ∈ l) (e : u.name = t.name) (k : Und l n u.under r) : Und l (n + 1) t r
theorem TbS.find_some {K : BQ} {w : World} {b0 n : Nat} {l : List Nmd} (h : TbS K w b0 n l) {u : Nmd} (hu : u ∈ l) (hs : u.name.size ≤ maxLen) : ∃ an cn am cm ak ck sa sc, NmP K w u (.slice an u.under.names.length cn) (.slice am u.under.marks.length cm) (.slice ak u.under.kids.length ck) (.slice sa u.mths.length sc) ∧ Calls Try.prog 29 #[.map (some b0), .string u.name] w fun r w' => r = .returned (.tuple #[agN u (.slice an u.under.names.length cn) (.slice am u.under.marks.length cm) (.slice ak u.under.kids.length ck) (.slice sa u.mths.length sc), .bool true]) ∧ Below w.heap.size w w' := by
  obtain ⟨f, hm, hf⟩ := h.ex
  obtain ⟨xn, xm, xk, xs, e1, hp⟩ := hf u hu
  obtain ⟨a1, c1, a2, c2, a3, c3, a4, c4, rfl, rfl, rfl, rfl⟩ := hp.form
  refine ⟨_, _, _, _, _, _, _, _, hp, ?_⟩
  have := find_any hm u.name hs (by rw [e1]; rfl)
  rw [e1] at this
  exact this
theorem TbS.find_none {K : BQ} {w : World} {b0 n : Nat} {l : List Nmd} (h : TbS K w b0 n l) {s : ByteArray} (hn : s ∉ l.map Nmd.name) (hs : s.size ≤ maxLen) : Calls Try.prog 29 #[.map (some b0), .string s] w fun r w' => r = .returned (.tuple #[zN, .bool false]) ∧ Below w.heap.size w w' := by
  obtain ⟨f, hm, hf⟩ := h.ex
  have hno : f s = none := by
    obtain ⟨D, _, hD⟩ := hm.ex
    cases e : f s with
    | none => rfl
    | some v => exact absurd ((hD.mem _).2 (by rw [e]; rfl)) hn
  have := find_any hm s hs (by rw [hno]; rfl)
  rw [hno] at this
  exact this
/-- between two rounds of under -/
structure UdS (w : World) (l : List Nmd) (b0 n : Nat) (t : Ty) (an : Option Addr) (cn : Nat) (am : Option Addr) (cm : Nat) (ak : Option Addr) (ck : Nat) (W : World) : Prop where
  bl : Below w.heap.size w W
  bx : W.heap[w.heap.size]? = some (.cells #[.int .i64 t.kind, .string t.name, .int .i64 t.n, .bool t.flag, .slice an t.names.length cn, .slice am t.marks.length cm, .slice ak t.kids.length ck] 27 (0, 0))
  rs : W.heap[w.heap.size + 1]? = some (.cells #[.int .i64 0, .string ⟨#[]⟩, .int .i64 0, .bool false, .slice none 0 0, .slice none 0 0, .slice none 0 0] 27 (0, 0))
  pr : Prt (fun b => b < w.heap.size) W t (.slice an t.names.length cn) (.slice am t.marks.length cm) (.slice ak t.kids.length ck)
  tb : TbS (fun b => b < w.heap.size) W b0 n l
theorem UdS.kept {w : World} {l : List Nmd} {b0 n : Nat} {t : Ty} {an : Option Addr} {cn : Nat} {am : Option Addr} {cm : Nat} {ak : Option Addr} {ck : Nat} {W W' : World} (h : UdS w l b0 n t an cn am cm ak ck W) (hb : Below W.heap.size W W') : UdS w l b0 n t an cn am cm ak ck W' :=
  ⟨bthen h.bl hb, blk_kept hb h.bx, blk_kept hb h.rs, h.pr.kept hb, h.tb.kept hb⟩
theorem UdS.put {w : World} {l : List Nmd} {b0 n : Nat} {t u : Ty} {an : Option Addr} {cn : Nat} {am : Option Addr} {cm : Nat} {ak : Option Addr} {ck : Nat} {W W' : World} {xn : Option Addr} {yn : Nat} {xm : Option Addr} {ym : Nat} {xk : Option Addr} {yk : Nat} (h : UdS w l b0 n t an cn am cm ak ck W) (hb0 : b0 < w.heap.size) (hp : Prt (fun b => b < w.heap.size) W u (.slice xn u.names.length yn) (.slice xm u.marks.length ym) (.slice xk u.kids.length yk)) (hW : W' = ((((((W.setCell ⟨w.heap.size, 0, none⟩ (.int .i64 u.kind)).setCell ⟨w.heap.size, 1, none⟩ (.string u.name)).setCell ⟨w.heap.size, 2, none⟩ (.int .i64 u.n)).setCell ⟨w.heap.size, 3, none⟩ (.bool u.flag)).setCell ⟨w.heap.size, 4, none⟩ (.slice xn u.names.length yn)).setCell ⟨w.heap.size, 5, none⟩ (.slice xm u.marks.length ym)).setCell ⟨w.heap.size, 6, none⟩ (.slice xk u.kids.length yk)) : UdS w l b0 n u xn yn xm ym xk yk W' := by
  have hk : Kx (· = w.heap.size) W W' := by rw [hW]; exact kx_set7
  have hx : ∀ b, b < W.heap.size → b < w.heap.size → ¬ (b = w.heap.size) := fun b _ h e => by omega
  exact ⟨below_kx1 h.bl hk (Nat.le_refl _), by rw [hW]; exact bx7_set h.bx, hk.keep _ _ h.rs (by omega), hp.to hk (fun _ _ h => h) hx, h.tb.to hk (by omega) hx⟩
set_option maxRecDepth 100000 in
set_option maxHeartbeats 8000000 in
theorem under_any {K B : BQ} {w : World} {l : List Nmd} {b0 n N : Nat} {t r : Ty} {vn vm vk : Value} (hT : TbS K w b0 n l) (hs : ∀ u ∈ l, NmS u) (hp : Prt B w t vn vm vk) (hz : t.name.size ≤ maxLen) (hzz : ∀ u ∈ l, u.under.name.size ≤ maxLen) (hu : Und l N t r) : Calls Try.prog 35 #[.map (some b0), agT t vn vm vk] w (TyQ w (fun b => b < w.heap.size) r) := by
  obtain ⟨an, cn, am, cm, ak, ck, rfl, rfl, rfl⟩ := hp.form
  obtain ⟨W2, hW2⟩ : ∃ W2, W2 = (w.alloc (.cells #[.int .i64 t.kind, .string t.name, .int .i64 t.n, .bool t.flag, .slice an t.names.length cn, .slice am t.marks.length cm, .slice ak t.kids.length ck] 27)).alloc (.cells #[.int .i64 0, .string ⟨#[]⟩, .int .i64 0, .bool false, .slice none 0 0, .slice none 0 0, .slice none 0 0] 27) := ⟨_, rfl⟩
  have hb2 : Below w.heap.size w W2 := by rw [hW2]; exact bthen (below_alloc _ _) (below_alloc _ _)
  have HS0 : Hid (UdS w l b0 n t an cn am cm ak ck W2) := by
    refine ⟨hb2, ?_, ?_, (hp.with (fun b h _ => h)).kept hb2, (hT.wide (fun b h _ => h)).kept hb2⟩
    · rw [hW2]; exact blk_kept (below_alloc _ _) (heap_new _ _)
    · rw [hW2]
      have := heap_new (w.alloc (.cells #[.int .i64 t.kind, .string t.name, .int .i64 t.n, .bool t.flag, .slice an t.names.length cn, .slice am t.marks.length cm, .slice ak t.kids.length ck] 27)) (.cells #[.int .i64 0, .string ⟨#[]⟩, .int .i64 0, .bool false, .slice none 0 0, .slice none 0 0, .slice none 0 0] 27)
      rw [World.size_alloc] at this
      exact this
  have HB0 : Hid (b0 < w.heap.size) := hT.lt
  have HS : Hid ((∀ u ∈ l, NmS u) ∧ (∀ u ∈ l, u.under.name.size ≤ maxLen)) := ⟨hs, hzz⟩
  have HU : Hid (Und l N t r ∧ t.name.size ≤ maxLen) := ⟨hu, hz⟩
  unfold agT
  clear hT hs hp hu hb2 hz hzz
  subst hW2
  go_enter Try.func35, Try.ntmps35
  go_wp2_with fail
  go_loopg [] N (fun g wr => ∃ (m : Nat) (t' : Ty) (an : Option Addr) (cn : Nat) (am : Option Addr) (cm : Nat) (ak : Option Addr) (ck : Nat), m ≤ g ∧ Hid (Und l m t' r ∧ t'.name.size ≤ maxLen) ∧ Hid (UdS w l b0 n t' an cn am cm ak ck wr))
  case atStart => exact ⟨N, t, an, cn, am, cm, ak, ck, Nat.le_refl _, HU, HS0⟩
  case round =>
    clear HS0 HU
    obtain ⟨m, t', xn, yn, xm, ym, xk, yk, hm, HU, HX⟩ := hrel
    obtain ⟨y0, y1, y2, y3, y4, y5, y6⟩ := bx7 HX.out.bx
    obtain ⟨f0, f1, f2, f3, f4, f5, f6⟩ := bx7f HX.out.bx
    obtain ⟨g0, g1, g2, g3, g4, g5, g6⟩ := bx7f HX.out.rs
    obtain ⟨r0, r1, r2, r3, r4, r5, r6⟩ := bx7 HX.out.rs
    have hud := HU.out.1
    have hnz := HU.out.2
    cases hud with
    | kind _ h8 =>
      go_wp2_with fail
      have hkf := kx_set7 (w := wr) (g := w.heap.size + 1) (a := .int .i64 r.kind) (b := .string r.name) (c := .int .i64 r.n) (d := .bool r.flag) (x := .slice xn r.names.length yn) (y := .slice xm r.marks.length ym) (z := .slice xk r.kids.length yk)
      refine bodyPost_ret (v := agT r (.slice xn r.names.length yn) (.slice xm r.marks.length ym) (.slice xk r.kids.length yk)) (results_cell rfl rfl (resT (bx7_set HX.out.rs))) rfl ?_
      exact ⟨below_kx1 HX.out.bl hkf (by omega), _, _, _, rfl, HX.out.pr.to hkf (fun _ _ h => h) (fun b _ h e => by omega)⟩
    | none _ h8 hn =>
      have hfd := HX.out.tb.find_none hn hnz
      go_wp2_with (go_at_call 29; refine hfd.mono ?_; rintro e w4 ⟨rfl, hb4⟩; have HY : Hid (UdS w l b0 n r xn yn xm ym xk yk w4) := HX.out.kept hb4; obtain ⟨y0, y1, y2, y3, y4, y5, y6⟩ := bx7 HY.out.bx; obtain ⟨g0, g1, g2, g3, g4, g5, g6⟩ := bx7f HY.out.rs; have v0 := World.block_lt_of_cell? _ _ y0; obtain ⟨r0, r1, r2, r3, r4, r5, r6⟩ := bx7 HY.out.rs; have v1 := World.block_lt_of_cell? _ _ r0; clear hfd hb4)
      have hkf := kx_set7 (w := w4) (g := w.heap.size + 1) (a := .int .i64 8) (b := .string r.name) (c := .int .i64 r.n) (d := .bool r.flag) (x := .slice xn r.names.length yn) (y := .slice xm r.marks.length ym) (z := .slice xk r.kids.length yk)
      have hal := fun (W : World) => below_alloc W (.cells #[.string ⟨#[]⟩, .int .i64 0, .string ⟨#[]⟩, .int .i64 0, .bool false, .slice none 0 0, .slice none 0 0, .slice none 0 0, .slice none 0 0] 40)
      have hr8 : Value.agg #[.int .i64 8, .string r.name, .int .i64 r.n, .bool r.flag, .slice xn r.names.length yn, .slice xm r.marks.length ym, .slice xk r.kids.length yk] = agT r (.slice xn r.names.length yn) (.slice xm r.marks.length ym) (.slice xk r.kids.length yk) := by unfold agT; rw [h8]
      refine bodyPost_ret (v := .agg #[.int .i64 8, .string r.name, .int .i64 r.n, .bool r.flag, .slice xn r.names.length yn, .slice xm r.marks.length ym, .slice xk r.kids.length yk]) (results_cell rfl rfl (resT (blk_kept (hal _) (bx7_set HY.out.rs)))) rfl ?_
      exact ⟨bthen (below_kx1 HY.out.bl hkf (by omega)) (hal _), _, _, _, by rw [hr8], (HY.out.pr.to hkf (fun _ _ h => h) (fun b _ h e => by omega)).kept (hal _)⟩
    | step _ u _ m' h8 hu e hk =>
      have hus := (HS.out.1 u hu).nm
      obtain ⟨a1, c1, a2, c2, a3, c3, a4, c4, hnp, hfd⟩ := HX.out.tb.find_some hu hus
      have HUN : Hid (Und l m' u.under r ∧ u.under.name.size ≤ maxLen) := ⟨hk, HS.out.2 u hu⟩
      have HNP : Hid (Prt (fun b => b < w.heap.size) wr u.under (.slice a1 u.under.names.length c1) (.slice a2 u.under.marks.length c2) (.slice a3 u.under.kids.length c3)) := hnp.un
      rw [e] at hfd
      unfold agN at hfd
      clear hnp hk hu
      go_wp2_with (go_at_call 29; refine hfd.mono ?_; rintro e w4 ⟨rfl, hb4⟩; have HY : Hid (UdS w l b0 n t' xn yn xm ym xk yk w4) := HX.out.kept hb4; have HNQ : Hid (Prt _ w4 u.under _ _ _) := HNP.out.kept hb4; obtain ⟨f0, f1, f2, f3, f4, f5, f6⟩ := bx7f HY.out.bx; obtain ⟨y0, y1, y2, y3, y4, y5, y6⟩ := bx7 HY.out.bx; have v0 := World.block_lt_of_cell? _ _ y0; clear hfd hb4)
      have HST : Hid (UdS w l b0 n u.under a1 c1 a2 c2 a3 c3 _) := (HY.out.put HB0.out HNQ.out rfl).kept (below_alloc _ (.cells #[.string t'.name, .int .i64 u.under.kind, .string u.under.name, .int .i64 u.under.n, .bool u.under.flag, .slice a1 u.under.names.length c1, .slice a2 u.under.marks.length c2, .slice a3 u.under.kids.length c3, .slice a4 u.mths.length c4] 40))
      go_roundg m'
      case measure => omega
      case rel => exact ⟨m', u.under, a1, c1, a2, c2, a3, c3, Nat.le_refl _, HUN, HST⟩
end Go.Proofs.Ytpcpncgigdebiaa

/-
  Where no declared type holds itself, each type is something underneath: plain.
-/
namespace Go.Proofs.Ytpcpncgigdebiaa
open Go.RowKit
theorem find_name {l : List Nmd} {s : ByteArray} (h : s ∈ l.map Nmd.name) : ∃ u, l.find? (fun t => decide (t.name = s)) = some u ∧ u ∈ l ∧ u.name = s := by
  cases e : l.find? (fun t => decide (t.name = s)) with
  | none =>
    obtain ⟨u, hu, rfl⟩ := List.mem_map.1 h
    have := List.find?_eq_none.1 e u hu
    simp at this
  | some u => exact ⟨u, rfl, List.mem_of_find?_eq_some e, by simpa using List.find?_some e⟩
theorem hol_named {ks : List ByteArray} {t : Ty} (h8 : t.kind = 8) (hn : t.name ∈ ks) : t.name ∈ t.hol ks := by
  cases t with
  | mk k nm n f ns ms kd =>
    simp only [Ty.kind, Ty.name] at *
    subst h8
    unfold Ty.hol
    simp [memB, hn]
theorem und_or (l : List Nmd) : ∀ (m : Nat) (t : Ty), (∃ n r, n ≤ m ∧ Und l n t r) ∨ (t.kind = 8 ∧ ∃ s : Nat → ByteArray, s 0 = t.name ∧ (∀ i, i < m + 1 → s i ∈ l.map Nmd.name) ∧ ∀ i, i + 1 < m + 1 → s (i + 1) ∈ Hf l (s i))
  | m, t => by
    by_cases h8 : t.kind = 8
    · by_cases hn : t.name ∈ l.map Nmd.name
      · cases m with
        | zero => exact .inr ⟨h8, fun _ => t.name, rfl, fun i _ => hn, fun i hi => by omega⟩
        | succ m =>
          obtain ⟨u, hf, hu, e⟩ := find_name hn
          rcases und_or l m u.under with ⟨n, r, hle, hr⟩ | ⟨hk, s, h0, h1, h2⟩
          · exact .inl ⟨n + 1, r, by omega, .step t u r n h8 hu e hr⟩
          · refine .inr ⟨h8, fun i => match i with | 0 => t.name | j + 1 => s j, rfl, fun i hi => ?_, fun i hi => ?_⟩
            · cases i with
              | zero => exact hn
              | succ j => exact h1 j (by omega)
            · cases i with
              | zero =>
                show s 0 ∈ Hf l t.name
                unfold Hf
                rw [hf, h0]
                exact hol_named hk (h0 ▸ h1 0 (by omega))
              | succ j => exact h2 j (by omega)
      · exact .inl ⟨0, t, Nat.zero_le _, .none t h8 hn⟩
    · exact .inl ⟨0, t, Nat.zero_le _, .kind t h8⟩
/-- each type is something underneath -/
theorem und_ex {l : List Nmd} (hc : ¬ ∃ a ∈ l.map Nmd.name, Rch (Hf l) a a) (t : Ty) : ∃ n r, n ≤ l.length ∧ Und l n t r := by
  rcases und_or l l.length t with h | ⟨_, s, _, h1, h2⟩
  · exact h
  · exact absurd (way_circle s (l.length + 1) (by simp) h1 h2) hc
/-- it is one -/
theorem Und.one {l : List Nmd} (hd : (l.map Nmd.name).Nodup) : ∀ {n n' : Nat} {t r r' : Ty}, Und l n t r → Und l n' t r' → r = r' := by
  intro n n' t r r' h
  induction h generalizing n' with
  | kind t h8 =>
    intro k
    cases k with
    | kind => rfl
    | none => rfl
    | step _ u _ m h => exact absurd h h8
  | none t h8 hn =>
    intro k
    cases k with
    | kind => rfl
    | none => rfl
    | step _ u _ m h hu e => exact absurd (e ▸ List.mem_map_of_mem hu) hn
  | step t u r n h8 hu e _ ih =>
    intro k
    cases k with
    | kind _ h => exact absurd h8 h
    | none _ _ hn => exact absurd (e ▸ List.mem_map_of_mem hu) hn
    | step _ u' _ m h hu' e' k =>
      have : u = u' := nodup_name hd hu hu' (by rw [e, e'])
      subst this
      exact ih k
end Go.Proofs.Ytpcpncgigdebiaa

/-
  The document's Under with declared types, walked.
-/
namespace Go.Proofs.Ytpcpncgigdebiaa
open Go.RowKit
attribute [local go_sem ↓] Go.wp_at_zero Go.wp_at_succ
theorem fnd_get (s : ByteArray) : ∀ l : List Nmd, 0 ≤ fnd l s → ∃ i, ∃ (hi : i < l.length), fnd l s = (i : Int) ∧ (l[i]).name = s
  | [], h => by
    have e1 : fnd [] s = -1 := rfl
    omega
  | t :: r, h => by
    have e := fnd_drop (t :: r) s 0 (by simp)
    simp only [List.drop_zero, List.getElem_cons_zero, Nat.zero_add, List.drop_succ_cons] at e
    by_cases hn : t.name = s
    · rw [if_pos hn] at e
      exact ⟨0, by simp, by rw [e]; rfl, hn⟩
    · rw [if_neg hn] at e
      by_cases h0 : fnd r s < 0
      · rw [if_pos h0] at e; omega
      · rw [if_neg h0] at e
        obtain ⟨i, hi, e1, e2⟩ := fnd_get s r (by omega)
        exact ⟨i + 1, by simpa using hi, by rw [e, e1]; omega, by simpa using e2⟩
theorem w8_to {B : BQ} {X : Nat → Prop} {W W' : World} {V : Nat} {l : List Nmd} {B' : BQ} (h : W8S B W V l) (hk : Kx X W W') (hV : ¬ X V) (hX : ∀ b, b < W.heap.size → B b → ¬ X b) (hB : ∀ b, b < W.heap.size → B b → B' b) : W8S B' W' V l := by
  obtain ⟨v, h1, h2⟩ := h
  exact ⟨v, hk.cell h1 hV, h2.to hk hB hX⟩
/-- between two rounds of under -/
structure UrS (w : World) (l : List Nmd) (V : Nat) (t : Ty) (an : Option Addr) (cn : Nat) (am : Option Addr) (cm : Nat) (ak : Option Addr) (ck : Nat) (W : World) : Prop where
  bl : Below w.heap.size w W
  bx : W.heap[w.heap.size]? = some (.cells #[.int .i64 t.kind, .string t.name, .int .i64 t.n, .bool t.flag, .slice an t.names.length cn, .slice am t.marks.length cm, .slice ak t.kids.length ck] 27 (0, 0))
  rs : W.heap[w.heap.size + 1]? = some (.cells #[.int .i64 0, .string ⟨#[]⟩, .int .i64 0, .bool false, .slice none 0 0, .slice none 0 0, .slice none 0 0] 27 (0, 0))
  pr : Prt (fun b => b < w.heap.size) W t (.slice an t.names.length cn) (.slice am t.marks.length cm) (.slice ak t.kids.length ck)
  tb : W8S (fun b => b < w.heap.size) W V l
theorem UrS.kept {w : World} {l : List Nmd} {V : Nat} {t : Ty} {an : Option Addr} {cn : Nat} {am : Option Addr} {cm : Nat} {ak : Option Addr} {ck : Nat} {W W' : World} (h : UrS w l V t an cn am cm ak ck W) (hb : Below W.heap.size W W') : UrS w l V t an cn am cm ak ck W' :=
  ⟨bthen h.bl hb, blk_kept hb h.bx, blk_kept hb h.rs, h.pr.kept hb, h.tb.kept hb⟩
theorem UrS.put {w : World} {l : List Nmd} {V : Nat} {t u : Ty} {an : Option Addr} {cn : Nat} {am : Option Addr} {cm : Nat} {ak : Option Addr} {ck : Nat} {W W' : World} {xn : Option Addr} {yn : Nat} {xm : Option Addr} {ym : Nat} {xk : Option Addr} {yk : Nat} (h : UrS w l V t an cn am cm ak ck W) (hb0 : V < w.heap.size) (hp : Prt (fun b => b < w.heap.size) W u (.slice xn u.names.length yn) (.slice xm u.marks.length ym) (.slice xk u.kids.length yk)) (hW : W' = ((((((W.setCell ⟨w.heap.size, 0, none⟩ (.int .i64 u.kind)).setCell ⟨w.heap.size, 1, none⟩ (.string u.name)).setCell ⟨w.heap.size, 2, none⟩ (.int .i64 u.n)).setCell ⟨w.heap.size, 3, none⟩ (.bool u.flag)).setCell ⟨w.heap.size, 4, none⟩ (.slice xn u.names.length yn)).setCell ⟨w.heap.size, 5, none⟩ (.slice xm u.marks.length ym)).setCell ⟨w.heap.size, 6, none⟩ (.slice xk u.kids.length yk)) : UrS w l V u xn yn xm ym xk yk W' := by
  have hk : Kx (· = w.heap.size) W W' := by rw [hW]; exact kx_set7
  have hx : ∀ b, b < W.heap.size → b < w.heap.size → ¬ (b = w.heap.size) := fun b _ h e => by omega
  exact ⟨below_kx1 h.bl hk (Nat.le_refl _), by rw [hW]; exact bx7_set h.bx, hk.keep _ _ h.rs (by omega), hp.to hk (fun _ _ h => h) hx, w8_to h.tb hk (by omega) hx (fun _ _ h => h)⟩
set_option maxRecDepth 100000 in
set_option maxHeartbeats 8000000 in
theorem runder_any {K B : BQ} {w : World} {l : List Nmd} {V N : Nat} {t r : Ty} {vn vm vk : Value} (hT : W8S K w V l) (hd : (l.map Nmd.name).Nodup) (hp : Prt B w t vn vm vk) (hu : Und l N t r) : Calls Try.prog 14 #[.pointer (some ⟨V, 0, none⟩), agT t vn vm vk] w (TyQ w (fun b => b < w.heap.size) r) := by
  obtain ⟨an, cn, am, cm, ak, ck, rfl, rfl, rfl⟩ := hp.form
  obtain ⟨W2, hW2⟩ : ∃ W2, W2 = (w.alloc (.cells #[.int .i64 t.kind, .string t.name, .int .i64 t.n, .bool t.flag, .slice an t.names.length cn, .slice am t.marks.length cm, .slice ak t.kids.length ck] 27)).alloc (.cells #[.int .i64 0, .string ⟨#[]⟩, .int .i64 0, .bool false, .slice none 0 0, .slice none 0 0, .slice none 0 0] 27) := ⟨_, rfl⟩
  have hb2 : Below w.heap.size w W2 := by rw [hW2]; exact bthen (below_alloc _ _) (below_alloc _ _)
  have HS0 : Hid (UrS w l V t an cn am cm ak ck W2) := by
    refine ⟨hb2, ?_, ?_, (hp.with (fun b h _ => h)).kept hb2, (w8_to hT (X := fun _ => False) (Kx.refl _ _) (fun h => h) (fun _ _ _ h => h) (fun b h _ => h)).kept hb2⟩
    · rw [hW2]; exact blk_kept (below_alloc _ _) (heap_new _ _)
    · rw [hW2]
      have := heap_new (w.alloc (.cells #[.int .i64 t.kind, .string t.name, .int .i64 t.n, .bool t.flag, .slice an t.names.length cn, .slice am t.marks.length cm, .slice ak t.kids.length ck] 27)) (.cells #[.int .i64 0, .string ⟨#[]⟩, .int .i64 0, .bool false, .slice none 0 0, .slice none 0 0, .slice none 0 0] 27)
      rw [World.size_alloc] at this
      exact this
  have HB0 : Hid (V < w.heap.size) := by obtain ⟨v, hc, _⟩ := hT; exact World.block_lt_of_cell? _ _ hc
  have HS : Hid ((l.map Nmd.name).Nodup) := hd
  have HU : Hid (Und l N t r) := hu
  unfold agT
  clear hT hd hp hu hb2
  subst hW2
  go_enter Try.func14, Try.ntmps14
  go_wp2_with fail
  go_loopg [] N (fun g wr => ∃ (m : Nat) (t' : Ty) (an : Option Addr) (cn : Nat) (am : Option Addr) (cm : Nat) (ak : Option Addr) (ck : Nat), m ≤ g ∧ Hid (Und l m t' r) ∧ Hid (UrS w l V t' an cn am cm ak ck wr))
  case atStart => exact ⟨N, t, an, cn, am, cm, ak, ck, Nat.le_refl _, HU, HS0⟩
  case round =>
    clear HS0 HU
    obtain ⟨m, t', xn, yn, xm, ym, xk, yk, hm, HU, HX⟩ := hrel
    obtain ⟨y0, y1, y2, y3, y4, y5, y6⟩ := bx7 HX.out.bx
    obtain ⟨f0, f1, f2, f3, f4, f5, f6⟩ := bx7f HX.out.bx
    obtain ⟨g0, g1, g2, g3, g4, g5, g6⟩ := bx7f HX.out.rs
    obtain ⟨r0, r1, r2, r3, r4, r5, r6⟩ := bx7 HX.out.rs
    have hud := HU.out
    cases hud with
    | kind _ h8 =>
      go_wp2_with fail
      have hkf := kx_set7 (w := wr) (g := w.heap.size + 1) (a := .int .i64 r.kind) (b := .string r.name) (c := .int .i64 r.n) (d := .bool r.flag) (x := .slice xn r.names.length yn) (y := .slice xm r.marks.length ym) (z := .slice xk r.kids.length yk)
      refine bodyPost_ret (v := agT r (.slice xn r.names.length yn) (.slice xm r.marks.length ym) (.slice xk r.kids.length yk)) (results_cell rfl rfl (resT (bx7_set HX.out.rs))) rfl ?_
      exact ⟨below_kx1 HX.out.bl hkf (by omega), _, _, _, rfl, HX.out.pr.to hkf (fun _ _ h => h) (fun b _ h e => by omega)⟩
    | none _ h8 hn =>
      have hfd := rfind_any HX.out.tb r.name
      have hneg : fnd l r.name < 0 := by
        have := mt (fnd_mem r.name l).2 hn
        omega
      have hge := fnd_ge r.name l
      generalize fnd l r.name = q at hfd hneg hge
      go_wp2_with (go_at_call 24; refine hfd.mono ?_; rintro e w4 ⟨rfl, hw4⟩; subst hw4; clear hfd)
      have hkf := kx_set7 (w := w4) (g := w.heap.size + 1) (a := .int .i64 8) (b := .string r.name) (c := .int .i64 r.n) (d := .bool r.flag) (x := .slice xn r.names.length yn) (y := .slice xm r.marks.length ym) (z := .slice xk r.kids.length yk)
      have hr8 : Value.agg #[.int .i64 8, .string r.name, .int .i64 r.n, .bool r.flag, .slice xn r.names.length yn, .slice xm r.marks.length ym, .slice xk r.kids.length yk] = agT r (.slice xn r.names.length yn) (.slice xm r.marks.length ym) (.slice xk r.kids.length yk) := by unfold agT; rw [h8]
      refine bodyPost_ret (v := .agg #[.int .i64 8, .string r.name, .int .i64 r.n, .bool r.flag, .slice xn r.names.length yn, .slice xm r.marks.length ym, .slice xk r.kids.length yk]) (results_cell rfl rfl (resT (bx7_set HX.out.rs))) rfl ?_
      exact ⟨below_kx1 HX.out.bl hkf (by omega), _, _, _, by rw [hr8], HX.out.pr.to hkf (fun _ _ h => h) (fun b _ h e => by omega)⟩
    | step _ u _ m' h8 hu e hk =>
      have hfd := rfind_any HX.out.tb t'.name
      obtain ⟨i, hi, e1, e2⟩ := fnd_get t'.name l ((fnd_mem t'.name l).1 (by rw [← e]; exact List.mem_map_of_mem hu))
      have e3 : l[i] = u := nodup_name HS.out (List.getElem_mem hi) hu (by rw [e2, e])
      obtain ⟨v, hcv, hsl⟩ := HX.out.tb
      obtain ⟨a0, c0, rfl, _, hel⟩ := hsl.open
      obtain ⟨b, o, rfl, hbl, hbb, hli⟩ := hel i hi
      rw [e3] at hli
      obtain ⟨_, hun, _⟩ := hli
      obtain ⟨k1, k2, k3, k4, xn', xm', xk', k5, k6, k7, hpr⟩ := lies_iff.1 hun
      obtain ⟨a1, c1, a2, c2, a3, c3, rfl, rfl, rfl⟩ := hpr.form
      have HUN : Hid (Und l m' u.under r) := hk
      have HNP : Hid (Prt (fun b => b < w.heap.size) wr u.under (.slice a1 u.under.names.length c1) (.slice a2 u.under.marks.length c2) (.slice a3 u.under.kids.length c3)) := hpr
      rw [e1] at hfd
      have z0 : (0 : Int) ≤ (i : Int) := by omega
      have z1 : (i : Int) < (l.length : Int) := by omega
      have z2 : ¬ (i : Int) < 0 := by omega
      have hbb' : b < w.heap.size := hbb
      have hV := HB0.out
      clear hun hpr hk hu hel hsl e1 e2 e3
      go_wp2_with (go_at_call 24; refine hfd.mono ?_; rintro e w4 ⟨rfl, hw4⟩; subst hw4; clear hfd)
      have HST : Hid (UrS w l V u.under a1 c1 a2 c2 a3 c3 _) := HX.out.put HB0.out HNP.out rfl
      go_roundg m'
      case measure => omega
      case rel => exact ⟨m', u.under, a1, c1, a2, c2, a3, c3, Nat.le_refl _, HUN, HST⟩
end Go.Proofs.Ytpcpncgigdebiaa

