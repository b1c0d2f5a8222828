/-
  The reader's functions, walked: row, rule, all, one, tag.
-/
import Derived.Test.YtleiohccaagalaaGreatRdr
import Derived.Test.YtleiohccaagalaaGreatShelf
namespace Go.Proofs.YtleiohccaagalaaGreat
open Go.RowKit
attribute [local go_sem ↓] Go.wp_at_zero Go.wp_at_succ

theorem rule_of {B k : Nat} {o : Rd} (hs : Shr o) (hop : ∀ ts w, ts.length ≤ k → Rs B w ts → Calls Tryz.prog 40 #[.pointer (some ⟨B, 0, none⟩)] w (RdQ B w (allF o ts))) (ts : List Bs) (w : World) (ht : ts.length ≤ k) (h : Rs B w ts) :
    Calls Tryz.prog 28 #[.pointer (some ⟨B, 0, none⟩)] w (RdQ B w (ruleF o ts)) := by
  have h1 := rowOr_any (rowF_shr hs) hop ts w ht h
  change Calls Tryz.prog 39 _ w (RdQ B w (ruleF o ts)) at h1
  rw [show bs sOr = ⟨#[124, 124]⟩ from rfl] at h1
  clear hop h hs
  go_enter Tryz.func28, Tryz.ntmps28
  go_wp2_with (go_at_call 39; refine h1.mono ?_; intro e w1 hq; obtain ⟨v, ok, rfl, hi, hyes, hno⟩ := hq.any; have HK : Hid _ := hq.kp; have HY : Hid _ := hyes; have HN : Hid _ := hno; clear hq hyes hno h1)
  go_ret2
  exact ⟨HK.out, v, ok, rfl, hi, HY.out, HN.out⟩
theorem all_of' {B k : Nat} {o : Rd} (hs : Shr o) (hop : ∀ ts w, ts.length ≤ k → Rs B w ts → Calls Tryz.prog 51 #[.pointer (some ⟨B, 0, none⟩)] w (RdQ B w (o ts))) (ts : List Bs) (w : World) (ht : ts.length ≤ k) (h : Rs B w ts) :
    Calls Tryz.prog 40 #[.pointer (some ⟨B, 0, none⟩)] w (RdQ B w (allF o ts)) := by
  have h1 := rowAnd_any hs hop ts w ht h
  change Calls Tryz.prog 39 _ w (RdQ B w (allF o ts)) at h1
  rw [show bs sAnd = ⟨#[38, 38]⟩ from rfl] at h1
  clear hop h hs
  go_enter Tryz.func40, Tryz.ntmps40
  go_wp2_with (go_at_call 39; refine h1.mono ?_; intro e w1 hq; obtain ⟨v, ok, rfl, hi, hyes, hno⟩ := hq.any; have HK : Hid _ := hq.kp; have HY : Hid _ := hyes; have HN : Hid _ := hno; clear hq hyes hno h1)
  go_ret2
  exact ⟨HK.out, v, ok, rfl, hi, HY.out, HN.out⟩
theorem kept_cell {w w' : World} (h : Below w.heap.size w w') {a : Addr} {v : Value} (hc : w.cell? a = some v) : w'.cell? a = some v := (Kx.of_whole (X := fun _ => False) h).cell hc id
theorem kept_frozen {w w' : World} (h : Below w.heap.size w w') {a : Addr} {v : Value} (hc : w.cell? a = some v) : w'.frozen? a = w.frozen? a := (Kx.of_whole (X := fun _ => False) h).frozen hc id
theorem blk_kept {w w' : World} (h : Below w.heap.size w w') {b : Nat} {o : Obj} (hb : w.heap[b]? = some o) : w'.heap[b]? = some o := (h.block b (Array.getElem?_eq_some_iff.1 hb).1).trans hb
/-- a tag -/
def tagF : Rd
  | [] => none
  | t :: r => if idB t = true then some (.tag t, r) else none
theorem idn_idB (t : Bs) : idn (bs t) = idB t := by
  unfold idn idB
  cases t with
  | nil => decide +kernel
  | cons c r =>
    have h0 : 0 < (bs (c :: r)).size := by rw [bs_size]; simp
    have h1 : (bs (c :: r))[0]'h0 = c := by simp [bs, ByteArray.getElem_eq_getElem_data]
    rw [dif_pos h0, h1, bs_toList, bs_list, bs_size]
theorem sclone_any (s : ByteArray) (w : World) (hs : s.size ≤ 281474976710656) : Calls Tryz.prog 75 #[.string s] w fun e w' => e = .returned (.string s) ∧ Below w.heap.size w w' := by
  have h1 := Tryz.stringslite_Clone s w hs
  change Calls Tryz.prog 81 _ w _ at h1
  go_enter Tryz.func75, Tryz.ntmps75
  go_wp2_with (go_at_call 81; refine h1.mono ?_; rintro e w1 ⟨rfl, hb⟩)
  go_ret
  exact ⟨rfl, hb⟩
set_option maxRecDepth 100000 in
set_option maxHeartbeats 2000000 in
theorem tag_any {B : Nat} {w : World} {ts : List Bs} (h : Rs B w ts) : Calls Tryz.prog 67 #[.pointer (some ⟨B, 0, none⟩)] w (RdQ B w (tagF ts)) := by
  have hlt := h.lt
  have HRS : Hid (Rs B w ts) := h
  obtain ⟨a, n, c, hb, hr⟩ := h.ex
  obtain ⟨c0, f0⟩ := bx1 hb
  cases ts with
  | nil =>
    obtain rfl := hr.len
    go_enter Tryz.func67, Tryz.ntmps67
    go_wp2_with fail
    go_ret2
    exact ⟨.refl _ _, _, false, rfl, .inl rfl, (fun h => by cases h), fun _ => rfl⟩
  | cons t r =>
    obtain ⟨g, o, rfl, hg, hc⟩ := hr.at_ (by simp)
    have ht := hc 0 t rfl
    rw [Nat.add_zero] at ht
    have hlen := hr.len
    rw [List.length_cons] at hlen
    have HL : Hid (n = r.length + 1) := hlen
    have hcap := hr.cap
    have hsm := hr.small
    have HB : Hid (w.heap[B]? = some (.cells #[.slice (some ⟨g, o, none⟩) n c] 62 (0, 0))) := hb
    have HC : Hid (∀ i x, (t :: r)[i]? = some x → w.cell? ⟨g, o + i, none⟩ = some (.string (bs x))) := hc
    have k0 : ((n : Int) == 0) = false := nat_bne (b := 0) (by omega)
    have k1 : (0 : Int) < (n : Int) := by omega
    have hid := ident_any (bs t)
    rw [idn_idB] at hid
    cases hi : idB t with
    | false =>
      rw [hi] at hid
      clear hb hc hr hlen h
      rw [show tagF (t :: r) = none by simp [tagF, hi]]
      go_enter Tryz.func67, Tryz.ntmps67
      go_wp2_with (go_at_call 74; refine (hid _).mono ?_; rintro e w1 ⟨rfl, hb1⟩; have HB1 : Hid _ := hb1; clear hb1)
      go_ret2
      exact ⟨Kx.of_whole HB1.out, _, false, rfl, .inl rfl, (fun h => by cases h), fun _ => rfl⟩
    | true =>
      rw [hi] at hid
      rw [show tagF (t :: r) = some (.tag t, r) by simp [tagF, hi]]
      have hsz : (bs t).size ≤ 281474976710656 := by
        rw [bs_size]
        have := hi
        simp only [idB, Bool.and_eq_true, decide_eq_true_eq] at this
        omega
      have hcl := fun w => sclone_any (bs t) w hsz
      have k3 : ¬ (c : Int) < 1 := by omega
      have k4 : ¬ (n : Int) < 1 := by omega
      clear hb hc hr hlen h hsz
      by_cases hc1 : c = 1
      · subst hc1
        go_enter Tryz.func67, Tryz.ntmps67
        go_wp2_with (first
          | (go_at_call 74; refine (hid _).mono ?_; rintro e w1 ⟨rfl, hb1⟩; have c1 := kept_cell hb1 c0; have t1 := kept_cell hb1 ht; have f1 := (kept_frozen hb1 c0).trans f0; have z1 := hb1.size; have HB1 : Hid _ := hb1; clear hb1 c0 ht f0)
          | (go_at_call 75; refine (hcl _).mono ?_; rintro e w2 ⟨rfl, hb2⟩; have c2 := kept_cell hb2 c1; have f2 := (kept_frozen hb2 c1).trans f1; have z2 := hb2.size; have HB2 : Hid _ := hb2; clear hb2 c1 t1 f1))
        go_ret2
        have := HL.out
        exact ⟨((Kx.of_whole HB1.out).trans (Kx.of_whole HB2.out)).trans kx_set, _, true, rfl, .inr ⟨_, _, rfl⟩, (fun _ => ⟨_, _, rfl, rfl, ⟨_, _, _, bx1_set (blk_kept HB2.out (blk_kept HB1.out HB.out)), ⟨by omega, by omega, by omega, fun hne => absurd (List.length_pos_iff.2 hne) (by omega)⟩⟩⟩), fun h => by cases h⟩
      · have k5 : (c = 1) = False := eq_false hc1
        go_enter Tryz.func67, Tryz.ntmps67
        go_wp2_with (first
          | (go_at_call 74; refine (hid _).mono ?_; rintro e w1 ⟨rfl, hb1⟩; have c1 := kept_cell hb1 c0; have t1 := kept_cell hb1 ht; have f1 := (kept_frozen hb1 c0).trans f0; have z1 := hb1.size; have HB1 : Hid _ := hb1; clear hb1 c0 ht f0)
          | (go_at_call 75; refine (hcl _).mono ?_; rintro e w2 ⟨rfl, hb2⟩; have c2 := kept_cell hb2 c1; have f2 := (kept_frozen hb2 c1).trans f1; have z2 := hb2.size; have HB2 : Hid _ := hb2; clear hb2 c1 t1 f1))
        go_ret2
        have := HL.out
        have KP := ((Kx.of_whole (X := (· = B)) HB1.out).trans (Kx.of_whole HB2.out)).trans (kx_set (u := .slice (some ⟨g, o + 1, none⟩) (n - 1) (c - 1)) (o := 0))
        exact ⟨KP, _, true, rfl, .inr ⟨_, _, rfl⟩, (fun _ => ⟨_, _, rfl, rfl, ⟨_, _, _, bx1_set (blk_kept HB2.out (blk_kept HB1.out HB.out)), ⟨by omega, by omega, by omega, fun _ => ⟨g, o + 1, rfl, hg, fun i x hx => by
          have := KP.cell (HC.out (i + 1) x (by simpa using hx)) hg
          rwa [show o + (i + 1) = o + 1 + i by omega] at this⟩⟩⟩⟩), fun h => by cases h⟩

theorem RdQ.not {B : Nat} {w w' : World} {e : Ending} (h : RdQ B w none e w') : ∃ v, e = .returned (.tuple #[v, .bool false]) ∧ IfV v ∧ Kx (· = B) w w' := by
  obtain ⟨v, ok, he, hi, hy, hn⟩ := h.any
  cases ok with
  | false => exact ⟨v, he, hi, h.kp⟩
  | true => obtain ⟨_, _, h2, _⟩ := hy rfl; cases h2
theorem RdQ.yes {B : Nat} {w w' : World} {p : Pt} {r : List Bs} {e : Ending} (h : RdQ B w (some (p, r)) e w') : e = .returned (.tuple #[enc p, .bool true]) ∧ Kx (· = B) w w' ∧ Rs B w' r := by
  obtain ⟨v, ok, he, hi, hy, hn⟩ := h.any
  cases ok with
  | false => cases hn rfl
  | true =>
    obtain ⟨_, _, h2, h3, h4⟩ := hy rfl
    cases h2
    rw [h3] at he
    exact ⟨he, h.kp, h4⟩
set_option maxRecDepth 100000 in
set_option maxHeartbeats 4000000 in
theorem one_any {B : Nat} (n : Nat) : ∀ ts w, ts.length < n → Rs B w ts → Calls Tryz.prog 51 #[.pointer (some ⟨B, 0, none⟩)] w (RdQ B w (one n ts)) := by
  induction n with
  | zero => intro ts w h; omega
  | succ n ih =>
    intro ts w hn h
    by_cases h1 : ∃ r, ts = sNot :: r
    · obtain ⟨r, rfl⟩ := h1
      have ht := took_yes h
      simp only [List.length_cons] at hn
      have HI : Hid (∀ w, Rs B w r → Calls Tryz.prog 51 #[.pointer (some ⟨B, 0, none⟩)] w (RdQ B w (one n r))) := fun w h => ih r w (by omega) h
      rw [show one (n + 1) (sNot :: r) = (one n r).map fun x => (.not x.1, x.2) by show oneF (one n) _ = _; simp [oneF]]
      rw [show bs sNot = ⟨#[33]⟩ from rfl] at ht
      clear h hn ih
      cases ho : one n r with
      | none =>
        rw [ho] at HI
        clear ho
        go_enter Tryz.func51, Tryz.ntmps51
        go_wp2_with (first
          | (go_at_call 50; refine ht.mono ?_; rintro e w1 ⟨rfl, kp1, rs1⟩; have hi := HI.out _ rs1; have HK1 : Hid _ := kp1; clear kp1 rs1 ht)
          | (go_at_call 51; refine hi.mono ?_; intro e w2 hq; obtain ⟨v, rfl, hv, kp2⟩ := hq.not; have HK2 : Hid _ := kp2; clear hq kp2 hi; rcases hv with rfl | ⟨tv, xv, rfl⟩))
        all_goals
          go_ret2
          exact ⟨HK1.out.trans HK2.out, _, false, rfl, .inr ⟨_, _, rfl⟩, (fun h => by cases h), fun _ => rfl⟩
      | some x =>
        obtain ⟨p, s⟩ := x
        rw [ho] at HI
        clear ho
        obtain ⟨tp, xp, hp⟩ := enc_if p
        have HE : Hid (enc p = .iface tp xp) := hp
        clear hp
        go_enter Tryz.func51, Tryz.ntmps51
        go_wp2_with (first
          | (go_at_call 50; refine ht.mono ?_; rintro e w1 ⟨rfl, kp1, rs1⟩; have hi := HI.out _ rs1; have HK1 : Hid _ := kp1; clear kp1 rs1 ht)
          | (go_at_call 51; refine hi.mono ?_; intro e w2 hq; obtain ⟨he, kp2, rs2⟩ := hq.yes; rw [HE.out] at he; subst he; have HK2 : Hid _ := kp2; have HR2 : Hid _ := rs2; clear hq kp2 rs2 hi))
        go_ret2
        exact ⟨HK1.out.trans HK2.out, _, true, rfl, .inr ⟨_, _, rfl⟩, (fun _ => ⟨.not p, s, rfl, (by rw [enc, HE.out]; rfl), HR2.out⟩), fun h => by cases h⟩
    · have t1 := took_no h (fun r e => h1 ⟨r, e⟩)
      rw [show bs sNot = ⟨#[33]⟩ from rfl] at t1
      by_cases h2 : ∃ r, ts = sO :: r
      · obtain ⟨r, rfl⟩ := h2
        have t2 := took_yes h
        rw [show bs sO = ⟨#[40]⟩ from rfl] at t2
        simp only [List.length_cons] at hn
        have HI : Hid (∀ w, Rs B w r → Calls Tryz.prog 28 #[.pointer (some ⟨B, 0, none⟩)] w (RdQ B w (ruleF (one n) r))) := fun w h =>
          rule_of (k := r.length) (one_shr n) (fun ts w hk h => all_of' (k := r.length) (one_shr n) (fun ts w hk h => ih ts w (by omega) h) ts w hk h) r w (Nat.le_refl _) h
        rw [show one (n + 1) (sO :: r) = (ruleF (one n) r).bind shut by show oneF (one n) _ = _; simp [oneF, sO, sNot]]
        clear hn ih h1
        cases ho : ruleF (one n) r with
        | none =>
          rw [ho] at HI
          clear ho
          go_enter Tryz.func51, Tryz.ntmps51
          go_wp2_with (first
            | (go_at_call 50; refine t1.mono ?_; rintro e w1 ⟨rfl, hw1⟩; obtain rfl := hw1.symm; clear t1)
            | (go_at_call 50; refine t2.mono ?_; rintro e w2 ⟨rfl, kp2, rs2⟩; have hi := HI.out _ rs2; have HK2 : Hid _ := kp2; clear kp2 rs2 t2)
            | (go_at_call 28; refine hi.mono ?_; intro e w3 hq; obtain ⟨v, rfl, hv, kp3⟩ := hq.not; have HK3 : Hid _ := kp3; clear hq kp3 hi))
          go_ret2
          exact ⟨HK2.out.trans HK3.out, _, false, rfl, hv, (fun h => by cases h), fun _ => rfl⟩
        | some x =>
          obtain ⟨p, s⟩ := x
          rw [ho] at HI
          clear ho
          obtain ⟨tp, xp, hp⟩ := enc_if p
          have HE : Hid (enc p = .iface tp xp) := hp
          clear hp
          by_cases h3 : ∃ s', s = sC :: s'
          · obtain ⟨s', rfl⟩ := h3
            have HT3 : Hid (∀ w, Rs B w (sC :: s') → Calls Tryz.prog 50 #[.pointer (some ⟨B, 0, none⟩), .string ⟨#[41]⟩] w fun e w' => e = .returned (.bool true) ∧ Kx (· = B) w w' ∧ Rs B w' s') := fun w h => took_yes h
            go_enter Tryz.func51, Tryz.ntmps51
            go_wp2_with (first
              | (go_at_call 50; refine t1.mono ?_; rintro e w1 ⟨rfl, hw1⟩; obtain rfl := hw1.symm; clear t1)
              | (go_at_call 50; refine t2.mono ?_; rintro e w2 ⟨rfl, kp2, rs2⟩; have hi := HI.out _ rs2; have HK2 : Hid _ := kp2; clear kp2 rs2 t2)
              | (go_at_call 28; refine hi.mono ?_; intro e w3 hq; obtain ⟨he, kp3, rs3⟩ := hq.yes; rw [HE.out] at he; subst he; have t3 := HT3.out _ rs3; have HK3 : Hid _ := kp3; clear hq kp3 rs3 hi)
              | (go_at_call 50; refine t3.mono ?_; rintro e w4 ⟨rfl, kp4, rs4⟩; have HK4 : Hid _ := kp4; have HR4 : Hid _ := rs4; clear t3 kp4 rs4))
            go_ret2
            exact ⟨(HK2.out.trans HK3.out).trans HK4.out, _, true, rfl, .inr ⟨_, _, rfl⟩, (fun _ => ⟨p, s', by simp [shut], HE.out.symm, HR4.out⟩), fun h => by cases h⟩
          · have HT3 : Hid (∀ w, Rs B w s → Calls Tryz.prog 50 #[.pointer (some ⟨B, 0, none⟩), .string ⟨#[41]⟩] w fun e w' => e = .returned (.bool false) ∧ w' = w) := fun w h => took_no h (fun r e => h3 ⟨r, e⟩)
            have HS : Hid ((some (p, s)).bind shut = none) := by
              show _ = _
              cases s with
              | nil => rfl
              | cons c s => simp only [Option.bind_some, shut]; rw [if_neg (fun e => h3 ⟨s, by rw [e]⟩)]
            clear h3
            go_enter Tryz.func51, Tryz.ntmps51
            go_wp2_with (first
              | (go_at_call 50; refine t1.mono ?_; rintro e w1 ⟨rfl, hw1⟩; obtain rfl := hw1.symm; clear t1)
              | (go_at_call 50; refine t2.mono ?_; rintro e w2 ⟨rfl, kp2, rs2⟩; have hi := HI.out _ rs2; have HK2 : Hid _ := kp2; clear kp2 rs2 t2)
              | (go_at_call 28; refine hi.mono ?_; intro e w3 hq; obtain ⟨he, kp3, rs3⟩ := hq.yes; rw [HE.out] at he; subst he; have t3 := HT3.out _ rs3; have HK3 : Hid _ := kp3; clear hq kp3 rs3 hi)
              | (go_at_call 50; refine t3.mono ?_; rintro e w4 ⟨rfl, hw4⟩; obtain rfl := hw4.symm; clear t3))
            go_ret2
            exact ⟨HK2.out.trans HK3.out, _, false, rfl, .inr ⟨_, _, rfl⟩, (fun h => by cases h), fun _ => HS.out⟩
      · have t2 := took_no h (fun r e => h2 ⟨r, e⟩)
        rw [show bs sO = ⟨#[40]⟩ from rfl] at t2
        by_cases h3 : ∃ r, ts = sTrue :: r
        · obtain ⟨r, rfl⟩ := h3
          have t3 := took_yes h
          rw [show bs sTrue = ⟨#[116, 114, 117, 101]⟩ from rfl] at t3
          rw [show one (n + 1) (sTrue :: r) = some (.yes, r) by show oneF (one n) _ = _; simp [oneF, sO, sNot, sTrue]]
          clear ih hn h1 h2
          go_enter Tryz.func51, Tryz.ntmps51
          go_wp2_with (first
            | (go_at_call 50; refine t1.mono ?_; rintro e w1 ⟨rfl, hw1⟩; obtain rfl := hw1.symm; clear t1)
            | (go_at_call 50; refine t2.mono ?_; rintro e w2 ⟨rfl, hw2⟩; obtain rfl := hw2.symm; clear t2)
            | (go_at_call 50; refine t3.mono ?_; rintro e w3 ⟨rfl, kp3, rs3⟩; have HK3 : Hid _ := kp3; have HR3 : Hid _ := rs3; clear t3 kp3 rs3))
          go_ret2
          exact ⟨HK3.out, _, true, rfl, .inr ⟨_, _, rfl⟩, (fun _ => ⟨.yes, r, rfl, rfl, HR3.out⟩), fun h => by cases h⟩
        · have t3 := took_no h (fun r e => h3 ⟨r, e⟩)
          rw [show bs sTrue = ⟨#[116, 114, 117, 101]⟩ from rfl] at t3
          have ht := tag_any h
          rw [show tagF ts = one (n + 1) ts by
            show _ = oneF (one n) ts
            cases ts with
            | nil => rfl
            | cons t r =>
              simp only [tagF, oneF]
              rw [if_neg (c := t = sNot) (fun e => h1 ⟨r, by rw [e]⟩), if_neg (c := t = sO) (fun e => h2 ⟨r, by rw [e]⟩), if_neg (c := t = sTrue) (fun e => h3 ⟨r, by rw [e]⟩)]] at ht
          generalize one (n + 1) ts = RES at *
          clear ih hn h1 h2 h3
          go_enter Tryz.func51, Tryz.ntmps51
          go_wp2_with (first
            | (go_at_call 50; refine t1.mono ?_; rintro e w1 ⟨rfl, hw1⟩; obtain rfl := hw1.symm; clear t1)
            | (go_at_call 50; refine t2.mono ?_; rintro e w2 ⟨rfl, hw2⟩; obtain rfl := hw2.symm; clear t2)
            | (go_at_call 50; refine t3.mono ?_; rintro e w3 ⟨rfl, hw3⟩; obtain rfl := hw3.symm; clear t3)
            | (go_at_call 67; refine ht.mono ?_; intro e w4 hq; obtain ⟨v, ok, rfl, hi, hyes, hno⟩ := hq.any; have HK : Hid _ := hq.kp; have HY : Hid _ := hyes; have HN : Hid _ := hno; clear hq hyes hno ht))
          go_ret2
          exact ⟨HK.out, v, ok, rfl, hi, HY.out, HN.out⟩
theorem rule_any {B : Nat} (n : Nat) (ts : List Bs) (w : World) (hn : ts.length < n) (h : Rs B w ts) : Calls Tryz.prog 28 #[.pointer (some ⟨B, 0, none⟩)] w (RdQ B w (rule n ts)) :=
  rule_of (k := ts.length) (one_shr n) (fun ts' w hk h => all_of' (k := ts.length) (one_shr n) (fun ts'' w hk h => one_any n ts'' w (by omega) h) ts' w hk h) ts w (Nat.le_refl _) h
end Go.Proofs.YtleiohccaagalaaGreat
