/-
  The reader's functions, walked: row, rule, all, one, tag.
-/
import Derived.Test.YtleiohccaagalaaGreatEnc
namespace Go.Proofs.YtleiohccaagalaaGreat
open Go.RowKit
attribute [local go_sem ↓] Go.wp_at_zero Go.wp_at_succ
def IfV (v : Value) : Prop := v = .nilIface ∨ ∃ t x, v = .iface t x
theorem enc_ifv (p : Pt) : IfV (enc p) := .inr (enc_if p)
/-- what a reader answers: a rule and what is left; or that there is none -/
structure RdQ (B : Nat) (w : World) (res : Option (Pt × List Bs)) (e : Ending) (w' : World) : Prop where
  kp : Kx (· = B) w w'
  any : ∃ v ok, e = .returned (.tuple #[v, .bool ok]) ∧ IfV v ∧ (ok = true → ∃ p r, res = some (p, r) ∧ v = enc p ∧ Rs B w' r) ∧ (ok = false → res = none)
theorem took_yes {B : Nat} {w : World} {sg : Bs} {r : List Bs} (h : Rs B w (sg :: r)) : Calls Tryz.prog 50 #[.pointer (some ⟨B, 0, none⟩), .string (bs sg)] w fun e w' => e = .returned (.bool true) ∧ Kx (· = B) w w' ∧ Rs B w' r := by
  refine (took_any h sg).mono ?_
  rintro e w' ⟨kp, b, he, hb⟩
  cases b with
  | false => exact absurd rfl (hb.2 r)
  | true =>
    obtain ⟨r', e2, h2⟩ := hb
    simp only [List.cons.injEq, true_and] at e2
    subst e2
    exact ⟨he, kp, h2⟩
theorem took_no {B : Nat} {w : World} {sg : Bs} {r : List Bs} (h : Rs B w r) (hn : ∀ r', r ≠ sg :: r') : Calls Tryz.prog 50 #[.pointer (some ⟨B, 0, none⟩), .string (bs sg)] w fun e w' => e = .returned (.bool false) ∧ w' = w := by
  refine (took_any h sg).mono ?_
  rintro e w' ⟨kp, b, he, hb⟩
  cases b with
  | false => exact ⟨he, hb.1⟩
  | true =>
    obtain ⟨r', e2, h2⟩ := hb
    exact absurd e2 (hn r')

theorem joinOr_any (a b : Value) (ha : IfV a) (hb : IfV b) (w : World) : Calls Tryz.prog 41 #[.agg #[a, b]] w fun e w' => e = .returned (.iface 80 (.agg #[a, b])) ∧ Below w.heap.size w w' := by
  rcases ha with rfl | ⟨ta, xa, rfl⟩ <;> rcases hb with rfl | ⟨tb, xb, rfl⟩
  all_goals
    go_enter Tryz.func41, Tryz.ntmps41
    go_wp2_with fail
    go_ret
    exact ⟨rfl, (Below.refl _ _).alloc (Nat.le_refl _) _⟩
/-- where the loop of row stands -/
structure LSOr (B k : Nat) (op : Rd) (RES : Option (Pt × List Bs)) (w : World) (g : Nat) (v : Value) (ok : Bool) (wr : World) : Prop where
  kp : Kx (· = B) w wr
  yes : ok = true → ∃ l r, v = enc l ∧ Rs B wr r ∧ r.length + 1 ≤ g ∧ r.length ≤ k ∧ moreN sOr op .either l r = RES
  no : ok = false → RES = none
set_option maxRecDepth 100000 in
set_option maxHeartbeats 4000000 in
theorem rowOr_any {B k : Nat} {op : Rd} (hs : Shr op) (hop : ∀ ts w, ts.length ≤ k → Rs B w ts → Calls Tryz.prog 40 #[.pointer (some ⟨B, 0, none⟩)] w (RdQ B w (op ts))) (ts : List Bs) (w : World) (ht : ts.length ≤ k) (h : Rs B w ts) :
    Calls Tryz.prog 39 #[.pointer (some ⟨B, 0, none⟩), .string (bs sOr), .func (.func 40) #[.pointer (some ⟨B, 0, none⟩)] #[], .func (.func 41) #[] #[]] w (RdQ B w (rowF sOr op .either ts)) := by
  have HOP : Hid (∀ ts w, ts.length ≤ k → Rs B w ts → Calls Tryz.prog 40 #[.pointer (some ⟨B, 0, none⟩)] w (RdQ B w (op ts))) := hop
  have HS : Hid (Shr op) := hs
  have h1 := hop ts w ht h
  obtain ⟨RES, hRES⟩ : ∃ R, R = rowF sOr op .either ts := ⟨_, rfl⟩
  rw [← hRES]
  have HR : Hid (RES = (op ts).bind fun x => moreN sOr op .either x.1 x.2) := hRES
  have HTL : Hid (ts.length ≤ k) := ht
  clear hop h hs hRES ht
  go_enter Tryz.func39, Tryz.ntmps39
  go_wp2_with (go_at_call 40; refine h1.mono ?_; intro e w1 hq; obtain ⟨v1, ok1, rfl, hi1, hyes, hno⟩ := hq.any; have KP := hq.kp; clear hq h1)
  have HL : Hid (LSOr B k op RES w (ts.length + 1) v1 ok1 w1) := ⟨KP, fun h => by
      obtain ⟨p, r, e1, e2, e3⟩ := hyes h
      have hsr := HS.out _ _ _ e1
      refine ⟨p, r, e2, e3, by omega, ?_, ?_⟩
      · have := HTL.out; omega
      · rw [HR.out, e1]; rfl, fun h => by rw [HR.out, hno h]; rfl⟩
  clear hyes hno KP HR
  go_loopg [10, 11] (ts.length + 1) (fun g s10 s11 wr => ∃ v ok, s10 = v ∧ s11 = .bool ok ∧ IfV v ∧ Hid (LSOr B k op RES w g v ok wr))
  case atStart => exact ⟨v1, ok1, rfl, rfl, hi1, HL⟩
  case round =>
    obtain ⟨v, ok, rfl, rfl, hi, HX⟩ := hrel
    cases ok with
    | false =>
      go_wp2_with fail
      go_ret2
      exact ⟨HX.out.kp, _, false, rfl, hi, (fun h => by cases h), fun _ => HX.out.no rfl⟩
    | true =>
      obtain ⟨l, r, hv, hrs, hg, hk, hm⟩ := HX.out.yes rfl
      obtain ⟨tl, xl, hl⟩ := enc_if l
      rw [hl] at hv
      subst hv
      have HE : Hid (enc l = .iface tl xl) := hl
      have HM : Hid (moreN sOr op .either l r = RES) := hm
      have HKP : Hid (Kx (· = B) w wr) := HX.out.kp
      have hbl := hrs.lt
      clear hm hl hi HX
      by_cases hsg : ∃ r', r = sOr :: r'
      · obtain ⟨r', rfl⟩ := hsg
        have HT := took_yes hrs
        simp only [List.length_cons] at hg hk
        have HM2 : Hid ((op r').bind (fun x => moreN sOr op .either (.either l x.1) x.2) = RES) := by have := HM.out; rw [moreN_step HS.out] at this; exact this
        clear HM hrs
        go_wp2_with (first
          | (go_at_call 50; refine HT.mono ?_; rintro e w2 ⟨rfl, kp2, rs2⟩; have hop2 := HOP.out r' w2 (by omega) rs2; have HK2 : Hid (Kx (· = B) w w2) := HKP.out.trans kp2; clear HT kp2 rs2)
          | (go_at_call 40; refine hop2.mono ?_; intro e w3 hq; obtain ⟨v3, ok3, rfl, hi3, hyes, hno⟩ := hq.any; have HK3 : Hid (Kx (· = B) w w3) := HK2.out.trans hq.kp; have HYES : Hid _ := hyes; have HNO : Hid _ := hno; clear hq hop2 hyes hno; rcases hi3 with rfl | ⟨t3, x3, rfl⟩)
          | (go_at_call 41; refine (joinOr_any _ _ (.inr ⟨_, _, rfl⟩) (by first | exact .inl rfl | exact .inr ⟨_, _, rfl⟩) _).mono ?_; rintro e w4 ⟨rfl, hb4⟩; have HB4 : Hid _ := hb4; clear hb4))
        all_goals
          go_roundg r'.length
          case measure => omega
          case rel =>
            refine ⟨_, ok3, rfl, rfl, .inr ⟨_, _, rfl⟩, HK3.out.trans (Kx.of_whole HB4.out), fun h => ?_, fun h => ?_⟩
            · obtain ⟨p, r3, e1, e2, e3⟩ := HYES.out h
              have hsr := HS.out _ _ _ e1
              refine ⟨.either l p, r3, by rw [enc, HE.out, ← e2], e3.whole HB4.out, by omega, by omega, ?_⟩
              rw [← HM2.out, e1]; rfl
            · rw [← HM2.out, HNO.out h]; rfl
      · have HT := took_no hrs (fun r' h => hsg ⟨r', h⟩)
        go_wp2_with (go_at_call 50; refine HT.mono ?_; rintro e w2 ⟨rfl, hw2⟩; obtain rfl := hw2.symm)
        go_ret2
        refine ⟨HKP.out, _, true, rfl, .inr ⟨_, _, rfl⟩, fun _ => ⟨l, r, ?_, HE.out.symm, hrs⟩, fun h => by cases h⟩
        rw [← HM.out, moreN_end _ _ (fun t ht he => hsg ?_)]
        cases r with
        | nil => cases ht
        | cons a b => simp only [List.head?_cons, Option.some.injEq] at ht; exact ⟨b, by rw [ht, he]⟩

theorem joinAnd_any (a b : Value) (ha : IfV a) (hb : IfV b) (w : World) : Calls Tryz.prog 52 #[.agg #[a, b]] w fun e w' => e = .returned (.iface 88 (.agg #[a, b])) ∧ Below w.heap.size w w' := by
  rcases ha with rfl | ⟨ta, xa, rfl⟩ <;> rcases hb with rfl | ⟨tb, xb, rfl⟩
  all_goals
    go_enter Tryz.func52, Tryz.ntmps52
    go_wp2_with fail
    go_ret
    exact ⟨rfl, (Below.refl _ _).alloc (Nat.le_refl _) _⟩
/-- where the loop of row stands -/
structure LSAnd (B k : Nat) (op : Rd) (RES : Option (Pt × List Bs)) (w : World) (g : Nat) (v : Value) (ok : Bool) (wr : World) : Prop where
  kp : Kx (· = B) w wr
  yes : ok = true → ∃ l r, v = enc l ∧ Rs B wr r ∧ r.length + 1 ≤ g ∧ r.length ≤ k ∧ moreN sAnd op .both l r = RES
  no : ok = false → RES = none
set_option maxRecDepth 100000 in
set_option maxHeartbeats 4000000 in
theorem rowAnd_any {B k : Nat} {op : Rd} (hs : Shr op) (hop : ∀ ts w, ts.length ≤ k → Rs B w ts → Calls Tryz.prog 51 #[.pointer (some ⟨B, 0, none⟩)] w (RdQ B w (op ts))) (ts : List Bs) (w : World) (ht : ts.length ≤ k) (h : Rs B w ts) :
    Calls Tryz.prog 39 #[.pointer (some ⟨B, 0, none⟩), .string (bs sAnd), .func (.func 51) #[.pointer (some ⟨B, 0, none⟩)] #[], .func (.func 52) #[] #[]] w (RdQ B w (rowF sAnd op .both ts)) := by
  have HOP : Hid (∀ ts w, ts.length ≤ k → Rs B w ts → Calls Tryz.prog 51 #[.pointer (some ⟨B, 0, none⟩)] w (RdQ B w (op ts))) := hop
  have HS : Hid (Shr op) := hs
  have h1 := hop ts w ht h
  obtain ⟨RES, hRES⟩ : ∃ R, R = rowF sAnd op .both ts := ⟨_, rfl⟩
  rw [← hRES]
  have HR : Hid (RES = (op ts).bind fun x => moreN sAnd op .both x.1 x.2) := hRES
  have HTL : Hid (ts.length ≤ k) := ht
  clear hop h hs hRES ht
  go_enter Tryz.func39, Tryz.ntmps39
  go_wp2_with (go_at_call 51; refine h1.mono ?_; intro e w1 hq; obtain ⟨v1, ok1, rfl, hi1, hyes, hno⟩ := hq.any; have KP := hq.kp; clear hq h1)
  have HL : Hid (LSAnd B k op RES w (ts.length + 1) v1 ok1 w1) := ⟨KP, fun h => by
      obtain ⟨p, r, e1, e2, e3⟩ := hyes h
      have hsr := HS.out _ _ _ e1
      refine ⟨p, r, e2, e3, by omega, ?_, ?_⟩
      · have := HTL.out; omega
      · rw [HR.out, e1]; rfl, fun h => by rw [HR.out, hno h]; rfl⟩
  clear hyes hno KP HR
  go_loopg [10, 11] (ts.length + 1) (fun g s10 s11 wr => ∃ v ok, s10 = v ∧ s11 = .bool ok ∧ IfV v ∧ Hid (LSAnd B k op RES w g v ok wr))
  case atStart => exact ⟨v1, ok1, rfl, rfl, hi1, HL⟩
  case round =>
    obtain ⟨v, ok, rfl, rfl, hi, HX⟩ := hrel
    cases ok with
    | false =>
      go_wp2_with fail
      go_ret2
      exact ⟨HX.out.kp, _, false, rfl, hi, (fun h => by cases h), fun _ => HX.out.no rfl⟩
    | true =>
      obtain ⟨l, r, hv, hrs, hg, hk, hm⟩ := HX.out.yes rfl
      obtain ⟨tl, xl, hl⟩ := enc_if l
      rw [hl] at hv
      subst hv
      have HE : Hid (enc l = .iface tl xl) := hl
      have HM : Hid (moreN sAnd op .both l r = RES) := hm
      have HKP : Hid (Kx (· = B) w wr) := HX.out.kp
      have hbl := hrs.lt
      clear hm hl hi HX
      by_cases hsg : ∃ r', r = sAnd :: r'
      · obtain ⟨r', rfl⟩ := hsg
        have HT := took_yes hrs
        simp only [List.length_cons] at hg hk
        have HM2 : Hid ((op r').bind (fun x => moreN sAnd op .both (.both l x.1) x.2) = RES) := by have := HM.out; rw [moreN_step HS.out] at this; exact this
        clear HM hrs
        go_wp2_with (first
          | (go_at_call 50; refine HT.mono ?_; rintro e w2 ⟨rfl, kp2, rs2⟩; have hop2 := HOP.out r' w2 (by omega) rs2; have HK2 : Hid (Kx (· = B) w w2) := HKP.out.trans kp2; clear HT kp2 rs2)
          | (go_at_call 51; refine hop2.mono ?_; intro e w3 hq; obtain ⟨v3, ok3, rfl, hi3, hyes, hno⟩ := hq.any; have HK3 : Hid (Kx (· = B) w w3) := HK2.out.trans hq.kp; have HYES : Hid _ := hyes; have HNO : Hid _ := hno; clear hq hop2 hyes hno; rcases hi3 with rfl | ⟨t3, x3, rfl⟩)
          | (go_at_call 52; refine (joinAnd_any _ _ (.inr ⟨_, _, rfl⟩) (by first | exact .inl rfl | exact .inr ⟨_, _, rfl⟩) _).mono ?_; rintro e w4 ⟨rfl, hb4⟩; have HB4 : Hid _ := hb4; clear hb4))
        all_goals
          go_roundg r'.length
          case measure => omega
          case rel =>
            refine ⟨_, ok3, rfl, rfl, .inr ⟨_, _, rfl⟩, HK3.out.trans (Kx.of_whole HB4.out), fun h => ?_, fun h => ?_⟩
            · obtain ⟨p, r3, e1, e2, e3⟩ := HYES.out h
              have hsr := HS.out _ _ _ e1
              refine ⟨.both l p, r3, by rw [enc, HE.out, ← e2], e3.whole HB4.out, by omega, by omega, ?_⟩
              rw [← HM2.out, e1]; rfl
            · rw [← HM2.out, HNO.out h]; rfl
      · have HT := took_no hrs (fun r' h => hsg ⟨r', h⟩)
        go_wp2_with (go_at_call 50; refine HT.mono ?_; rintro e w2 ⟨rfl, hw2⟩; obtain rfl := hw2.symm)
        go_ret2
        refine ⟨HKP.out, _, true, rfl, .inr ⟨_, _, rfl⟩, fun _ => ⟨l, r, ?_, HE.out.symm, hrs⟩, fun h => by cases h⟩
        rw [← HM.out, moreN_end _ _ (fun t ht he => hsg ?_)]
        cases r with
        | nil => cases ht
        | cons a b => simp only [List.head?_cons, Option.some.injEq] at ht; exact ⟨b, by rw [ht, he]⟩
end Go.Proofs.YtleiohccaagalaaGreat
