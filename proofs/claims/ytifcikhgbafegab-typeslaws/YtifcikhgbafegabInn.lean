/-
  recastlaw8.in, walked.
-/
import Derived.Test.YtifcikhgbafegabShp
namespace Go.Proofs.Ytifcikhgbafegab
open Go.RowKit
attribute [local go_sem ↓] Go.wp_at_zero Go.wp_at_succ
/-- is a type looked at? -/
def Lkd (x : Ty) : Prop := x.tsz 120 ≤ 120 ∧ Shp x
set_option maxRecDepth 100000 in
set_option maxHeartbeats 4000000 in
theorem in_any {B : BQ} {w : World} {a : Option Addr} {lk ck : Nat} {ks : List Ty} (h : SlT B w (.slice a lk ck) ks) : Calls Try.prog 4 #[.slice a lk ck] w (ShQ w (∀ x ∈ ks, Lkd x)) := by
  obtain ⟨a0, c0, e0, hlen, hel⟩ := h.open
  obtain ⟨rfl, hq9, rfl⟩ : a = a0 ∧ lk = ks.length ∧ ck = c0 := by simpa using e0
  have HLK : Hid (lk = ks.length) := hq9
  have hlen : (lk : Int) ≤ 9223372036854775807 := by rw [hq9]; exact hlen
  have HEL : Hid (∀ i (hi : i < ks.length), ∃ b o, a = some ⟨b, o, none⟩ ∧ b < w.heap.size ∧ B b ∧ (ks[i]).lies B w b (o + i * 7)) := hel
  obtain ⟨P, hP⟩ : ∃ P, P = ∀ x ∈ ks, Lkd x := ⟨_, rfl⟩
  rw [← hP]
  have HP : Hid ((∀ j (h : j < ks.length), Lkd ks[j]) → P) := fun h2 => by
    rw [hP]; intro x hx
    obtain ⟨j, hj, rfl⟩ := List.getElem_of_mem hx
    exact h2 j hj
  clear h e0 hel hq9 hP
  go_enter Try.func4, Try.ntmps4
  go_wp2_with fail
  go_loopg [3] lk (fun g u3 wr => ∃ i : Nat, i ≤ lk ∧ lk - i ≤ g ∧ u3 = .int .i64 i ∧ Hid (Below w.heap.size w wr ∧ ∀ j (h1 : j < ks.length), j < i → Lkd ks[j]))
  case atStart => exact ⟨0, Nat.zero_le _, Nat.le_refl _, rfl, Below.refl _ _, fun j _ hj => by omega⟩
  case round =>
    obtain ⟨i, hi, hg, rfl, HX⟩ := hrel
    by_cases hlt : i < lk
    · have z1 : (i : Int) < (lk : Int) := by omega
      have z0 : (0 : Int) ≤ (i : Int) := by omega
      have hlx : i < ks.length := by rw [← HLK.out]; exact hlt
      obtain ⟨b, o, rfl, _, _, hli⟩ := HEL.out i hlx
      obtain ⟨e0, e1, e2, e3, v4, v5, v6, e4, e5, e6, hpi⟩ := lies_iff.1 hli
      obtain ⟨bn, dn, bm, dm, bk, dk, rfl, rfl, rfl⟩ := hpi.form
      have hc := tsz_any B ks[i] 120 (by omega) (by omega) wr _ _ _ (hpi.kept HX.out.1)
      have HC2 : Hid (∀ W, Below w.heap.size w W → Calls Try.prog 11 #[agT ks[i] (.slice bn (ks[i]).names.length dn) (.slice bm (ks[i]).marks.length dm) (.slice bk (ks[i]).kids.length dk)] W (ShQ W (Shp ks[i]))) := fun W h => shaped_any B ks[i] W _ _ _ (hpi.kept h)
      have HKP : Hid (∀ W, Below w.heap.size w W → W.cell? ⟨b, o + i * 7, none⟩ = some (.int .i64 (ks[i]).kind) ∧ W.cell? ⟨b, o + i * 7 + 1, none⟩ = some (.string (ks[i]).name) ∧ W.cell? ⟨b, o + i * 7 + 2, none⟩ = some (.int .i64 (ks[i]).n) ∧ W.cell? ⟨b, o + i * 7 + 3, none⟩ = some (.bool (ks[i]).flag) ∧ W.cell? ⟨b, o + i * 7 + 4, none⟩ = some (.slice bn (ks[i]).names.length dn) ∧ W.cell? ⟨b, o + i * 7 + 5, none⟩ = some (.slice bm (ks[i]).marks.length dm) ∧ W.cell? ⟨b, o + i * 7 + 6, none⟩ = some (.slice bk (ks[i]).kids.length dk)) := fun W h => ⟨kept_cell h e0, kept_cell h e1, kept_cell h e2, kept_cell h e3, kept_cell h e4, kept_cell h e5, kept_cell h e6⟩
      have HXB : Hid (Below w.heap.size w wr) := HX.out.1
      have HXE : Hid (∀ j (h1 : j < ks.length), j < i → Lkd ks[j]) := HX.out.2
      obtain ⟨PI, hPI⟩ : ∃ PI, PI = Shp ks[i] := ⟨_, rfl⟩
      obtain ⟨ts, hts⟩ : ∃ ts, ts = (ks[i]).tsz 120 := ⟨_, rfl⟩
      have HPI : Hid (PI → ts ≤ 120 → Lkd ks[i]) := fun h1 h2 => ⟨by rw [← hts]; exact h2, by rw [← hPI]; exact h1⟩
      rw [← hPI] at HC2
      rw [← hts] at hc
      unfold agT at hc HC2
      clear hli hpi HX hPI hts e0 e1 e2 e3 e4 e5 e6
      obtain ⟨e0, e1, e2, e3, e4, e5, e6⟩ := HKP.out wr HXB.out
      generalize (ks[i]).kind = ki at *
      generalize (ks[i]).name = ni at *
      generalize (ks[i]).n = nn at *
      generalize (ks[i]).flag = fi at *
      generalize (ks[i]).names.length = l1 at *
      generalize (ks[i]).marks.length = l2 at *
      generalize (ks[i]).kids.length = l3 at *
      by_cases h120 : ts ≤ 120
      · have k120 : ¬ (120 : Int) < ts := by omega
        go_wp2_with (first
          | (go_at_call 10; refine hc.mono ?_; rintro e w1 ⟨rfl, hb1⟩; have HB1 : Hid (Below w.heap.size w w1) := HXB.out.trans (hb1.mono HXB.out.size); clear hb1 hc e0 e1 e2 e3 e4 e5 e6; obtain ⟨e0, e1, e2, e3, e4, e5, e6⟩ := HKP.out w1 HB1.out; have hc2 := HC2.out w1 HB1.out)
          | (go_at_call 11; refine hc2.mono ?_; intro e w2 hq; obtain ⟨bb, rfl, hbb⟩ := hq.ex; have HB2 : Hid (Below w.heap.size w w2) := HB1.out.trans (hq.bl.mono HB1.out.size); have HBB : Hid (bb = true → PI) := hbb; clear hq hc2 hbb; cases bb))
        · go_ret
          exact ShQ.no HB2.out
        · go_roundg (lk - (i + 1))
          case measure => omega
          case rel => exact ⟨i + 1, by omega, Nat.le_refl _, by go_num, HB2.out, fun j h1 hj => by
            rcases Nat.lt_or_ge j i with h | h
            · exact HXE.out j h1 h
            · have e : j = i := by omega
              subst e
              exact HPI.out (HBB.out (by first | trivial | rfl)) h120⟩
      · have k120 : (120 : Int) < ts := by omega
        go_wp2_with (go_at_call 10; refine hc.mono ?_; rintro e w1 ⟨rfl, hb1⟩; have HB1 : Hid (Below w.heap.size w w1) := HXB.out.trans (hb1.mono HXB.out.size); clear hb1 hc)
        go_ret
        exact ShQ.no HB1.out
    · have z1 : ¬ (i : Int) < (lk : Int) := by omega
      have HN : Hid P := HP.out (fun j hj => HX.out.2 j hj (by have := HLK.out; omega))
      have HXB : Hid (Below w.heap.size w wr) := HX.out.1
      clear HX
      go_wp2_with fail
      go_ret
      exact ShQ.yes HXB.out HN.out
end Go.Proofs.Ytifcikhgbafegab

