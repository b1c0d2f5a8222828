/-
  recastlaw11.in and rows, walked.
-/
import Derived.Test.YtcmnhkopmkaiaaaMta
namespace Go.Proofs.Ytcmnhkopmkaiaaa
open Go.RowKit
attribute [local go_sem ↓] Go.wp_at_zero Go.wp_at_succ
/-- a test is answered: only if P -/
structure OnQ (w : World) (P : Prop) (e : Ending) (w' : World) : Prop where
  bl : Below w.heap.size w w'
  ex : ∃ b, e = .returned (.bool b) ∧ (b = true → P)
set_option maxRecDepth 100000 in
set_option maxHeartbeats 4000000 in
theorem in_any {B : BQ} {w : World} {a : Option Addr} {lk ck : Nat} {ks : List Ty} (h : SlT B w (.slice a lk ck) ks) : Calls Try.prog 5 #[.slice a lk ck] w (OnQ w (∀ x ∈ ks, x.tsz 60 ≤ 60)) := by
  obtain ⟨a0, c0, e0, hlen, hel⟩ := h.open
  obtain ⟨rfl, hq9, rfl⟩ : a = a0 ∧ lk = ks.length ∧ ck = c0 := by simpa using e0
  have HLK : Hid (lk = ks.length) := hq9
  have hlen : (lk : Int) ≤ 9223372036854775807 := by rw [hq9]; exact hlen
  have HEL : Hid (∀ i (hi : i < ks.length), ∃ b o, a = some ⟨b, o, none⟩ ∧ b < w.heap.size ∧ B b ∧ (ks[i]).lies B w b (o + i * 7)) := hel
  obtain ⟨P, hP⟩ : ∃ P, P = ∀ x ∈ ks, x.tsz 60 ≤ 60 := ⟨_, rfl⟩
  rw [← hP]
  have HP : Hid ((∀ j (h : j < ks.length), (ks[j]).tsz 60 ≤ 60) → P) := fun h2 => by
    rw [hP]; intro x hx
    obtain ⟨j, hj, rfl⟩ := List.getElem_of_mem hx
    exact h2 j hj
  clear h e0 hel hq9 hP
  go_enter Try.func5, Try.ntmps5
  go_wp2_with fail
  go_loopg [3, 4] lk (fun g u3 u4 wr => ∃ (i : Nat) (s : Int), i ≤ lk ∧ lk - i ≤ g ∧ u4 = .int .i64 i ∧ u3 = .int .i64 s ∧ 0 ≤ s ∧ s ≤ 121 ∧ Hid (Below w.heap.size w wr ∧ ∀ j (h1 : j < ks.length), j < i → (ks[j]).tsz 60 ≤ s))
  case atStart => exact ⟨0, 0, Nat.zero_le _, Nat.le_refl _, rfl, rfl, by omega, by omega, Below.refl _ _, fun j _ hj => by omega⟩
  case round =>
    obtain ⟨i, s, hi, hg, rfl, rfl, hs0, hs1, HX⟩ := hrel
    by_cases hlt : i < lk
    · have z1 : (i : Int) < (lk : Int) := by omega
      have z0 : (0 : Int) ≤ (i : Int) := by omega
      by_cases h60 : s ≤ 60
      · have hlx : i < ks.length := by rw [← HLK.out]; exact hlt
        obtain ⟨b, o, rfl, _, _, hli⟩ := HEL.out i hlx
        obtain ⟨e0, e1, e2, e3, v4, v5, v6, e4, e5, e6, hpi⟩ := lies_iff.1 hli
        obtain ⟨bn, dn, bm, dm, bk, dk, rfl, rfl, rfl⟩ := hpi.form
        have hc := tsz_any B ks[i] 60 (by omega) (by omega) wr _ _ _ (hpi.kept HX.out.1)
        have hts := tsz_le ks[i] 60 (by omega)
        have HXB : Hid (Below w.heap.size w wr) := HX.out.1
        have HXE : Hid (∀ j (h1 : j < ks.length), j < i → (ks[j]).tsz 60 ≤ s) := HX.out.2
        have e0 := kept_cell HXB.out e0
        have e1 := kept_cell HXB.out e1
        have e2 := kept_cell HXB.out e2
        have e3 := kept_cell HXB.out e3
        have e4 := kept_cell HXB.out e4
        have e5 := kept_cell HXB.out e5
        have e6 := kept_cell HXB.out e6
        obtain ⟨ts, hqs⟩ : ∃ ts, (ks[i]).tsz 60 = ts := ⟨_, rfl⟩
        have HTS : Hid ((ks[i]).tsz 60 = ts) := hqs
        rw [hqs] at hc hts
        unfold agT at hc
        clear hli hpi HX hqs
        generalize (ks[i]).kind = ki at *
        generalize (ks[i]).name = ni at *
        generalize (ks[i]).n = nn at *
        generalize (ks[i]).flag = fi at *
        generalize (ks[i]).names.length = l1 at *
        generalize (ks[i]).marks.length = l2 at *
        generalize (ks[i]).kids.length = l3 at *
        have hws : IntKind.i64.wrap (s + ts) = s + ts := by rw [IntKind.wrap_i64]; omega
        go_wp2_with (go_at_call 15; refine hc.mono ?_; rintro e w1 ⟨rfl, hb1⟩; have HB1 : Hid (Below w.heap.size w w1) := HXB.out.trans (hb1.mono HXB.out.size); clear hb1 hc)
        go_roundg (lk - (i + 1))
        case measure => omega
        case rel => exact ⟨i + 1, s + ts, by omega, Nat.le_refl _, by go_num, rfl, by omega, by omega, HB1.out, fun j h1 hj => by
          rcases Nat.lt_or_ge j i with h | h
          · have := HXE.out j h1 h
            omega
          · have e : j = i := by omega
            subst e
            rw [HTS.out]
            omega⟩
      · have HXB : Hid (Below w.heap.size w wr) := HX.out.1
        clear HX
        go_wp2_with fail
        go_ret
        exact ⟨HXB.out, _, rfl, fun h => by simp at h⟩
    · have z1 : ¬ (i : Int) < (lk : Int) := by omega
      have HXB : Hid (Below w.heap.size w wr) := HX.out.1
      have HXP : Hid (s ≤ 60 → P) := fun h => HP.out fun j hj => Int.le_trans (HX.out.2 j hj (by have := HLK.out; omega)) h
      clear HX
      go_wp2_with fail
      go_ret
      exact ⟨HXB.out, _, rfl, fun h => HXP.out (by simpa using h)⟩
set_option maxRecDepth 100000 in
set_option maxHeartbeats 4000000 in
/-- two rows that read the same -/
theorem rows_same {B B' : BQ} {w : World} {a a' : Option Addr} {lk ck ck' : Nat} {ks : List Ty} (h : SlT B w (.slice a lk ck) ks) (h' : SlT B' w (.slice a' lk ck') ks) : Calls Try.prog 9 #[.slice a lk ck, .slice a' lk ck'] w fun e w' => e = .returned (.bool true) ∧ Below w.heap.size w w' := by
  obtain ⟨a0, c0, e0, hlen, hel⟩ := h.open
  obtain ⟨rfl, hq9, rfl⟩ : a = a0 ∧ lk = ks.length ∧ ck = c0 := by simpa using e0
  obtain ⟨a0, c0, e0', hlen', hel'⟩ := h'.open
  obtain ⟨rfl, hq8, rfl⟩ : a' = a0 ∧ lk = ks.length ∧ ck' = c0 := by simpa using e0'
  have HLK : Hid (lk = ks.length) := hq9
  have hlen : (lk : Int) ≤ 9223372036854775807 := by rw [hq9]; exact hlen
  have HEL : Hid (∀ i (hi : i < ks.length), ∃ b o, a = some ⟨b, o, none⟩ ∧ b < w.heap.size ∧ B b ∧ (ks[i]).lies B w b (o + i * 7)) := hel
  have HEM : Hid (∀ i (hi : i < ks.length), ∃ b o, a' = some ⟨b, o, none⟩ ∧ b < w.heap.size ∧ B' b ∧ (ks[i]).lies B' w b (o + i * 7)) := hel'
  clear h e0 hel hq9 h' e0' hel' hq8 hlen'
  go_enter Try.func9, Try.ntmps9
  go_wp2_with fail
  go_loopg [5] lk (fun g u5 wr => ∃ i : Nat, i ≤ lk ∧ lk - i ≤ g ∧ u5 = .int .i64 i ∧ Hid (Below w.heap.size w wr))
  case atStart => exact ⟨0, Nat.zero_le _, Nat.le_refl _, rfl, Below.refl _ _⟩
  case round =>
    obtain ⟨i, hi, hg, rfl, HX⟩ := hrel
    by_cases hlt : i < lk
    · have z1 : (i : Int) < (lk : Int) := by omega
      have z0 : (0 : Int) ≤ (i : Int) := by omega
      have hlx : i < ks.length := by rw [← HLK.out]; exact hlt
      obtain ⟨b, p, rfl, _, _, hli⟩ := HEL.out i hlx
      obtain ⟨b', p', rfl, _, _, hli'⟩ := HEM.out i hlx
      obtain ⟨e0, e1, e2, e3, v4, v5, v6, e4, e5, e6, hpi⟩ := lies_iff.1 hli
      obtain ⟨bn, dn, bm, dm, bk, dk, rfl, rfl, rfl⟩ := hpi.form
      obtain ⟨f0, f1, f2, f3, q4, q5, q6, f4, f5, f6, hqi⟩ := lies_iff.1 hli'
      obtain ⟨gn, jn, gm, jm, gk', jk, rfl, rfl, rfl⟩ := hqi.form
      have hc := types_any B B' ks[i] ks[i] wr.drew _ _ _ _ _ _ (hpi.kept (bthen HX.out (below_drew1 _))) (hqi.kept (bthen HX.out (below_drew1 _)))
      rw [tyEq_true rfl] at hc
      have HKP : Hid (∀ W, Below w.heap.size w W → (W.cell? ⟨b, p + i * 7, none⟩ = some (.int .i64 (ks[i]).kind) ∧ W.cell? ⟨b, p + i * 7 + 1, none⟩ = some (.string (ks[i]).name) ∧ W.cell? ⟨b, p + i * 7 + 2, none⟩ = some (.int .i64 (ks[i]).n) ∧ W.cell? ⟨b, p + i * 7 + 3, none⟩ = some (.bool (ks[i]).flag) ∧ W.cell? ⟨b, p + i * 7 + 4, none⟩ = some (.slice bn (ks[i]).names.length dn) ∧ W.cell? ⟨b, p + i * 7 + 5, none⟩ = some (.slice bm (ks[i]).marks.length dm) ∧ W.cell? ⟨b, p + i * 7 + 6, none⟩ = some (.slice bk (ks[i]).kids.length dk)) ∧ (W.cell? ⟨b', p' + i * 7, none⟩ = some (.int .i64 (ks[i]).kind) ∧ W.cell? ⟨b', p' + i * 7 + 1, none⟩ = some (.string (ks[i]).name) ∧ W.cell? ⟨b', p' + i * 7 + 2, none⟩ = some (.int .i64 (ks[i]).n) ∧ W.cell? ⟨b', p' + i * 7 + 3, none⟩ = some (.bool (ks[i]).flag) ∧ W.cell? ⟨b', p' + i * 7 + 4, none⟩ = some (.slice gn (ks[i]).names.length jn) ∧ W.cell? ⟨b', p' + i * 7 + 5, none⟩ = some (.slice gm (ks[i]).marks.length jm) ∧ W.cell? ⟨b', p' + i * 7 + 6, none⟩ = some (.slice gk' (ks[i]).kids.length jk))) := fun W h => ⟨⟨kept_cell h e0, kept_cell h e1, kept_cell h e2, kept_cell h e3, kept_cell h e4, kept_cell h e5, kept_cell h e6⟩, kept_cell h f0, kept_cell h f1, kept_cell h f2, kept_cell h f3, kept_cell h f4, kept_cell h f5, kept_cell h f6⟩
      unfold agT at hc
      have kS := HKP.out wr HX.out
      clear hli hpi hli' hqi e0 e1 e2 e3 e4 e5 e6 f0 f1 f2 f3 f4 f5 f6
      generalize (ks[i]).kind = ki at *
      generalize (ks[i]).name = ni at *
      generalize (ks[i]).n = nn at *
      generalize (ks[i]).flag = fi at *
      generalize (ks[i]).names.length = l1 at *
      generalize (ks[i]).marks.length = l2 at *
      generalize (ks[i]).kids.length = l3 at *
      go_wp2_with fail
      go_region_held3 (fun W => (W.cell? ⟨b, p + i * 7, none⟩ = some (.int .i64 ki) ∧ W.cell? ⟨b, p + i * 7 + 1, none⟩ = some (.string ni) ∧ W.cell? ⟨b, p + i * 7 + 2, none⟩ = some (.int .i64 nn) ∧ W.cell? ⟨b, p + i * 7 + 3, none⟩ = some (.bool fi) ∧ W.cell? ⟨b, p + i * 7 + 4, none⟩ = some (.slice bn l1 dn) ∧ W.cell? ⟨b, p + i * 7 + 5, none⟩ = some (.slice bm l2 dm) ∧ W.cell? ⟨b, p + i * 7 + 6, none⟩ = some (.slice bk l3 dk)) ∧ (W.cell? ⟨b', p' + i * 7, none⟩ = some (.int .i64 ki) ∧ W.cell? ⟨b', p' + i * 7 + 1, none⟩ = some (.string ni) ∧ W.cell? ⟨b', p' + i * 7 + 2, none⟩ = some (.int .i64 nn) ∧ W.cell? ⟨b', p' + i * 7 + 3, none⟩ = some (.bool fi) ∧ W.cell? ⟨b', p' + i * 7 + 4, none⟩ = some (.slice gn l1 jn) ∧ W.cell? ⟨b', p' + i * 7 + 5, none⟩ = some (.slice gm l2 jm) ∧ W.cell? ⟨b', p' + i * 7 + 6, none⟩ = some (.slice gk' l3 jk)))
        (first | exact kS | go_keep)
        (first | (go_at_call 20; refine hc.mono ?_; rintro e w3 ⟨rfl, hb3⟩; have HB3 : Hid (Below w.heap.size w w3) := bthen (bthen HX.out (below_drew1 _)) hb3; have kS := HKP.out w3 HB3.out; clear hb3 hc))
      all_goals
        go_wp2_with fail
        go_roundg (lk - (i + 1))
        case measure => omega
        case rel => exact ⟨i + 1, by omega, Nat.le_refl _, by go_num, HB3.out⟩
    · have z1 : ¬ (i : Int) < (lk : Int) := by omega
      go_wp2_with fail
      go_ret
      exact ⟨rfl, HX.out⟩
end Go.Proofs.Ytcmnhkopmkaiaaa

