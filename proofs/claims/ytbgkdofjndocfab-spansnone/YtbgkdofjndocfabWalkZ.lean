/-
  The law SpansNone at any files.
-/
import Derived.Test.YtbgkdofjndocfabWalkY
namespace Go.Proofs.Ytbgkdofjndocfab
open Go.RowKit Go.Maps
attribute [local go_sem ↓] Go.wp_at_zero Go.wp_at_succ
theorem ownF_shape {w : World} {base n : Nat} {v : Value} {xs : List Value} (h : w.ownsRow base 32 2 v n xs) : ∃ a cap, v = .slice a n cap ∧ (0 < n → ∃ g, a = some ⟨g, 0, none⟩ ∧ base ≤ g ∧ g < w.heap.size) := by
  rcases h.2 with ⟨h', rfl⟩ | ⟨g, cap, cur, h, h1, h2, h3, _⟩
  · exact ⟨none, 0, h', fun h => absurd h (by omega)⟩
  · exact ⟨some ⟨g, 0, none⟩, cap, h, fun _ => ⟨g, rfl, h1, (Array.getElem?_eq_some_iff.1 h2).1⟩⟩
theorem FilesAt.alloc {w : World} {F fo : Nat} {fs : List Fi} (h : FilesAt w F fo fs) (hF : F < w.heap.size) (A : Obj) : FilesAt (w.alloc A) F fo fs :=
  ⟨fun j hj => by rw [World.cell?_alloc_lt _ _ _ hF]; exact h.p j hj, fun j hj => by rw [World.cell?_alloc_lt _ _ _ hF]; exact h.t j hj⟩
theorem edit_new (w : World) (x : Ed) : ∀ i v, (encE x)[i]? = some v → (w.alloc (.cells (encE x).toArray 26)).cell? ⟨w.heap.size, i, none⟩ = some v := by
  intro i v hv
  rw [World.cell?_alloc_new]
  simpa using hv
def Apart (fs : List Fi) (i : Nat) : Prop := ∀ a b, a < b → b < i → (fs.getD a default).1.data.toList ≠ (fs.getD b default).1.data.toList
set_option maxRecDepth 100000 in
set_option maxHeartbeats 2000000 in
theorem none_any (F fo fc n : Nat) (fs : List Fi) (a b : Int) (w : World) (hF : F < w.heap.size) (hn : n = fs.length) (hn1 : n ≤ 140737488355328) (hA : FilesAt w F fo fs) (hsz : ∀ j, j < fs.length → (fs.getD j default).1.size ≤ 140737488355328 ∧ (fs.getD j default).2.size ≤ 140737488355328) :
    Calls Try.prog 5 #[.slice (some ⟨F, fo, none⟩) n fc, .int .i64 a, .int .i64 b] w fun e w' => e = .returned (.bool true) ∧ Below w.heap.size w w' := by
  have h11 := fits_any F fo fc n fs w hn hn1 hA hsz
  have HA : Hid (FilesAt w F fo fs) := hA
  have HN : Hid (n = fs.length) := hn
  have hnl : n ≤ fs.length := by omega
  have hnl2 : fs.length ≤ n := by omega
  clear hA hn hsz
  go_enter Try.func5, Try.ntmps5
  go_wp2_with fail
  refine h11.mono ?_
  rintro e w1 ⟨fb, rfl, hfb, q, rfl⟩
  clear h11
  have hb0 : Below w.heap.size w (w.drewN q) := below_drewN (Below.refl _ _) q
  have HA1 : Hid (FilesAt (w.drewN q) F fo fs) := HA.out.drew q
  have hz : (w.drewN q).heap.size = w.heap.size := rfl
  generalize hW : w.drewN q = W at *
  clear hW
  have HAW : Hid (Below w.heap.size w W) := hb0
  clear hb0
  cases fb
  · clear hfb
    go_wp2_with fail
    refine (awake_any _).mono ?_
    rintro e w2 ⟨rfl, hb2⟩
    go_wp2
    go_ret
    exact ⟨rfl, HAW.out.trans (hb2.mono (by omega))⟩
  · obtain ⟨hn6, hsum⟩ := hfb rfl
    have HSM : Hid (sumsOk fs n 6000) := hsum
    clear hsum hfb hn1
    go_wp2_with fail
    go_loopw [7] (fun x w' => ∃ i q : Nat, i ≤ n ∧ x = .int .i64 i ∧ w' = W.drewN q ∧ Hid (Apart fs i)) (fun x _ => n - (intOf x).toNat)
    case atStart => exact ⟨0, 0, by omega, rfl, rfl, fun a b _ h => by omega⟩
    case round =>
      obtain ⟨i, q1, hi, rfl, rfl, HP⟩ := hrel
      by_cases hlt : i < n
      · go_wp2_with fail
        go_loopw [8] (fun x w' => ∃ k q : Nat, k ≤ i ∧ x = .int .i64 k ∧ w' = W.drewN q ∧ Hid (∀ a, a < k → (fs.getD a default).1.data.toList ≠ (fs.getD i default).1.data.toList)) (fun x _ => i - (intOf x).toNat)
        case atStart => exact ⟨0, q1, by omega, rfl, rfl, fun a h => by omega⟩
        case round =>
          obtain ⟨k, q2, hk, rfl, rfl, HK⟩ := hrel
          by_cases hlt2 : k < i
          · have p1 := (HA1.out.drew q2).p k (by omega)
            have p2 := (HA1.out.drew q2).p i (by omega)
            have z1 : (0 : Int) ≤ (k : Int) := by omega
            have z2 : (k : Int) < (n : Int) := by omega
            have z3 : (0 : Int) ≤ (i : Int) := by omega
            have z4 : (i : Int) < (n : Int) := by omega
            have HK2 : Hid ((fs.getD k default).1.data.toList ≠ (fs.getD i default).1.data.toList → ∀ a, a < k + 1 → (fs.getD a default).1.data.toList ≠ (fs.getD i default).1.data.toList) := fun h a ha => by
              rcases Nat.lt_or_ge a k with h1 | h1
              · exact HK.out a h1
              · obtain rfl : a = k := by omega
                exact h
            clear HK
            have HD1 : Hid (∀ r, (W.drewN q2).drewN r = W.drewN (q2 + r)) := fun r => drewN_two W q2 r
            have HBQ : Hid (Below w.heap.size w (W.drewN q2)) := below_drewN HAW.out q2
            generalize hWq : W.drewN q2 = W2 at *
            clear hWq
            generalize (fs.getD k default).1 = pk at *
            generalize (fs.getD i default).1 = pi at *
            cases hpe : (pk.toList == pi.toList)
            · have hne : pk.data.toList ≠ pi.data.toList := fun h => by
                rw [Lib.toList_data, Lib.toList_data, h] at hpe
                simp at hpe
              have HK3 := HK2.out hne
              have HK4 : Hid _ := HK3
              clear HK3 HK2 hne
              go_wp2_with fail
              go_quiet (fail)
              go_wp2_with fail
              go_roundw
              case rel => exact ⟨k + 1, _, by omega, by go_num, HD1.out _, HK4⟩
              case measure => simp [intOf]; omega
            · clear HK2
              go_wp2_with fail
              go_quiet (fail)
              go_wp2_with fail
              refine (awake_any _).mono ?_
              rintro e w2 ⟨rfl, hb2⟩
              go_wp2
              go_ret
              exact ⟨rfl, (below_drewN HBQ.out _).trans (hb2.mono (by have := HBQ.out.size; simp; omega))⟩
          · obtain rfl : k = i := by omega
            have HP2 : Hid (Apart fs (k + 1)) := fun a b hab hb => by
              rcases Nat.lt_or_ge b k with h1 | h1
              · exact HP.out a b hab h1
              · obtain rfl : b = k := by omega
                exact HK.out a hab
            clear HK HP
            go_wp2_with fail
            go_roundw
            case rel => exact ⟨k + 1, q2, by omega, by go_num, rfl, HP2⟩
            case measure => simp [intOf]; omega
      · obtain rfl : i = n := by omega
        have hbq : Below w.heap.size w (W.drewN q1) := below_drewN HAW.out q1
        have hfa := HA1.out.drew q1
        have hzq : (W.drewN q1).heap.size = w.heap.size := by simp [hz]
        generalize W.drewN q1 = W1 at *
        have h8 := apply0_any F fo fc i fs W1 (by omega) HN.out (by omega) hfa (fun j hj => by have := (HSM.out j (by omega)).1; unfold maxLen; omega) (fun a b hab hb => HP.out a b hab (by omega))
        have HFA : Hid (FilesAt W1 F fo fs) := hfa
        have HBQ : Hid (Below w.heap.size w W1) := hbq
        have HDD : Hid (∀ x y, x < y → y < fs.length → (fs.getD x default).1.data.toList ≠ (fs.getD y default).1.data.toList) := fun a b hab hb => HP.out a b hab (by omega)
        clear HP hfa hbq HA1 HAW
        go_wp2_with fail
        refine h8.mono ?_
        rintro e w2 ⟨v, rfl, hown, hb2⟩
        clear h8
        obtain ⟨av, cv, rfl, hsh⟩ := ownF_shape hown
        have hs2 := hb2.size
        have hF2 : FilesAt w2 F fo fs := HFA.out.below (by omega) hb2
        have h12 : Calls Try.prog 12 #[.slice av i cv, .slice (some ⟨F, fo, none⟩) i fc] w2 fun e w' => e = .returned (.bool true) ∧ ∃ q, w' = w2.drewN q := by
          rcases Nat.eq_zero_or_pos i with rfl | h0
          · exact (files_empty _ _ _ _ _).mono fun _ _ ⟨he, hw⟩ => ⟨he, 0, hw⟩
          · obtain ⟨g, rfl, _, _⟩ := hsh h0
            exact files_any g cv F fo fc i fs w2 HN.out (by omega) ⟨fun j hj => by rw [Nat.zero_add, hown.cellAt _ (by omega)]; exact (flatF_get fs j hj).1, fun j hj => by rw [Nat.zero_add, hown.cellAt _ (by omega)]; exact (flatF_get fs j hj).2⟩ hF2
        clear hown hsh
        go_wp2_with fail
        refine h12.mono ?_
        rintro e w3 ⟨rfl, q3, rfl⟩
        clear h12
        have HF3 : Hid (FilesAt (w2.drewN q3) F fo fs) := hF2.drew q3
        have HB3 : Hid (Below w.heap.size w (w2.drewN q3)) := below_drewN (HBQ.out.trans (hb2.mono (by omega))) q3
        have hz3 : w.heap.size ≤ (w2.drewN q3).heap.size := by simp; omega
        generalize w2.drewN q3 = W3 at *
        clear hF2 hb2 hs2 HFA
        by_cases h0 : i = 0
        · subst h0
          go_wp2_with fail
          refine (awake_any _).mono ?_
          rintro e w4 ⟨rfl, hb4⟩
          go_wp2
          go_ret
          exact ⟨rfl, HB3.out.trans (hb4.mono hz3)⟩
        have q0 := HF3.out.p 0 (by omega)
        have q1' := HF3.out.t 0 (by omega)
        simp only [Nat.zero_mul, Nat.add_zero] at q0 q1'
        have hss := HSM.out 0 (by omega)
        have hps0 : ∃ p s, fs.getD 0 default = (p, s) := ⟨_, _, rfl⟩
        obtain ⟨p, s, hps⟩ := hps0
        rw [hps] at q0 q1' hss
        simp only at q0 q1' hss
        have HPS : Hid (fs.getD 0 default = (p, s)) := hps
        clear hps
        have z0 : ((i : Int) == 0) = false := by simp; omega
        have z1 : (0 : Int) < (i : Int) := by omega
        have z2 : 0 < i := by omega
        by_cases ha : a < 0
        · go_wp2_with fail
          refine (awake_any _).mono ?_
          rintro e w4 ⟨rfl, hb4⟩
          go_wp2
          go_ret
          exact ⟨rfl, HB3.out.trans (hb4.mono hz3)⟩
        by_cases hab : b < a
        · go_wp2_with fail
          refine (awake_any _).mono ?_
          rintro e w4 ⟨rfl, hb4⟩
          go_wp2
          go_ret
          exact ⟨rfl, HB3.out.trans (hb4.mono hz3)⟩
        by_cases hbs : (s.size : Int) < b
        · go_wp2_with fail
          refine (awake_any _).mono ?_
          rintro e w4 ⟨rfl, hb4⟩
          go_wp2
          go_ret
          exact ⟨rfl, HB3.out.trans (hb4.mono hz3)⟩
        obtain ⟨A, rfl⟩ : ∃ A : Nat, a = A := ⟨a.toNat, by omega⟩
        obtain ⟨Bn, rfl⟩ : ∃ Bn : Nat, b = Bn := ⟨b.toNat, by omega⟩
        have z3 : (0 : Int) ≤ (A : Int) := by omega
        have z4 : (A : Int) ≤ (Bn : Int) := by omega
        have z5 : (Bn : Int) ≤ (s.size : Int) := by omega
        have hF3 : F < W3.heap.size := by omega
        have hst := same_text s p A Bn (by omega) (by omega)
        have hex : s.extract (A : Int).toNat (Bn : Int).toNat = s.extract A Bn := by simp
        rw [hex] at hst
        have h8a := apply1f_any F fo fc i W3.heap.size 1 fs p s (s.extract A Bn) A Bn (W3.alloc (.cells (encE (p, (A : Int), (Bn : Int), s.extract A Bn)).toArray 26)).drew (by simp <;> omega) (by simp) HN.out (by omega) (by omega) ((HF3.out.alloc hF3 _).drew 1) (fun j hj => by have := (HSM.out j (by omega)).1; unfold maxLen; omega) HDD.out HPS.out (by unfold maxLen; omega) (edit_new W3 _) (by simp [noSp] <;> omega) ⟨by simp <;> omega, by simp <;> omega, by simp <;> omega, by simp [okE] <;> omega⟩ (by rw [hst]; have : s.data.toList.length = s.size := rfl; omega)
        rw [hst] at h8a
        rw [show (⟨s.data.toList.toArray⟩ : ByteArray) = s from rfl] at h8a
        simp only [encE] at h8a
        clear hst hex
        go_wp2_with fail
        go_region_held3 (fun w' => w'.cell? ⟨F, fo, none⟩ = some (.string p) ∧ w'.cell? ⟨F, fo + 1, none⟩ = some (.string s)) (first | go_keep | exact ⟨j0, j1⟩)
          ((go_at_call 8; refine h8a.mono ?_; rintro e w5 ⟨G, Gc, rfl, hb5, g0, g1, g2⟩; have j0 : w5.cell? ⟨F, fo, none⟩ = some (.string p) := (hb5.cell (p := ⟨F, fo, none⟩) (by simp <;> omega)).trans (by rw [World.cell?_drew, World.cell?_alloc_lt _ _ _ hF3]; exact q0); have j1 : w5.cell? ⟨F, fo + 1, none⟩ = some (.string s) := (hb5.cell (p := ⟨F, fo + 1, none⟩) (by simp <;> omega)).trans (by rw [World.cell?_drew, World.cell?_alloc_lt _ _ _ hF3]; exact q1')))
        have hF5 : FilesAt w5 F fo fs := ((HF3.out.alloc hF3 _).drew 1).below (by simp <;> omega) hb5
        have hG5 : FilesAt w5 G 0 fs := ⟨fun j hj => by
          rcases Nat.eq_zero_or_pos j with rfl | hj0
          · rw [HPS.out]; simpa using g0
          · rw [Nat.zero_add, g2 _ (by omega) (by omega)]; exact (flatF_get fs j hj).1, fun j hj => by
          rcases Nat.eq_zero_or_pos j with rfl | hj0
          · rw [HPS.out]; simpa using g1
          · rw [Nat.zero_add, g2 _ (by omega) (by omega)]; exact (flatF_get fs j hj).2⟩
        have h12 := files_any G Gc F fo fc i fs w5 HN.out (by omega) hG5 hF5
        have HB5 : Hid (Below w.heap.size w w5) := ((HB3.out.alloc hz3 _).drew).trans (hb5.mono (by simp; omega))
        clear h8a hF5 hG5 g0 g1 g2 hb5 j0 j1 q0 q1'
        go_wp2_with fail
        refine h12.mono ?_
        rintro e w6 ⟨rfl, q6, rfl⟩
        clear h12
        go_wp2_with fail
        refine (awake_any _).mono ?_
        rintro e w7 ⟨rfl, hb7⟩
        go_wp2
        go_ret
        exact ⟨rfl, (below_drewN HB5.out q6).trans (hb7.mono (by have := HB5.out.size; simp; omega))⟩
end Go.Proofs.Ytbgkdofjndocfab
