/-
  The document's pieces, walked.
-/
import Derived.Test.YtleiohccaagalaaGreatRfp
import Derived.Laws.IdiomStrings
namespace Go.Proofs.YtleiohccaagalaaGreat
open Go.RowKit
attribute [local go_sem ↓] Go.wp_at_zero Go.wp_at_succ
structure SpR (S : ByteArray) (w wr : World) (u : Value) (l : List Bs) (k : Nat) : Prop where
  bl : Below w.heap.size w wr
  row : SRow wr w.heap.size u l
  eq : (pcsR (S.data.toList.drop k)).map (l ++ ·) = pcsR S.data.toList
theorem cell_new2b (w : World) (o : Obj) (v : Value) (T : TypeId) : ((w.alloc o).alloc (.cells #[v] T)).cell? ⟨w.heap.size + 1, 0, none⟩ = some v := by
  have := cell_new (w.alloc o) v T
  rwa [show (w.alloc o).heap.size = w.heap.size + 1 by simp] at this
theorem conv1 (w : World) (b : UInt8) : (convert 64 9 (.slice (some ⟨w.heap.size, 0, none⟩) 1 1)).run Tryz.prog (w.alloc (.cells #[.int .u8 b.toNat] 5)) = .ok (.string (bs [b])) (w.alloc (.cells #[.int .u8 b.toNat] 5)) :=
  run_convert_bytes_back (P := Tryz.prog) _ 64 9 5 ⟨w.heap.size, 0, none⟩ 1 [b] Tryz.underlying64 Tryz.underlying5 Tryz.underlying9 (fun j hj => by
    have : j = 0 := by simpa using hj
    subst this
    exact cell_new w _ 5)
set_option maxRecDepth 100000 in
set_option maxHeartbeats 8000000 in
theorem pieces_any (S : ByteArray) (w : World) (hS : S.size ≤ 1000000) : Calls Tryz.prog 16 #[.string S] w (SplQ w (pcsR S.data.toList)) := by
  obtain ⟨RES, hR⟩ : ∃ R, R = pcsR S.data.toList := ⟨_, rfl⟩
  rw [← hR]
  have HR : Hid (RES = pcsR S.data.toList) := hR
  clear hR
  have HST : Hid (SpR S w w (.slice none 0 0) [] 0) := ⟨Below.refl _ _, SRow.nil _ _, by rw [List.drop_zero]; cases pcsR S.data.toList <;> simp⟩
  go_enter Tryz.func16, Tryz.ntmps16
  go_wp2_with fail
  go_loopg [4, 5, 6, 7] S.size (fun g u4 u5 u6 u7 wr => ∃ (k : Nat) (l : List Bs) (a : Option Addr) (c : Nat), k ≤ S.size ∧ S.size - k ≤ g ∧ u4 = .slice a l.length c ∧ u5 = .int .i64 k ∧ l.length ≤ k ∧ Hid (SpR S w wr (.slice a l.length c) l k))
  case atStart => exact ⟨0, [], none, 0, Nat.zero_le _, by omega, rfl, rfl, by simp, HST⟩
  case round =>
    obtain ⟨k, l, a, c, hk, hg, rfl, rfl, hl, HX⟩ := hrel
    have hsl := HX.out.bl.size
    by_cases hlt : k < S.size
    · have z1 : (k : Int) < (S.size : Int) := by omega
      have z0 : (0 : Int) ≤ (k : Int) := by omega
      have hdc := drop_cons S k hlt
      by_cases h32 : S[k]'hlt = 32
      · have a32 : (((S[k]'hlt).toNat : Int) == 32) = true := u8_is (n := 32) h32 (by decide)
        have HE : Hid (pcsR (S.data.toList.drop k) = pcsR (S.data.toList.drop (k + 1))) := by show _ = _; rw [hdc, h32, pcsR_blank]
        clear hdc h32
        go_wp2_with fail
        go_roundg (S.size - (k + 1))
        case measure => omega
        case rel => exact ⟨k + 1, l, a, c, by omega, by omega, rfl, by go_num, by omega, ⟨HX.out.bl, HX.out.row, by rw [← HE.out]; exact HX.out.eq⟩⟩
      · have a32 : (((S[k]'hlt).toNat : Int) == 32) = false := u8_not (n := 32) h32 (by decide)
        by_cases h33 : S[k]'hlt = 33
        · have a33 : (((S[k]'hlt).toNat : Int) == 33) = true := u8_is (n := 33) h33 (by decide)
          have hsg : sgR (S[k]'hlt :: S.data.toList.drop (k + 1)) = 1 := by simp only [sgR]; rw [if_pos (.inl h33)]
          have HY : Hid (pcsR (S.data.toList.drop k) = (pcsR (S.data.toList.drop (k + 1))).map ([[S[k]'hlt]] ++ ·)) := by
            show _ = _
            rw [hdc, pcsR_some h32 (by rw [hsg]; decide), hsg]; rfl
          have hcv := conv1 wr (S[k]'hlt)
          clear hdc hsg h32 h33
          go_wp2_with (at_builtin; refine wp_app1 (by rfl) _ _ (by rfl) w.heap.size (.slice a l.length c) l ([S[k]'hlt]) (wr.heap.size + 1) (by rfl) ((HX.out.row.alloc _).alloc _) (by rfl) (cell_new2b _ _ _ _) (by omega) (by simp; omega) ?_; intro gg cap w9 hown1 hgrow hlt9; have HO9 : Hid (SRow w9 w.heap.size (.slice (some ⟨gg, 0, none⟩) (l.length + 1) cap) (l ++ [[S[k]'hlt]])) := hown1; have HB9 : Hid (Below w.heap.size w w9) := ((HX.out.bl.alloc (by omega) _).alloc (by simp; omega) _).grown hgrow (by simp; omega) (fun b hb => (HX.out.row.blk hb).1); clear hown1 hgrow)
          go_roundg (S.size - (k + 1))
          case measure => omega
          case rel =>
            refine ⟨k + 1, l ++ [[S[k]'hlt]], _, _, by omega, by omega, by simp; exact ⟨rfl, rfl⟩, by go_num, by simp; omega, ⟨HB9.out, by simpa using HO9.out, ?_⟩⟩
            rw [← HX.out.eq, HY.out, map_app]
        · have a33 : (((S[k]'hlt).toNat : Int) == 33) = false := u8_not (n := 33) h33 (by decide)
          by_cases h40 : S[k]'hlt = 40
          · have a40 : (((S[k]'hlt).toNat : Int) == 40) = true := u8_is (n := 40) h40 (by decide)
            have hsg : sgR (S[k]'hlt :: S.data.toList.drop (k + 1)) = 1 := by simp only [sgR]; rw [if_pos (.inr (.inl h40))]
            have HY : Hid (pcsR (S.data.toList.drop k) = (pcsR (S.data.toList.drop (k + 1))).map ([[S[k]'hlt]] ++ ·)) := by
              show _ = _
              rw [hdc, pcsR_some h32 (by rw [hsg]; decide), hsg]; rfl
            have hcv := conv1 wr (S[k]'hlt)
            clear hdc hsg h32 h33 h40
            go_wp2_with (at_builtin; refine wp_app1 (by rfl) _ _ (by rfl) w.heap.size (.slice a l.length c) l ([S[k]'hlt]) (wr.heap.size + 1) (by rfl) ((HX.out.row.alloc _).alloc _) (by rfl) (cell_new2b _ _ _ _) (by omega) (by simp; omega) ?_; intro gg cap w9 hown1 hgrow hlt9; have HO9 : Hid (SRow w9 w.heap.size (.slice (some ⟨gg, 0, none⟩) (l.length + 1) cap) (l ++ [[S[k]'hlt]])) := hown1; have HB9 : Hid (Below w.heap.size w w9) := ((HX.out.bl.alloc (by omega) _).alloc (by simp; omega) _).grown hgrow (by simp; omega) (fun b hb => (HX.out.row.blk hb).1); clear hown1 hgrow)
            go_roundg (S.size - (k + 1))
            case measure => omega
            case rel =>
              refine ⟨k + 1, l ++ [[S[k]'hlt]], _, _, by omega, by omega, by simp; exact ⟨rfl, rfl⟩, by go_num, by simp; omega, ⟨HB9.out, by simpa using HO9.out, ?_⟩⟩
              rw [← HX.out.eq, HY.out, map_app]
          · have a40 : (((S[k]'hlt).toNat : Int) == 40) = false := u8_not (n := 40) h40 (by decide)
            by_cases h41 : S[k]'hlt = 41
            · have a41 : (((S[k]'hlt).toNat : Int) == 41) = true := u8_is (n := 41) h41 (by decide)
              have hsg : sgR (S[k]'hlt :: S.data.toList.drop (k + 1)) = 1 := by simp only [sgR]; rw [if_pos (.inr (.inr h41))]
              have HY : Hid (pcsR (S.data.toList.drop k) = (pcsR (S.data.toList.drop (k + 1))).map ([[S[k]'hlt]] ++ ·)) := by
                show _ = _
                rw [hdc, pcsR_some h32 (by rw [hsg]; decide), hsg]; rfl
              have hcv := conv1 wr (S[k]'hlt)
              clear hdc hsg h32 h33 h40 h41
              go_wp2_with (at_builtin; refine wp_app1 (by rfl) _ _ (by rfl) w.heap.size (.slice a l.length c) l ([S[k]'hlt]) (wr.heap.size + 1) (by rfl) ((HX.out.row.alloc _).alloc _) (by rfl) (cell_new2b _ _ _ _) (by omega) (by simp; omega) ?_; intro gg cap w9 hown1 hgrow hlt9; have HO9 : Hid (SRow w9 w.heap.size (.slice (some ⟨gg, 0, none⟩) (l.length + 1) cap) (l ++ [[S[k]'hlt]])) := hown1; have HB9 : Hid (Below w.heap.size w w9) := ((HX.out.bl.alloc (by omega) _).alloc (by simp; omega) _).grown hgrow (by simp; omega) (fun b hb => (HX.out.row.blk hb).1); clear hown1 hgrow)
              go_roundg (S.size - (k + 1))
              case measure => omega
              case rel =>
                refine ⟨k + 1, l ++ [[S[k]'hlt]], _, _, by omega, by omega, by simp; exact ⟨rfl, rfl⟩, by go_num, by simp; omega, ⟨HB9.out, by simpa using HO9.out, ?_⟩⟩
                rw [← HX.out.eq, HY.out, map_app]
            · have a41 : (((S[k]'hlt).toNat : Int) == 41) = false := u8_not (n := 41) h41 (by decide)
              by_cases h38 : S[k]'hlt = 38
              · have a38 : (((S[k]'hlt).toNat : Int) == 38) = true := u8_is (n := 38) h38 (by decide)
                have HOR : S[k]'hlt = 38 ∨ S[k]'hlt = 124 := by first | exact .inl h38 | exact .inr h38
                have b9 : ¬ (97 ≤ (S[k]'hlt).toNat ∧ (S[k]'hlt).toNat ≤ 122) := by rw [h38]; decide
                by_cases hk1 : k + 1 < S.size
                · by_cases hsm : S[k + 1]'hk1 = S[k]'hlt
                  · have hsg : sgR (S[k]'hlt :: S.data.toList.drop (k + 1)) = 2 := by simp only [sgR]; rw [if_neg (by simp [h33, h40, h41]), if_pos ⟨HOR, by rw [drop_cons S (k + 1) hk1, hsm]; rfl⟩]
                    have HY : Hid (pcsR (S.data.toList.drop k) = (pcsR (S.data.toList.drop (k + 2))).map ([(S.data.toList.drop k).take 2] ++ ·)) := by
                      have h1 := pcsR_some (r := S.data.toList.drop (k + 1)) h32 (by rw [hsg]; decide)
                      rw [hsg, ← hdc, List.drop_drop] at h1
                      show _ = _
                      rw [h1]; rfl
                    have ys : (((S[k + 1]'hk1).toNat : Int) == ((S[k]'hlt).toNat : Int)) = true := by rw [u8_same]; exact decide_eq_true hsm
                    have yk : (k : Int) + 1 < (S.size : Int) := by omega
                    have yk2 : (k : Int) + 2 ≤ (S.size : Int) := by omega
                    have yk3 : (k : Int) ≤ (k : Int) + 2 := by omega
                    clear hdc hsg hsm HOR h32 h33 h40 h41 h38 b9
                    go_wp2_with (at_builtin; refine wp_app1 (by rfl) _ _ (by rfl) w.heap.size (.slice a l.length c) l ((S.data.toList.drop k).take 2) wr.heap.size (by rfl) (HX.out.row.alloc _) (by rfl) (by rw [← ext_take]; exact cell_new _ _ _) (by omega) (by simp; omega) ?_; intro gg cap w9 hown1 hgrow hlt9; have HO9 : Hid (SRow w9 w.heap.size (.slice (some ⟨gg, 0, none⟩) (l.length + 1) cap) (l ++ [(S.data.toList.drop k).take 2])) := hown1; have HB9 : Hid (Below w.heap.size w w9) := (HX.out.bl.alloc (by omega) _).grown hgrow (by simp; omega) (fun b hb => (HX.out.row.blk hb).1); clear hown1 hgrow)
                    go_roundg (S.size - (k + 2))
                    case measure => omega
                    case rel =>
                      refine ⟨k + 2, l ++ [(S.data.toList.drop k).take 2], _, _, by omega, by omega, by simp; exact ⟨rfl, rfl⟩, by go_num, by simp; omega, ⟨HB9.out, by simpa using HO9.out, ?_⟩⟩
                      rw [← HX.out.eq, HY.out, map_app]
                  · have hno : ¬ (S.data.toList.drop (k + 1)).head? = some (S[k]'hlt) := by rw [drop_cons S (k + 1) hk1]; simp; exact hsm
                    have ys : (((S[k + 1]'hk1).toNat : Int) == ((S[k]'hlt).toNat : Int)) = false := by rw [u8_same]; exact decide_eq_false hsm
                    have yk : (k : Int) + 1 < (S.size : Int) := by omega
                    have y9 : ¬ (97 : Int) ≤ ((S[k]'hlt).toNat : Int) := by rw [h38]; decide
                    have hsg : sgR (S[k]'hlt :: S.data.toList.drop (k + 1)) = 0 := by simp only [sgR]; rw [if_neg (by simp [h33, h40, h41]), if_neg (fun h => hno h.2), if_neg (by simp only [low, UInt8.le_iff_toNat_le, Bool.and_eq_true, decide_eq_true_eq]; exact b9)]
                    have HN : Hid (pcsR (S.data.toList.drop k) = none) := by
                      show _ = _
                      rw [hdc]; exact pcsR_none h32 hsg
                    clear hdc hsg hno b9 HOR h32 h33 h40 h41 h38 hsm
                    go_wp2_with fail
                    go_ret2
                    refine ⟨HX.out.bl, _, false, rfl, (fun h => by cases h), fun _ => ?_⟩
                    rw [HR.out, ← HX.out.eq, HN.out]; rfl
                · have hno : ¬ (S.data.toList.drop (k + 1)).head? = some (S[k]'hlt) := by rw [List.drop_of_length_le (by rw [bal]; omega)]; simp
                  have yk : ¬ (k : Int) + 1 < (S.size : Int) := by omega
                  have y9 : ¬ (97 : Int) ≤ ((S[k]'hlt).toNat : Int) := by rw [h38]; decide
                  have hsg : sgR (S[k]'hlt :: S.data.toList.drop (k + 1)) = 0 := by simp only [sgR]; rw [if_neg (by simp [h33, h40, h41]), if_neg (fun h => hno h.2), if_neg (by simp only [low, UInt8.le_iff_toNat_le, Bool.and_eq_true, decide_eq_true_eq]; exact b9)]
                  have HN : Hid (pcsR (S.data.toList.drop k) = none) := by
                    show _ = _
                    rw [hdc]; exact pcsR_none h32 hsg
                  clear hdc hsg hno b9 HOR h32 h33 h40 h41 h38
                  go_wp2_with fail
                  go_ret2
                  refine ⟨HX.out.bl, _, false, rfl, (fun h => by cases h), fun _ => ?_⟩
                  rw [HR.out, ← HX.out.eq, HN.out]; rfl
              · have a38 : (((S[k]'hlt).toNat : Int) == 38) = false := u8_not (n := 38) h38 (by decide)
                by_cases h124 : S[k]'hlt = 124
                · have a124 : (((S[k]'hlt).toNat : Int) == 124) = true := u8_is (n := 124) h124 (by decide)
                  have HOR : S[k]'hlt = 38 ∨ S[k]'hlt = 124 := by first | exact .inl h124 | exact .inr h124
                  have b9 : ¬ (97 ≤ (S[k]'hlt).toNat ∧ (S[k]'hlt).toNat ≤ 122) := by rw [h124]; decide
                  by_cases hk1 : k + 1 < S.size
                  · by_cases hsm : S[k + 1]'hk1 = S[k]'hlt
                    · have hsg : sgR (S[k]'hlt :: S.data.toList.drop (k + 1)) = 2 := by simp only [sgR]; rw [if_neg (by simp [h33, h40, h41]), if_pos ⟨HOR, by rw [drop_cons S (k + 1) hk1, hsm]; rfl⟩]
                      have HY : Hid (pcsR (S.data.toList.drop k) = (pcsR (S.data.toList.drop (k + 2))).map ([(S.data.toList.drop k).take 2] ++ ·)) := by
                        have h1 := pcsR_some (r := S.data.toList.drop (k + 1)) h32 (by rw [hsg]; decide)
                        rw [hsg, ← hdc, List.drop_drop] at h1
                        show _ = _
                        rw [h1]; rfl
                      have ys : (((S[k + 1]'hk1).toNat : Int) == ((S[k]'hlt).toNat : Int)) = true := by rw [u8_same]; exact decide_eq_true hsm
                      have yk : (k : Int) + 1 < (S.size : Int) := by omega
                      have yk2 : (k : Int) + 2 ≤ (S.size : Int) := by omega
                      have yk3 : (k : Int) ≤ (k : Int) + 2 := by omega
                      clear hdc hsg hsm HOR h32 h33 h40 h41 h38 h124 b9
                      go_wp2_with (at_builtin; refine wp_app1 (by rfl) _ _ (by rfl) w.heap.size (.slice a l.length c) l ((S.data.toList.drop k).take 2) wr.heap.size (by rfl) (HX.out.row.alloc _) (by rfl) (by rw [← ext_take]; exact cell_new _ _ _) (by omega) (by simp; omega) ?_; intro gg cap w9 hown1 hgrow hlt9; have HO9 : Hid (SRow w9 w.heap.size (.slice (some ⟨gg, 0, none⟩) (l.length + 1) cap) (l ++ [(S.data.toList.drop k).take 2])) := hown1; have HB9 : Hid (Below w.heap.size w w9) := (HX.out.bl.alloc (by omega) _).grown hgrow (by simp; omega) (fun b hb => (HX.out.row.blk hb).1); clear hown1 hgrow)
                      go_roundg (S.size - (k + 2))
                      case measure => omega
                      case rel =>
                        refine ⟨k + 2, l ++ [(S.data.toList.drop k).take 2], _, _, by omega, by omega, by simp; exact ⟨rfl, rfl⟩, by go_num, by simp; omega, ⟨HB9.out, by simpa using HO9.out, ?_⟩⟩
                        rw [← HX.out.eq, HY.out, map_app]
                    · have hno : ¬ (S.data.toList.drop (k + 1)).head? = some (S[k]'hlt) := by rw [drop_cons S (k + 1) hk1]; simp; exact hsm
                      have ys : (((S[k + 1]'hk1).toNat : Int) == ((S[k]'hlt).toNat : Int)) = false := by rw [u8_same]; exact decide_eq_false hsm
                      have yk : (k : Int) + 1 < (S.size : Int) := by omega
                      have y9 : ¬ ((S[k]'hlt).toNat : Int) ≤ 122 := by rw [h124]; decide
                      have y9b : (97 : Int) ≤ ((S[k]'hlt).toNat : Int) := by rw [h124]; decide
                      have hsg : sgR (S[k]'hlt :: S.data.toList.drop (k + 1)) = 0 := by simp only [sgR]; rw [if_neg (by simp [h33, h40, h41]), if_neg (fun h => hno h.2), if_neg (by simp only [low, UInt8.le_iff_toNat_le, Bool.and_eq_true, decide_eq_true_eq]; exact b9)]
                      have HN : Hid (pcsR (S.data.toList.drop k) = none) := by
                        show _ = _
                        rw [hdc]; exact pcsR_none h32 hsg
                      clear hdc hsg hno b9 HOR h32 h33 h40 h41 h38 h124 hsm
                      go_wp2_with fail
                      go_ret2
                      refine ⟨HX.out.bl, _, false, rfl, (fun h => by cases h), fun _ => ?_⟩
                      rw [HR.out, ← HX.out.eq, HN.out]; rfl
                  · have hno : ¬ (S.data.toList.drop (k + 1)).head? = some (S[k]'hlt) := by rw [List.drop_of_length_le (by rw [bal]; omega)]; simp
                    have yk : ¬ (k : Int) + 1 < (S.size : Int) := by omega
                    have y9 : ¬ ((S[k]'hlt).toNat : Int) ≤ 122 := by rw [h124]; decide
                    have y9b : (97 : Int) ≤ ((S[k]'hlt).toNat : Int) := by rw [h124]; decide
                    have hsg : sgR (S[k]'hlt :: S.data.toList.drop (k + 1)) = 0 := by simp only [sgR]; rw [if_neg (by simp [h33, h40, h41]), if_neg (fun h => hno h.2), if_neg (by simp only [low, UInt8.le_iff_toNat_le, Bool.and_eq_true, decide_eq_true_eq]; exact b9)]
                    have HN : Hid (pcsR (S.data.toList.drop k) = none) := by
                      show _ = _
                      rw [hdc]; exact pcsR_none h32 hsg
                    clear hdc hsg hno b9 HOR h32 h33 h40 h41 h38 h124
                    go_wp2_with fail
                    go_ret2
                    refine ⟨HX.out.bl, _, false, rfl, (fun h => by cases h), fun _ => ?_⟩
                    rw [HR.out, ← HX.out.eq, HN.out]; rfl
                · have a124 : (((S[k]'hlt).toNat : Int) == 124) = false := u8_not (n := 124) h124 (by decide)
                  by_cases b97 : 97 ≤ (S[k]'hlt).toNat
                  · by_cases b122 : (S[k]'hlt).toNat ≤ 122
                    · have hsg : sgR (S[k]'hlt :: S.data.toList.drop (k + 1)) = run inT (S.data.toList.drop k) := by simp only [sgR]; rw [if_neg (by simp [h33, h40, h41]), if_neg (by simp [h38, h124]), if_pos (by simp only [low, UInt8.le_iff_toNat_le, Bool.and_eq_true, decide_eq_true_eq]; exact ⟨b97, b122⟩), ← hdc]
                      obtain ⟨V, hV⟩ : ∃ V, run inT (S.data.toList.drop k) = V := ⟨_, rfl⟩
                      have hVpos : 0 < V := by rw [← hV, hdc]; simp only [run]; rw [if_pos (by rw [inT_nat]; simp only [Bool.or_eq_true, Bool.and_eq_true, decide_eq_true_eq]; exact .inl ⟨b97, b122⟩)]; omega
                      have hVle : k + V ≤ S.size := by have := run_le inT (S.data.toList.drop k); rw [List.length_drop, bal, hV] at this; omega
                      have HY : Hid (pcsR (S.data.toList.drop k) = (pcsR (S.data.toList.drop (k + V))).map ([(S.data.toList.drop k).take V] ++ ·)) := by
                        have h1 := pcsR_some (r := S.data.toList.drop (k + 1)) h32 (by rw [hsg, hV]; omega)
                        rw [hsg, hV, ← hdc, List.drop_drop] at h1
                        show _ = _
                        rw [h1]; rfl
                      have HV : Hid (k + run inT (S.data.toList.drop k) = k + V) := by show _ = _; rw [hV]
                      clear hV
                      have y97 : (97 : Int) ≤ ((S[k]'hlt).toNat : Int) := by omega
                      have y122 : ((S[k]'hlt).toNat : Int) ≤ 122 := by omega
                      have yv1 : (k : Int) ≤ (k : Int) + (V : Int) := by omega
                      have yv2 : (k : Int) + (V : Int) ≤ (S.size : Int) := by omega
                      clear hdc hsg h32 h33 h40 h41 h38 h124 b97 b122
                      go_wp2_with fail
                      go_loopg [7] S.size (fun g u7 wq => ∃ j : Nat, k ≤ j ∧ j ≤ S.size ∧ S.size - j ≤ g ∧ u7 = .int .i64 j ∧ wq = wr ∧ Hid (j + run inT (S.data.toList.drop j) = k + V))
                      case atStart => exact ⟨k, Nat.le_refl _, by omega, by omega, rfl, rfl, HV.out⟩
                      case round =>
                        obtain ⟨j, hkj, hj, hg2, rfl, hw, HJ⟩ := hrel
                        obtain rfl := hw.symm
                        clear hw
                        have HF : Hid (∀ hh : j < S.size, inT (S[j]'hh) = false → j = k + V) := fun hh hf => by
                          have h2 := HJ.out
                          rw [drop_cons S j hh] at h2
                          simp only [run, hf] at h2
                          simpa using h2
                        have HT : Hid (∀ hh : j < S.size, inT (S[j]'hh) = true → j + 1 + run inT (S.data.toList.drop (j + 1)) = k + V) := fun hh hf => by
                          have h2 := HJ.out
                          rw [drop_cons S j hh] at h2
                          simp only [run, hf, if_true] at h2
                          omega
                        by_cases hlt2 : j < S.size
                        · have z2 : (j : Int) < (S.size : Int) := by omega
                          have z3 : (0 : Int) ≤ (j : Int) := by omega
                          have hnat := inT_nat (S[j]'hlt2)
                          by_cases c1 : 97 ≤ (S[j]'hlt2).toNat
                          · by_cases c2 : (S[j]'hlt2).toNat ≤ 122
                            · have y0 : (97 : Int) ≤ ((S[j]'hlt2).toNat : Int) := by omega
                              have y1 : ((S[j]'hlt2).toNat : Int) ≤ 122 := by omega
                              have HK := HT.out hlt2 (by rw [hnat]; simp only [Bool.or_eq_true, Bool.and_eq_true, decide_eq_true_eq]; omega)
                              have HK2 : Hid (j + 1 + run inT (S.data.toList.drop (j + 1)) = k + V) := HK
                              clear HK HF HT HJ hnat
                              go_wp2_with fail
                              go_roundg (S.size - (j + 1))
                              case measure => omega
                              case rel => exact ⟨j + 1, by omega, by omega, by omega, by go_num, rfl, HK2⟩
                            · have y0 : (97 : Int) ≤ ((S[j]'hlt2).toNat : Int) := by omega
                              have y1 : ¬ ((S[j]'hlt2).toNat : Int) ≤ 122 := by omega
                              have y2 : (48 : Int) ≤ ((S[j]'hlt2).toNat : Int) := by omega
                              have y3 : ¬ ((S[j]'hlt2).toNat : Int) ≤ 57 := by omega
                              have hjV := HF.out hlt2 (by rw [hnat, Bool.eq_false_iff]; simp only [ne_eq, Bool.or_eq_true, Bool.and_eq_true, decide_eq_true_eq]; omega)
                              clear HF HT HJ hnat
                              subst hjV
                              go_wp2_with (at_builtin; refine wp_app1 (by rfl) _ _ (by rfl) w.heap.size (.slice a l.length c) l ((S.data.toList.drop k).take V) wr.heap.size (by rfl) (HX.out.row.alloc _) (by rfl) (by rw [← ext_take]; exact cell_new _ _ _) (by omega) (by simp; omega) ?_; intro gg cap w9 hown1 hgrow hlt9; have HO9 : Hid (SRow w9 w.heap.size (.slice (some ⟨gg, 0, none⟩) (l.length + 1) cap) (l ++ [(S.data.toList.drop k).take V])) := hown1; have HB9 : Hid (Below w.heap.size w w9) := (HX.out.bl.alloc (by omega) _).grown hgrow (by simp; omega) (fun b hb => (HX.out.row.blk hb).1); clear hown1 hgrow)
                              go_roundg (S.size - (k + V))
                              case measure => omega
                              case rel =>
                                refine ⟨k + V, l ++ [(S.data.toList.drop k).take V], _, _, by omega, by omega, by simp; exact ⟨rfl, rfl⟩, by go_num, by simp; omega, ⟨HB9.out, by simpa using HO9.out, ?_⟩⟩
                                rw [← HX.out.eq, HY.out, map_app]
                          · by_cases c3 : 48 ≤ (S[j]'hlt2).toNat
                            · by_cases c4 : (S[j]'hlt2).toNat ≤ 57
                              · have y0 : ¬ (97 : Int) ≤ ((S[j]'hlt2).toNat : Int) := by omega
                                have y1 : (48 : Int) ≤ ((S[j]'hlt2).toNat : Int) := by omega
                                have y2 : ((S[j]'hlt2).toNat : Int) ≤ 57 := by omega
                                have HK := HT.out hlt2 (by rw [hnat]; simp only [Bool.or_eq_true, Bool.and_eq_true, decide_eq_true_eq]; omega)
                                have HK2 : Hid (j + 1 + run inT (S.data.toList.drop (j + 1)) = k + V) := HK
                                clear HK HF HT HJ hnat
                                go_wp2_with fail
                                go_roundg (S.size - (j + 1))
                                case measure => omega
                                case rel => exact ⟨j + 1, by omega, by omega, by omega, by go_num, rfl, HK2⟩
                              · have y0 : ¬ (97 : Int) ≤ ((S[j]'hlt2).toNat : Int) := by omega
                                have y1 : (48 : Int) ≤ ((S[j]'hlt2).toNat : Int) := by omega
                                have y2 : ¬ ((S[j]'hlt2).toNat : Int) ≤ 57 := by omega
                                have hjV := HF.out hlt2 (by rw [hnat, Bool.eq_false_iff]; simp only [ne_eq, Bool.or_eq_true, Bool.and_eq_true, decide_eq_true_eq]; omega)
                                clear HF HT HJ hnat
                                subst hjV
                                go_wp2_with (at_builtin; refine wp_app1 (by rfl) _ _ (by rfl) w.heap.size (.slice a l.length c) l ((S.data.toList.drop k).take V) wr.heap.size (by rfl) (HX.out.row.alloc _) (by rfl) (by rw [← ext_take]; exact cell_new _ _ _) (by omega) (by simp; omega) ?_; intro gg cap w9 hown1 hgrow hlt9; have HO9 : Hid (SRow w9 w.heap.size (.slice (some ⟨gg, 0, none⟩) (l.length + 1) cap) (l ++ [(S.data.toList.drop k).take V])) := hown1; have HB9 : Hid (Below w.heap.size w w9) := (HX.out.bl.alloc (by omega) _).grown hgrow (by simp; omega) (fun b hb => (HX.out.row.blk hb).1); clear hown1 hgrow)
                                go_roundg (S.size - (k + V))
                                case measure => omega
                                case rel =>
                                  refine ⟨k + V, l ++ [(S.data.toList.drop k).take V], _, _, by omega, by omega, by simp; exact ⟨rfl, rfl⟩, by go_num, by simp; omega, ⟨HB9.out, by simpa using HO9.out, ?_⟩⟩
                                  rw [← HX.out.eq, HY.out, map_app]
                            · have y0 : ¬ (97 : Int) ≤ ((S[j]'hlt2).toNat : Int) := by omega
                              have y1 : ¬ (48 : Int) ≤ ((S[j]'hlt2).toNat : Int) := by omega
                              have hjV := HF.out hlt2 (by rw [hnat, Bool.eq_false_iff]; simp only [ne_eq, Bool.or_eq_true, Bool.and_eq_true, decide_eq_true_eq]; omega)
                              clear HF HT HJ hnat
                              subst hjV
                              go_wp2_with (at_builtin; refine wp_app1 (by rfl) _ _ (by rfl) w.heap.size (.slice a l.length c) l ((S.data.toList.drop k).take V) wr.heap.size (by rfl) (HX.out.row.alloc _) (by rfl) (by rw [← ext_take]; exact cell_new _ _ _) (by omega) (by simp; omega) ?_; intro gg cap w9 hown1 hgrow hlt9; have HO9 : Hid (SRow w9 w.heap.size (.slice (some ⟨gg, 0, none⟩) (l.length + 1) cap) (l ++ [(S.data.toList.drop k).take V])) := hown1; have HB9 : Hid (Below w.heap.size w w9) := (HX.out.bl.alloc (by omega) _).grown hgrow (by simp; omega) (fun b hb => (HX.out.row.blk hb).1); clear hown1 hgrow)
                              go_roundg (S.size - (k + V))
                              case measure => omega
                              case rel =>
                                refine ⟨k + V, l ++ [(S.data.toList.drop k).take V], _, _, by omega, by omega, by simp; exact ⟨rfl, rfl⟩, by go_num, by simp; omega, ⟨HB9.out, by simpa using HO9.out, ?_⟩⟩
                                rw [← HX.out.eq, HY.out, map_app]
                        · have z2 : ¬ (j : Int) < (S.size : Int) := by omega
                          have hjV : j = k + V := by
                            have h2 := HJ.out
                            rw [List.drop_of_length_le (by rw [bal]; omega)] at h2
                            simpa [run] using h2
                          clear HF HT HJ
                          subst hjV
                          go_wp2_with (at_builtin; refine wp_app1 (by rfl) _ _ (by rfl) w.heap.size (.slice a l.length c) l ((S.data.toList.drop k).take V) wr.heap.size (by rfl) (HX.out.row.alloc _) (by rfl) (by rw [← ext_take]; exact cell_new _ _ _) (by omega) (by simp; omega) ?_; intro gg cap w9 hown1 hgrow hlt9; have HO9 : Hid (SRow w9 w.heap.size (.slice (some ⟨gg, 0, none⟩) (l.length + 1) cap) (l ++ [(S.data.toList.drop k).take V])) := hown1; have HB9 : Hid (Below w.heap.size w w9) := (HX.out.bl.alloc (by omega) _).grown hgrow (by simp; omega) (fun b hb => (HX.out.row.blk hb).1); clear hown1 hgrow)
                          go_roundg (S.size - (k + V))
                          case measure => omega
                          case rel =>
                            refine ⟨k + V, l ++ [(S.data.toList.drop k).take V], _, _, by omega, by omega, by simp; exact ⟨rfl, rfl⟩, by go_num, by simp; omega, ⟨HB9.out, by simpa using HO9.out, ?_⟩⟩
                            rw [← HX.out.eq, HY.out, map_app]
                    · have y97 : (97 : Int) ≤ ((S[k]'hlt).toNat : Int) := by omega
                      have y122 : ¬ ((S[k]'hlt).toNat : Int) ≤ 122 := by omega
                      have b9 : ¬ (97 ≤ (S[k]'hlt).toNat ∧ (S[k]'hlt).toNat ≤ 122) := by omega
                      have hsg : sgR (S[k]'hlt :: S.data.toList.drop (k + 1)) = 0 := by simp only [sgR]; rw [if_neg (by simp [h33, h40, h41]), if_neg (by simp [h38, h124]), if_neg (by simp only [low, UInt8.le_iff_toNat_le, Bool.and_eq_true, decide_eq_true_eq]; exact b9)]
                      have HN : Hid (pcsR (S.data.toList.drop k) = none) := by
                        show _ = _
                        rw [hdc]; exact pcsR_none h32 hsg
                      clear hdc hsg b9 b97 b122 h32 h33 h40 h41 h38 h124
                      go_wp2_with fail
                      go_ret2
                      refine ⟨HX.out.bl, _, false, rfl, (fun h => by cases h), fun _ => ?_⟩
                      rw [HR.out, ← HX.out.eq, HN.out]; rfl
                  · have y97 : ¬ (97 : Int) ≤ ((S[k]'hlt).toNat : Int) := by omega
                    have b9 : ¬ (97 ≤ (S[k]'hlt).toNat ∧ (S[k]'hlt).toNat ≤ 122) := by omega
                    have hsg : sgR (S[k]'hlt :: S.data.toList.drop (k + 1)) = 0 := by simp only [sgR]; rw [if_neg (by simp [h33, h40, h41]), if_neg (by simp [h38, h124]), if_neg (by simp only [low, UInt8.le_iff_toNat_le, Bool.and_eq_true, decide_eq_true_eq]; exact b9)]
                    have HN : Hid (pcsR (S.data.toList.drop k) = none) := by
                      show _ = _
                      rw [hdc]; exact pcsR_none h32 hsg
                    clear hdc hsg b9 b97 h32 h33 h40 h41 h38 h124
                    go_wp2_with fail
                    go_ret2
                    refine ⟨HX.out.bl, _, false, rfl, (fun h => by cases h), fun _ => ?_⟩
                    rw [HR.out, ← HX.out.eq, HN.out]; rfl
    · have z1 : ¬ (k : Int) < (S.size : Int) := by omega
      go_wp2_with fail
      go_ret2
      have he : k = S.size := by omega
      refine ⟨HX.out.bl, _, true, rfl, (fun _ => ⟨l, ?_, HX.out.row⟩), fun h => by cases h⟩
      rw [HR.out, ← HX.out.eq, he, List.drop_of_length_le (by rw [bal]; omega), pcsR_nil]
      simp
end Go.Proofs.YtleiohccaagalaaGreat
