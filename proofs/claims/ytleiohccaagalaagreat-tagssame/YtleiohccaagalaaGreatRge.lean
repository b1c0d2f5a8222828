/-
  The document's one, walked: all of it; rows.
-/
import Derived.Test.YtleiohccaagalaaGreatRgb
import Derived.Test.YtleiohccaagalaaGreatRgc
import Derived.Test.YtleiohccaagalaaGreatRgd
namespace Go.Proofs.YtleiohccaagalaaGreat
open Go.RowKit
attribute [local go_sem ↓] Go.wp_at_zero Go.wp_at_succ
/-- one and both rows, with room enough -/
theorem oneR_any {B n c : Nat} {a : Option Addr} {ts : List Bs} (hg : ∀ t ∈ ts, plB t = idB t) : ∀ m : Nat, ts.length + m ≤ 100000 → ∀ i w, (ts.drop i).length < m → i ≤ ts.length → RestV B w a n c ts → Rz B a n c w i false →
    Calls Tryz.prog 29 #[.pointer (some ⟨B, 0, none⟩)] w (RdR B a n c i w ts (one m (ts.drop i)) (ts.length + m))
  | 0, _, _, _, h, _, _, _ => absurd h (Nat.not_lt_zero _)
  | m + 1, hm, i, w, hk, hi, hrv, h => by
    have ih := oneR_any (B := B) (n := n) (c := c) (a := a) hg m (by omega)
    by_cases he : i = ts.length
    · exact oneR_nil i w he (by omega) hrv h
    · have hlt : i < ts.length := by omega
      rw [List.length_drop] at hk
      by_cases n1 : ts[i] = sNot
      · exact oneR_not (by omega) i w hlt hrv h (fun W hr hz => ih (i + 1) W (by rw [List.length_drop]; omega) (by omega) hr hz) n1
      · by_cases n2 : ts[i] = sO
        · refine oneR_open (by omega) i w hlt hrv h (fun W hr hz => ?_) n2
          have hm1 : m ≠ 0 := by omega
          exact row4_any (k := m - 1) (rowF_shr (one_shr m)) (by omega) (by omega) (fun j W2 hj hj2 hr2 hz2 => row3_any (k := m - 1) (one_shr m) (by omega) (by omega) (fun j W3 hj3 hj4 hr3 hz3 => ih j W3 (by omega) hj4 hr3 hz3) j W2 hj hj2 hr2 hz2) (i + 1) W (by rw [List.length_drop]; omega) (by omega) hr hz
        · by_cases n3 : ts[i] = sTrue
          · exact oneR_true (by omega) i w hlt hrv h n3
          · cases hid : idB ts[i] with
            | true => exact oneR_tag (by omega) i w hlt hrv h (hg _ (List.getElem_mem _)) n1 n2 n3 hid
            | false => exact oneR_bad (by omega) i w hlt hrv h (hg _ (List.getElem_mem _)) n1 n2 n3 hid
/-- a whole rule -/
theorem ruleR_any {B n c : Nat} {a : Option Addr} {ts : List Bs} (hg : ∀ t ∈ ts, plB t = idB t) (hl : ts.length ≤ 1000) (w : World) (hrv : RestV B w a n c ts) (h : Rz B a n c w 0 false) :
    Calls Tryz.prog 17 #[.pointer (some ⟨B, 0, none⟩), .int .i64 4, .string (bs sOr)] w (RdR B a n c 0 w ts (rule (ts.length + 1) ts) (ts.length + (ts.length + 1))) := by
  have h1 := row4_any (B := B) (n := n) (c := c) (a := a) (ts := ts) (k := ts.length) (top := ts.length + (ts.length + 1)) (rowF_shr (one_shr (ts.length + 1))) (by omega) (by omega) (fun j W2 hj hj2 hr2 hz2 => row3_any (k := ts.length) (one_shr (ts.length + 1)) (by omega) (by omega) (fun j W3 hj3 hj4 hr3 hz3 => oneR_any hg (ts.length + 1) (by omega) j W3 (by omega) hj4 hr3 hz3) j W2 hj hj2 hr2 hz2) 0 w (by simp) (by omega) hrv h
  rwa [List.drop_zero] at h1
end Go.Proofs.YtleiohccaagalaaGreat
