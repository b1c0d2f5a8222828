/-
  Plain facts on products of rows of words: no program is named here.
-/
import Derived.Test.YtfkkhabpnnealaaDoorPlain
namespace Go.Proofs.YtfkkhabpnnealaaDoor
theorem win_split (d : List Nat) (k m : Nat) (h : k + m ≤ d.length) : vl 4294967296 d = vl 4294967296 (d.take k) + 4294967296 ^ k * (vl 4294967296 ((d.drop k).take m) + 4294967296 ^ m * vl 4294967296 (d.drop (k + m))) := by
  have h1 := vl_append 4294967296 (d.take k) (d.drop k)
  have h2 := vl_append 4294967296 ((d.drop k).take m) ((d.drop k).drop m)
  rw [List.take_append_drop] at h1 h2
  rw [h1, h2, List.drop_drop]
  rw [show (d.take k).length = k from by simp; omega, show ((d.drop k).take m).length = m from by simp; omega]
theorem vl_three (a r c : List Nat) (k m : Nat) (h1 : a.length = k) (h2 : r.length = m) : vl 4294967296 (a ++ (r ++ c)) = vl 4294967296 a + 4294967296 ^ k * (vl 4294967296 r + 4294967296 ^ m * vl 4294967296 c) := by
  rw [vl_append, vl_append, h1, h2]
theorem mul_arith (P V D W w v r A : Nat) (hd : D = A + P * W) (he : D = V * v) (hr : r = W + w * v) : A + P * r = (V + P * w) * v := by
  subst hr; subst hd; grind
structure MulR (l p : List Nat) (k : Nat) (d : List Nat) : Prop where
  len : d.length = l.length + p.length
  wd : Wd 4294967296 d
  eq : vl 4294967296 d = vl 4294967296 (l.take k) * vl 4294967296 p
  top : vl 4294967296 (d.drop (k + p.length)) = 0
theorem take_snoc_lt (l : List Nat) (m : Nat) (hw : Wd 4294967296 l) (h0 : l.getD m 0 = 0) (hl : m < l.length) : vl 4294967296 (l.take (m + 1)) < 4294967296 ^ m := by
  rw [vl_take_succ _ _ _ hl, h0, Nat.mul_zero, Nat.add_zero]
  have := vl_lt 4294967296 (l.take m) (hw.take m)
  rwa [show (l.take m).length = m from by simp; omega] at this
theorem MulR.step {l p d r : List Nat} {k c : Nat} (h : MulR l p k d) (hk : k < l.length) (wp : Wd 4294967296 p) (wl : Wd 4294967296 l) (hr : r.length = p.length + 1) (wr : Wd 4294967296 r)
    (he : vl 4294967296 r + 4294967296 ^ (p.length + 1) * c = vl 4294967296 ((d.drop k).take (p.length + 1)) + l.getD k 0 * vl 4294967296 p) : MulR l p (k + 1) (d.take k ++ (r ++ d.drop (k + (p.length + 1)))) := by
  have hl := h.len
  have hz : d.getD (k + p.length) 0 = 0 := by
    have := zeros_of_vl 4294967296 (by omega) _ h.top
    rw [List.getD_eq_getElem?_getD, List.getElem?_eq_getElem (by omega)]
    refine this _ ?_
    rw [List.mem_iff_getElem]
    exact ⟨0, by simp; omega, by simp⟩
  have hz2 : vl 4294967296 (d.drop (k + (p.length + 1))) = 0 := by
    have h1 := h.top
    rw [List.drop_eq_getElem_cons (by omega)] at h1
    simp only [vl] at h1
    rw [show k + (p.length + 1) = k + p.length + 1 from by omega]
    omega
  have hw : vl 4294967296 ((d.drop k).take (p.length + 1)) < 4294967296 ^ p.length := take_snoc_lt _ _ (h.wd.drop k) (by rw [List.getD_eq_getElem?_getD, List.getElem?_drop, ← List.getD_eq_getElem?_getD]; exact hz) (by simp; omega)
  have hp := vl_lt 4294967296 p wp
  rw [Nat.pow_succ] at he
  have hn := (no_carry _ _ _ _ _ c hw hp (wl.at (by omega) k) he).2
  have hd := win_split d k (p.length + 1) (by omega)
  rw [hz2, Nat.mul_zero, Nat.add_zero] at hd
  refine ⟨by simp; omega, Wd.append.2 ⟨h.wd.take k, Wd.append.2 ⟨wr, h.wd.drop _⟩⟩, ?_, ?_⟩
  · rw [vl_three _ _ _ k (p.length + 1) (by simp; omega) hr, hz2, Nat.mul_zero, Nat.add_zero, vl_take_succ _ _ _ hk]
    exact mul_arith _ _ _ _ _ _ _ _ hd h.eq hn
  · rw [← List.append_assoc, List.drop_append_of_le_length (by simp; omega), List.drop_of_length_le (by simp; omega), List.nil_append]
    exact hz2
end Go.Proofs.YtfkkhabpnnealaaDoor

