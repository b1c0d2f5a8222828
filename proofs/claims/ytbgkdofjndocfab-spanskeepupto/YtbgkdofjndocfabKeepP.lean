/-
  Where a byte stands behind sorted spans of one text: told by its place, held against the text itself; how many bytes there are.
-/
import Derived.Test.YtbgkdofjndocfabApplyAll
namespace Go.Proofs.Ytbgkdofjndocfab
open Go.RowKit Go.Maps
def pos : Nat → List Ed → Nat → Option Nat
  | d, [], k => some (k - d)
  | d, x :: r, k => if k < x.2.1.toNat then some (k - d) else if k < x.2.2.1.toNat then none else (pos x.2.2.1.toNat r k).map (· + ((x.2.1.toNat - d) + x.2.2.2.size))
theorem okE_from (s : ByteArray) : ∀ (L : List Ed) (d : Nat), okE s d L → ∀ x ∈ L, (d : Int) ≤ x.2.1
  | [], _, _, x, hx => by simp at hx
  | y :: r, d, ⟨h1, h2, h3, h4⟩, x, hx => by
    rcases List.mem_cons.1 hx with rfl | hx
    · exact h1
    · have := okE_from s r y.2.2.1.toNat h4 x hx
      omega
theorem mv_skip (P : ByteArray) (k : Int) : ∀ (L : List Ed) (m : Int), (∀ x ∈ L, k < x.2.1) → mvF P k L m = some m
  | [], _, _ => rfl
  | x :: r, m, h => by
    rw [mvF, if_neg (by have := h x (by simp); omega)]
    exact mv_skip P k r m fun y hy => h y (by simp [hy])
theorem pos_mv (s P : ByteArray) : ∀ (L : List Ed) (d k : Nat) (m : Int), okE s d L → (∀ x ∈ L, x.1 = P) → d ≤ k → mvF P k L m = (pos d L k).map fun (p : Nat) => m - k + d + (p : Int)
  | [], d, k, m, _, _, hk => by
    simp only [mvF, pos, Option.map_some]
    congr 1
    omega
  | x :: r, d, k, m, ⟨h1, h2, h3, h4⟩, hp, hk => by
    have hx := hp x (by simp)
    rw [mvF, pos]
    by_cases c1 : k < x.2.1.toNat
    · rw [if_neg (by omega), if_pos c1, mv_skip P k r m fun y hy => by have := okE_from s r _ h4 y hy; omega]
      simp only [Option.map_some]
      congr 1
      omega
    · rw [if_pos ⟨by rw [hx]; simp, by omega⟩, if_neg c1]
      by_cases c2 : k < x.2.2.1.toNat
      · rw [if_pos (by omega), if_pos c2]; rfl
      · rw [if_neg (by omega), if_neg c2, pos_mv s P r x.2.2.1.toNat k _ h4 (fun y hy => hp y (by simp [hy])) (by omega), Option.map_map]
        congr 1
        funext p
        simp only [Function.comp]
        omega
theorem pos_get (s : ByteArray) : ∀ (L : List Ed) (d k p : Nat), okE s d L → d ≤ k → k < s.size → pos d L k = some p → (repL s.data.toList d L)[p]? = s.data.toList[k]?
  | [], d, k, p, _, hk, _, h => by
    simp only [pos, Option.some.injEq] at h
    subst h
    simp only [repL, List.getElem?_drop]
    congr 1
    omega
  | x :: r, d, k, p, ⟨h1, h2, h3, h4⟩, hk, hks, h => by
    have hsl : s.data.toList.length = s.size := rfl
    have hl1 : ((s.data.toList.drop d).take (x.2.1.toNat - d)).length = x.2.1.toNat - d := by simp; omega
    rw [pos] at h
    rw [repL]
    by_cases c1 : k < x.2.1.toNat
    · rw [if_pos c1] at h
      simp only [Option.some.injEq] at h
      subst h
      rw [List.append_assoc, List.getElem?_append_left (by omega), List.getElem?_take, if_pos (by omega), List.getElem?_drop]
      congr 1
      omega
    · rw [if_neg c1] at h
      by_cases c2 : k < x.2.2.1.toNat
      · rw [if_pos c2] at h; cases h
      · rw [if_neg c2] at h
        obtain ⟨p', hp', rfl⟩ := Option.map_eq_some_iff.1 h
        have ih := pos_get s r x.2.2.1.toNat k p' h4 (by omega) hks hp'
        have hxs : x.2.2.2.data.toList.length = x.2.2.2.size := rfl
        rw [List.getElem?_append_right (by rw [List.length_append, hl1, hxs]; omega), List.length_append, hl1, hxs, Nat.add_sub_cancel]
        exact ih
theorem pos_mono : ∀ (L : List Ed) (d a b p q : Nat), d ≤ a → a < b → pos d L a = some p → pos d L b = some q → (∀ s : ByteArray, okE s d L → p < q)
  | [], d, a, b, p, q, ha, hab, hp, hq, _, _ => by
    simp only [pos, Option.some.injEq] at hp hq
    omega
  | x :: r, d, a, b, p, q, ha, hab, hp, hq, s, ⟨h1, h2, h3, h4⟩ => by
    rw [pos] at hp hq
    by_cases c1 : b < x.2.1.toNat
    · rw [if_pos c1] at hq
      rw [if_pos (by omega)] at hp
      simp only [Option.some.injEq] at hp hq
      omega
    · rw [if_neg c1] at hq
      by_cases c2 : b < x.2.2.1.toNat
      · rw [if_pos c2] at hq; cases hq
      · rw [if_neg c2] at hq
        obtain ⟨q', hq', rfl⟩ := Option.map_eq_some_iff.1 hq
        by_cases c3 : a < x.2.1.toNat
        · rw [if_pos c3] at hp
          simp only [Option.some.injEq] at hp
          omega
        · rw [if_neg c3] at hp
          by_cases c4 : a < x.2.2.1.toNat
          · rw [if_pos c4] at hp; cases hp
          · rw [if_neg c4] at hp
            obtain ⟨p', hp', rfl⟩ := Option.map_eq_some_iff.1 hp
            have := pos_mono r x.2.2.1.toNat a b p' q' (by omega) hab hp' hq' s h4
            omega
def tot : List Ed → Nat
  | [] => 0
  | x :: r => x.2.2.2.size + tot r
theorem countP_const {f : Nat → Bool} {b : Bool} : ∀ (n d : Nat), (∀ k, d ≤ k → k < d + n → f k = b) → (List.range' d n).countP f = if b then n else 0
  | 0, d, _ => by simp
  | n + 1, d, h => by
    rw [List.range'_succ, List.countP_cons, countP_const n (d + 1) fun k h1 h2 => h k (by omega) (by omega), h d (by omega) (by omega)]
    cases b <;> simp
theorem count_all (s : ByteArray) : ∀ (L : List Ed) (d : Nat), okE s d L → (List.range' d (s.size - d)).countP (fun k => (pos d L k).isSome) + tot L = (repL s.data.toList d L).length
  | [], d, h => by
    rw [countP_const (f := fun k => (pos d [] k).isSome) (b := true) _ _ fun k _ _ => rfl]
    have hsl : s.data.toList.length = s.size := rfl
    simp [repL, tot]
  | x :: r, d, ⟨h1, h2, h3, h4⟩ => by
    have ih := count_all s r x.2.2.1.toNat h4
    have hsl : s.data.toList.length = s.size := rfl
    have hxs : x.2.2.2.data.toList.length = x.2.2.2.size := rfl
    have e1 : List.range' d (s.size - d) = List.range' d (x.2.1.toNat - d) ++ (List.range' x.2.1.toNat (x.2.2.1.toNat - x.2.1.toNat) ++ List.range' x.2.2.1.toNat (s.size - x.2.2.1.toNat)) := by
      have a1 := List.range'_append_1 (s := x.2.1.toNat) (m := x.2.2.1.toNat - x.2.1.toNat) (n := s.size - x.2.2.1.toNat)
      rw [show x.2.1.toNat + (x.2.2.1.toNat - x.2.1.toNat) = x.2.2.1.toNat by omega] at a1
      have a2 := List.range'_append_1 (s := d) (m := x.2.1.toNat - d) (n := x.2.2.1.toNat - x.2.1.toNat + (s.size - x.2.2.1.toNat))
      rw [show d + (x.2.1.toNat - d) = x.2.1.toNat by omega] at a2
      rw [a1, a2]
      congr 1
      omega
    rw [e1, List.countP_append, List.countP_append,
      countP_const (f := fun k => (pos d (x :: r) k).isSome) (b := true) (x.2.1.toNat - d) d fun k hk1 hk2 => by rw [pos, if_pos (by omega)]; rfl,
      countP_const (f := fun k => (pos d (x :: r) k).isSome) (b := false) (x.2.2.1.toNat - x.2.1.toNat) x.2.1.toNat fun k hk1 hk2 => by rw [pos, if_neg (by omega), if_pos (by omega)]; rfl]
    have e2 : (List.range' x.2.2.1.toNat (s.size - x.2.2.1.toNat)).countP (fun k => (pos d (x :: r) k).isSome) = (List.range' x.2.2.1.toNat (s.size - x.2.2.1.toNat)).countP (fun k => (pos x.2.2.1.toNat r k).isSome) := by
      refine List.countP_congr fun k hk => ?_
      have := (List.mem_range'_1.1 hk).1
      rw [pos, if_neg (by omega), if_neg (by omega)]
      simp
    rw [e2]
    simp only [repL, List.length_append, List.length_take, List.length_drop, hxs, tot, if_true, Bool.false_eq_true, if_false]
    omega
end Go.Proofs.Ytbgkdofjndocfab
