/-
  Plain facts for SpansIndent: the blanks that the law lays, and the blanks that a line begins with.
-/
import Derived.Test.YtbgkdofjndocfabDoorWalkL
import Derived.Deep.AppendLies
import Derived.Deep.Onto
import Derived.Laws.BytesString
namespace Go.Proofs.YtbgkdofjndocfabDoor
open Go.RowKit
def blk (k : Nat) : List Int := (List.range k).map fun i => if i % 2 = 0 then 32 else 9
theorem blk_succ (k : Nat) : blk (k + 1) = blk k ++ [if k % 2 = 0 then 32 else 9] := by simp [blk, List.range_succ]
theorem blk_len (k : Nat) : (blk k).length = k := by simp [blk]
def blB (k : Nat) : ByteArray := (blk k).foldl (fun r n => r.push (UInt8.ofNat n.toNat)) ByteArray.empty
def blU (k : Nat) : List UInt8 := (List.range k).map fun i => if i % 2 = 0 then 32 else 9
theorem blU_succ (k : Nat) : blU (k + 1) = blU k ++ [if k % 2 = 0 then 32 else 9] := by simp [blU, List.range_succ]
theorem blB_data : ∀ k, (blB k).data.toList = blU k
  | 0 => rfl
  | k + 1 => by
    have ih := blB_data k
    rw [blU_succ, ← ih]
    unfold blB
    rw [blk_succ, List.foldl_append]
    simp only [List.foldl_cons, List.foldl_nil]
    by_cases h : k % 2 = 0
    · simp [h, ByteArray.push]
    · simp [h, ByteArray.push]
theorem blU_len (k : Nat) : (blU k).length = k := by simp [blU]
theorem blU_bl (k : Nat) : ∀ x ∈ blU k, isBl x = true := by
  intro x hx
  simp [blU] at hx
  obtain ⟨i, _, rfl⟩ := hx
  by_cases h : i % 2 = 0 <;> simp [h, isBl]
theorem conv_own {w : World} {base k : Nat} {v : Value} (h : w.ownsRow base 5 1 v k ((blk k).map (.int .u8))) : (convert 23 9 v).run Tryd.prog w = .ok (.string (blB k)) w := by
  rcases h.2 with ⟨rfl, rfl⟩ | ⟨g, cap, cur, rfl, _⟩
  · rw [run_convert_bytes_string w 23 9 5 none 0 0 Tryd.underlying23 Tryd.underlying5 Tryd.underlying9]
    rfl
  · rw [run_convert_bytes_string w 23 9 5 _ _ _ Tryd.underlying23 Tryd.underlying5 Tryd.underlying9]
    refine run_bytesToString w ⟨g, 0, none⟩ k cap (blk k) ?_
    have := run_loadCells_list (P := Tryd.prog) w ⟨g, 0, none⟩ ((blk k).map (.int .u8)) (fun j u hj => h.cells rfl j u hj)
    simpa [blk_len] using this
theorem own_below {w w' : World} {base k : Nat} {v : Value} {xs : List Value} (h : w.ownsRow base 5 1 v k xs) (hb : Below w.heap.size w w') : w'.ownsRow base 5 1 v k xs := by
  refine ⟨h.1, ?_⟩
  have hl := h.lt
  rcases h.2 with ⟨hv, hn⟩ | ⟨g, cap, cur, rfl, h1, h2, h3⟩
  · exact .inl ⟨hv, hn⟩
  · exact .inr ⟨g, cap, cur, rfl, h1, (hb.block g (hl g rfl).2).trans h2, h3⟩
theorem take_bl : ∀ (l r : List UInt8), (∀ x ∈ l, isBl x = true) → (∀ x, r.head? = some x → isBl x = false) → (l ++ r).takeWhile isBl = l
  | [], [], _, _ => rfl
  | [], x :: r, _, h => by simp [h x rfl]
  | a :: l, r, h1, h2 => by
    have ha := h1 a (by simp)
    have := take_bl l r (fun x hx => h1 x (by simp [hx])) h2
    simp [ha, this]
theorem ind_math (A R : List UInt8) (n m : Nat) (hR : ∀ x ∈ R, x ≠ 10) (hh : ∀ x, R.head? = some x → isBl x = false) :
    (((A ++ 10 :: (blU n ++ R)).drop (bgT (A ++ 10 :: (blU n ++ R)) (A.length + 1 + m))).takeWhile isBl) = blU n := by
  have e1 : bgT (A ++ 10 :: (blU n ++ R)) (A.length + 1) = A.length + 1 := by
    simp only [bgT]
    rw [if_pos (by simp)]
  have e2 := (nlT_clear (A ++ 10 :: (blU n ++ R)) (A.length + 1) m fun j hj h => by
    rw [List.getElem?_append_right (by omega), show A.length + 1 + j - A.length = j + 1 by omega, List.getElem?_cons_succ] at h
    have hx := List.mem_of_getElem? h
    rcases List.mem_append.1 hx with hx | hx
    · have := blU_bl n 10 hx
      exact absurd this (by decide)
    · exact hR 10 hx rfl).2
  have e3 : (A ++ 10 :: (blU n ++ R)).drop (A.length + 1) = blU n ++ R := by rw [← List.drop_drop, List.drop_left]; rfl
  rw [e2, e1, e3]
  exact take_bl _ _ (blU_bl n) hh
end Go.Proofs.YtbgkdofjndocfabDoor
