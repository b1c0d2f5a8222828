/-
  awake: what every statement of this chapter ends with: the document's two examples hold, whatever memory it is called in.
-/
import Derived.Test.YtbgkdofjndocfabWalkF
import Derived.Test.YtbgkdofjndocfabWalkH
namespace Go.Proofs.Ytbgkdofjndocfab
open Go.RowKit
def sA : ByteArray := ⟨#[97]⟩
def sX : ByteArray := ⟨#[88]⟩
def sYY : ByteArray := ⟨#[89, 89]⟩
def sAF : ByteArray := ⟨#[97, 98, 99, 100, 101, 102]⟩
theorem awake_join : (Lib.join ((pcs sAF 0 [(sA, 1, 3, sX), (sA, 4, 4, sYY)] ++ [sAF.extract (lastTo 0 [(sA, 1, 3, sX), (sA, 4, 4, sYY)]) sAF.size]).map (·.data.toList)) []) = [97, 88, 100, 89, 89, 101, 102] := by decide
theorem place_awake (w : World) : Calls Try.prog 13 #[.string ⟨#[97, 98, 10, 99]⟩, .int .i64 3] w fun e w' => e = .returned (.tuple #[.int .i64 2, .int .i64 1]) ∧ Below w.heap.size w w' := by
  refine (place_any ⟨#[97, 98, 10, 99]⟩ 3 3 w (by decide) (by decide)).mono ?_
  rintro e w' ⟨rfl, hb⟩
  exact ⟨rfl, hb⟩
theorem apply_awake (F E : Nat) (w : World) (hF : F < w.heap.size) (hE : E < w.heap.size) (f0 : w.heap[F]? = some (.cells #[.string ⟨#[97]⟩, .string ⟨#[97, 98, 99, 100, 101, 102]⟩] 32))
    (e0 : w.heap[E]? = some (.cells #[.string ⟨#[97]⟩, .int .i64 1, .int .i64 3, .string ⟨#[88]⟩, .string ⟨#[97]⟩, .int .i64 4, .int .i64 4, .string ⟨#[89, 89]⟩] 26)) :
    Calls Try.prog 8 #[.slice (some ⟨F, 0, none⟩) 1 1, .slice (some ⟨E, 0, none⟩) 2 2] w fun e w' => ∃ g cap, e = .returned (.tuple #[.slice (some ⟨g, 0, none⟩) 1 cap, .int .i64 0]) ∧ w'.cell? ⟨g, 1, none⟩ = some (.string ⟨#[97, 88, 100, 89, 89, 101, 102]⟩) ∧ Below w.heap.size w w' := by
  have cf := fun i => cell_of_row w F i _ _ _ f0
  have ce := fun i => cell_of_row w E i _ _ _ e0
  refine (apply1_any F 1 E 2 sA sAF 1 3 4 4 sX sYY w hF hE (by decide) (by decide) (cf 0) (cf 1) (ce 0) (ce 1) (ce 2) (ce 3) (ce 4) (ce 5) (ce 6) (ce 7) (by decide) (by decide) (by decide +kernel) (by decide +kernel) (by decide +kernel) ⟨by decide, by decide, by decide, by decide, by decide, by decide, by unfold okE; decide⟩ ?_).mono ?_
  · rw [awake_join]; decide
  · rintro e w' ⟨g, cap, rfl, _, h1, hb⟩
    rw [awake_join] at h1
    exact ⟨g, cap, rfl, h1, hb⟩
theorem cellsF (w : World) (a b : Obj) : ((w.alloc a).alloc b).heap[w.heap.size]? = some a := by
  rw [Below.heap_alloc _ _ _ (by simp)]; exact heap_alloc_new w a
theorem cellsE (w : World) (a b : Obj) : ((w.alloc a).alloc b).heap[w.heap.size + 1]? = some b := by
  have := heap_alloc_new (w.alloc a) b
  rwa [World.size_alloc] at this
set_option maxHeartbeats 1000000 in
theorem awake_any (w : World) : Calls Try.prog 7 #[] w fun e w' => e = .returned (.bool true) ∧ Below w.heap.size w w' := by
  go_enter Try.func7, Try.ntmps7
  go_wp2_with fail
  refine (place_awake w).mono ?_
  rintro e w1 ⟨rfl, hb1⟩
  go_wp2_with fail
  refine (apply_awake w1.heap.size (w1.heap.size + 1) _ (by simp; omega) (by simp) (cellsF _ _ _) (cellsE _ _ _)).mono ?_
  rintro e w2 ⟨g, cap, rfl, hc, hb2⟩
  have hs1 := hb1.size
  have hfin : Below w.heap.size w w2 := ((hb1.alloc hs1 _).alloc (by simp; omega) _).trans (hb2.mono (by simp; omega))
  clear hb1 hb2
  go_wp2
  go_ret
  exact ⟨rfl, hfin⟩
end Go.Proofs.Ytbgkdofjndocfab
