/-
  awake, walked.
-/
import Derived.Test.YtmfdfkbcommjfaaDoorWalkS
import Derived.Test.YtmfdfkbcommjfaaDoorWalkT
namespace Go.Proofs.YtmfdfkbcommjfaaDoor
open Go.RowKit
attribute [local go_sem ↓] Go.wp_at_zero Go.wp_at_succ
theorem ok_awake : okT ⟨#[97, 58, 61, 49]⟩ = true := by decide +kernel
theorem read_awake : readOf ⟨#[97, 58, 61, 49]⟩ = .ok ⟨[⟨1, 0, 1, [97]⟩, ⟨5, 1, 3, [58, 61]⟩, ⟨2, 3, 4, [49]⟩, ⟨6, 4, 4, [10]⟩, ⟨7, 4, 4, []⟩], []⟩ := by
  unfold readOf
  rw [if_neg (by decide), ok_awake, if_neg (by decide)]
  rfl
theorem idn_func : idn ⟨#[102, 117, 110, 99]⟩ = false := by decide +kernel
theorem word_func : word (⟨#[102, 117, 110, 99]⟩ : ByteArray).toList = true := by decide +kernel
def awakeT : List Tk := [⟨1, 0, 1, [97]⟩, ⟨5, 1, 3, [58, 61]⟩, ⟨2, 3, 4, [49]⟩, ⟨6, 4, 4, [10]⟩, ⟨7, 4, 4, []⟩]
theorem awake_cells {w : World} {base : Nat} {tv : Value} (ht : w.ownsRow base 38 4 tv 5 (flT awakeT)) :
    ∃ g cap, tv = .slice (some ⟨g, 0, none⟩) 5 cap ∧ g < w.heap.size ∧ w.cell? ⟨g, 7, none⟩ = some (.string ⟨#[58, 61]⟩) ∧ w.cell? ⟨g, 12, none⟩ = some (.int .i64 6) ∧ w.cell? ⟨g, 13, none⟩ = some (.int .i64 4) ∧ w.cell? ⟨g, 14, none⟩ = some (.int .i64 4) ∧ w.cell? ⟨g, 15, none⟩ = some (.string ⟨#[10]⟩) := by
  obtain ⟨g, cap, hv, _, hlt⟩ := ht.form (by decide)
  have hc := ht.cells (g := g) (by rw [hv]; rfl)
  have ad : ∀ j : Nat, (⟨g, 0, none⟩ : Addr).add j = ⟨g, 0 + j, none⟩ := fun j => Go.WideShapes.add_plain _ _ _
  refine ⟨g, cap, hv, hlt, ?_, ?_, ?_, ?_, ?_⟩
  · have := hc 7 _ (show (flT awakeT)[7]? = some (.string ⟨#[58, 61]⟩) from rfl); rw [ad] at this; simpa using this
  · have := hc 12 _ (show (flT awakeT)[12]? = some (.int .i64 6) from rfl); rw [ad] at this; simpa using this
  · have := hc 13 _ (show (flT awakeT)[13]? = some (.int .i64 4) from rfl); rw [ad] at this; simpa using this
  · have := hc 14 _ (show (flT awakeT)[14]? = some (.int .i64 4) from rfl); rw [ad] at this; simpa using this
  · have := hc 15 _ (show (flT awakeT)[15]? = some (.string ⟨#[10]⟩) from rfl); rw [ad] at this; simpa using this
set_option maxRecDepth 100000 in
set_option maxHeartbeats 400000 in
theorem awake_any (w : World) (hM : Mem w) : Calls Tryd.prog 9 #[] w fun e w' => e = .returned (.bool true) ∧ Below w.heap.size w w' := by
  have H10 : Hid (∀ W, Below w.heap.size w W → Calls Tryd.prog 10 #[.string ⟨#[97, 58, 61, 49]⟩] W (TokP W (readOf ⟨#[97, 58, 61, 49]⟩))) := fun W h => tokens_any _ W (hM.below h)
  rw [read_awake] at H10
  have h13 := word_any ⟨#[102, 117, 110, 99]⟩
  rw [word_func] at h13
  have h15 := ident_any ⟨#[102, 117, 110, 99]⟩
  rw [idn_func] at h15
  clear hM
  have HBZ : Hid (Below w.heap.size w (w.alloc (.cells #[.int .i64 0, .string ⟨#[]⟩, .int .i64 0] 25))) := (Below.refl _ _).alloc (Nat.le_refl _) _
  go_enter Tryd.func9, Tryd.ntmps9
  go_wp2_with (first
    | (go_at_call 13; refine (h13 _).mono ?_; rintro e w2 ⟨rfl, hw2⟩; obtain rfl := hw2.symm)
    | (go_at_call 15; refine (h15 _).mono ?_; rintro e w3 ⟨rfl, hb3⟩; have HB3 : Hid _ := hb3; clear hb3)
    | (go_at_call 10; refine (H10.out _ (by first | exact Below.refl _ _ | exact HBZ.out)).mono ?_; rintro e w1 ⟨hb1, tv, rfl, ht⟩; obtain ⟨g, cap, rfl, hg2, y7, y12, y13, y14, y15⟩ := awake_cells ht; have HB1 : Hid (Below w.heap.size w w1) := hb1; have hz1 := hb1.size; clear ht hb1; unfold fltV))
  go_ret
  exact ⟨rfl, (HB1.out.alloc hz1 _).trans (HB3.out.mono (by simp; omega))⟩
end Go.Proofs.YtmfdfkbcommjfaaDoor
