/-
  recastlaw4.TreeKids at every tree and every list of ints.
-/
import Derived.Test.YtgknigjpdnfkdaaKidsLaw
namespace Go.Proofs.Ytgknigjpdnfkdaa
open Go.RowKit
set_option maxRecDepth 100000 in
set_option maxHeartbeats 2000000 in
theorem treeKids_any (n : Nd) (ks : List Int) (hkm : (ks.length : Int) ≤ 9223372036854775807) (w : World) (va vk : Value) (B : BP) (ha : SlV B w va n.kids) (hv : InV w vk ks) :
    Calls Try.prog 6 #[aggN n va, vk] w fun e w' => e = .returned (.bool true) ∧ Below w.heap.size w w' := by
  by_cases h1 : n.sz ≤ 300
  · by_cases h2 : ks.length ≤ 50
    · rcases hv with ⟨rfl, rfl⟩ | ⟨b, o, c, rfl, hv'⟩
      · exact treeKids_nil n w va B ha (.inl ⟨rfl, rfl⟩) h1
      · exact treeKids_some n ks w va B b o c ha (.inr ⟨b, o, c, rfl, hv'⟩) h1 h2
    · have C8 := in_any n (w.alloc (.cells (encN n va) 24)) va B (ha.kept (below_alloc _ _))
      obtain ⟨a1, c1, rfl, -, -⟩ := ha.open
      obtain ⟨ak, ck, rfl, -⟩ := hv.open
      clear ha hv
      rw [decide_eq_true h1] at C8
      have h2' : 50 < (ks.length : Int) := by omega
      have h2b : decide (50 < (ks.length : Int)) = true := decide_eq_true h2'
      simp only [aggN, encN] at C8 ⊢
      go_enter Try.func6, Try.ntmps6
      go_wp2_with (first
        | (go_at_call 8; refine C8.mono ?_; clear C8; rintro e v8 ⟨rfl, hB8⟩)
        | (go_at_call 9; refine (awake_any _).mono ?_; rintro e v9 ⟨rfl, hB9⟩))
      go_ret
      exact ⟨rfl, bthen (below_alloc _ _) (bthen hB8 hB9)⟩
  · have C8 := in_any n (w.alloc (.cells (encN n va) 24)) va B (ha.kept (below_alloc _ _))
    obtain ⟨a1, c1, rfl, -, -⟩ := ha.open
    obtain ⟨ak, ck, rfl, -⟩ := hv.open
    clear ha hv
    rw [decide_eq_false h1] at C8
    simp only [aggN, encN] at C8 ⊢
    go_enter Try.func6, Try.ntmps6
    go_wp2_with (first
      | (go_at_call 8; refine C8.mono ?_; clear C8; rintro e v8 ⟨rfl, hB8⟩)
      | (go_at_call 9; refine (awake_any _).mono ?_; rintro e v9 ⟨rfl, hB9⟩))
    go_ret
    exact ⟨rfl, bthen (below_alloc _ _) (bthen hB8 hB9)⟩
end Go.Proofs.Ytgknigjpdnfkdaa
