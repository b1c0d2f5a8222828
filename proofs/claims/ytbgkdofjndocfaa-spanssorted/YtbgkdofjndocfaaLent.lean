/-
  What the law SpansSorted asks of: recastlaw1.lent, recastalike.Edits.
-/
import Derived.Test.YtbgkdofjndocfaaMoved
import Derived.Deep.DeepMust
namespace Go.Proofs.Ytbgkdofjndocfaa
open Go.RowKit
attribute [local go_sem ↓] Go.wp_at_zero Go.wp_at_succ
theorem own_cap {w : World} {base n g cap size : Nat} {e : TypeId} {xs : List Value} (h : w.ownsRow base e size (.slice (some ⟨g, 0, none⟩) n cap) n xs) : n ≤ cap := by
  rcases h.2 with ⟨h', _⟩ | ⟨g', cap', cur, hv, _, _, h3, _⟩
  · cases h'
  · simp at hv
    omega
theorem flatE_append (l m : List Ed) : flatE (l ++ m) = flatE l ++ flatE m := by simp [flatE]
def zz : Ed := (⟨#[122, 122]⟩, 0, 0, ⟨#[]⟩)
set_option maxRecDepth 100000 in
set_option maxHeartbeats 1000000 in
theorem lent_any (v : Value) (l : List Ed) (w : World) (hn : l.length ≤ 2932031007400) (h : EdArg w v l) :
    Calls Try.prog 9 #[v] w fun e w' => Below w.heap.size w w' ∧ ∃ g cap, e = .returned (.slice (some ⟨g, 0, none⟩) l.length cap) ∧ l.length + 1 ≤ cap ∧ w'.ownsRow w.heap.size 33 4 (.slice (some ⟨g, 0, none⟩) (l.length + 1) cap) (l.length + 1) (flatE (l ++ [zz])) := by
  obtain ⟨a, c, rfl, hs⟩ := h.shape
  obtain ⟨info33, i1, i2, i3, i4⟩ := info33_ex
  have HI : Hid (Try.prog.info? 33 = some info33 ∧ info33.zero = some (.agg #[.string ⟨#[]⟩, .int .i64 0, .int .i64 0, .string ⟨#[]⟩]) ∧ info33.size = 4 ∧ info33.bytes = 48) := ⟨i1, i2, i3, i4⟩
  clear i1 i2 i3 i4
  by_cases h0 : 0 < l.length
  · obtain ⟨B, o, rfl, hB, he⟩ := hs h0
    have HE : Hid (EdsAt w B o l) := he
    clear hs he h
    generalize hL : l.length = n at *
    go_enter Try.func9, Try.ntmps9
    go_wp2_with (first
      | (at_builtin; refine wpList_append_lies _ rfl _ _ _ rfl w.heap.size 33 info33 _ 4 48 Try.underlying22 HI.out.1 HI.out.2.1 HI.out.2.2.1 HI.out.2.2.2 rfl (by omega) (.slice none 0 0) 0 [] rfl (World.ownsRow_nil _ _ _ _) ⟨B, o, none⟩ n c (flatE l) rfl (by rw [flatE_len, hL]) (fun j u hu => by rw [Go.WideShapes.add_plain]; exact HE.out j u hu) (flatE_one l) (by omega) (by unfold maxLen; omega) (by omega) (by omega) w.heap.size (by rfl) ?_; intro g1 cap1 w1 hown1 hgrow1 hat1 hlt1; rw [Nat.zero_add] at hown1 ⊢; rw [List.nil_append] at hown1; have HO1 : Hid (w1.ownsRow w.heap.size 33 4 (.slice (some ⟨g1, 0, none⟩) n cap1) n (flatE l)) := hown1; have HG1 : Hid _ := hgrow1; clear hown1 hgrow1 hat1)
      | (at_builtin; go_must (refine wpList_append_lies _ rfl _ _ _ rfl w.heap.size 33 info33 _ 4 48 Try.underlying22 HI.out.1 HI.out.2.1 HI.out.2.2.1 HI.out.2.2.2 rfl (by omega) (.slice (some ⟨g1, 0, none⟩) n cap1) n (flatE l) rfl (HO1.out.alloc _) ⟨w1.heap.size, 0, none⟩ 1 1 (encE zz) rfl rfl (news_top4 w1 zz) (by simp [encE, Value.oneCell']) (by omega) (by unfold maxLen; omega) (by omega) (by have := HG1.out.size; simp; omega) (w1.heap.size + 1) (by simp) ?_; intro g2 cap2 w2 hown2 hgrow2 hat2 hlt2; have HO2 : Hid (w2.ownsRow w.heap.size 33 4 (.slice (some ⟨g2, 0, none⟩) (n + 1) cap2) (n + 1) (flatE l ++ encE zz))   := hown2; have hc2 := own_cap hown2; have z1 : (n : Int) ≤ (cap2 : Int) := (by omega); have z2 : (0 : Int) ≤ (n : Int) := (by omega); have HG2 : Hid _ := hgrow2; clear hown2 hgrow2 hat2)))
    go_ret
    have hs1 := HG1.out.size
    refine ⟨((Below.refl _ _).grown HG1.out (Nat.le_refl _) (fun k hk => by cases hk)).alloc hs1 _ |>.grown HG2.out (by simp; omega) (fun k hk => (HO1.out.lt k hk).1), g2, cap2, rfl, hc2, ?_⟩
    rw [flatE_append]
    exact HO2.out
  · have hl : l = [] := List.eq_nil_of_length_eq_zero (by omega)
    subst hl
    clear hs h0 hn h
    cases a
    all_goals
     go_enter Try.func9, Try.ntmps9
     go_wp2_with (first | (at_builtin; refine wpList_append_lies _ rfl _ _ _ rfl w.heap.size 33 info33 _ 4 48 Try.underlying22 HI.out.1 HI.out.2.1 HI.out.2.2.1 HI.out.2.2.2 rfl (by omega) (.slice none 0 0) 0 [] rfl (World.ownsRow_nil _ _ _ _) ⟨w.heap.size, 0, none⟩ 1 1 (encE zz) rfl rfl (news_top4 w zz) (by simp [encE, Value.oneCell']) (by omega) (by unfold maxLen; omega) (by omega) (by simp) (w.heap.size + 1) (by simp) ?_; intro g2 cap2 w2 hown2 hgrow2 hat2 hlt2; rw [Nat.zero_add] at hown2 ⊢; rw [List.nil_append] at hown2; have HO2 : Hid (w2.ownsRow w.heap.size 33 4 (.slice (some ⟨g2, 0, none⟩) 1 cap2) 1 (encE zz)) := hown2; have hc2 := own_cap hown2; have HG2 : Hid _ := hgrow2; clear hown2 hgrow2 hat2))
     go_ret
     exact ⟨((Below.refl _ _).alloc (Nat.le_refl _) _).grown HG2.out (by simp) (fun k hk => by cases hk), g2, cap2, rfl, hc2, HO2.out⟩
theorem eqE_self (x : Ed) : eqE x x = true := (eqE_iff x x).2 rfl
theorem EdArg.drew {w : World} {v : Value} {l : List Ed} (h : EdArg w v l) (q : Nat) : EdArg (w.drewN q) v l := h.below (below_drewN (Below.refl _ _) q)
set_option maxRecDepth 100000 in
set_option maxHeartbeats 1000000 in
theorem edits_shape (a b : Option Addr) (c c' : Nat) (l : List Ed) (w : World) (hn : l.length ≤ 2932031007402) (hs : 0 < l.length → ∃ B o, a = some ⟨B, o, none⟩ ∧ B < w.heap.size ∧ EdsAt w B o l) (hs' : 0 < l.length → ∃ B o, b = some ⟨B, o, none⟩ ∧ B < w.heap.size ∧ EdsAt w B o l) :
    Calls Try.prog 12 #[.slice a l.length c, .slice b l.length c'] w fun e w' => e = .returned (.bool true) ∧ ∃ q, w' = w.drewN q := by
  have hnq := neqEd'
  simp only [encE] at hnq
  generalize hL : l.length = n at *
  have hne : ((n : Int) != (n : Int)) = false := by simp
  go_enter Try.func12, Try.ntmps12
  go_wp2_with fail
  go_loopw [5] (fun i w' => ∃ k q : Nat, k ≤ n ∧ i = .int .i64 k ∧ w' = w.drewN q) (fun i _ => n - (intOf i).toNat)
  case atStart => exact ⟨0, 0, by omega, rfl, rfl⟩
  case round =>
    obtain ⟨k, q, hk, rfl, rfl⟩ := hrel
    by_cases hlt : k < n
    · obtain ⟨B, o, rfl, hB, he⟩ := hs (by omega)
      obtain ⟨B', o', rfl, hB', he'⟩ := hs' (by omega)
      obtain ⟨x0, x1, x2, x3⟩ := xed he k (by omega)
      obtain ⟨y0, y1, y2, y3⟩ := xed he' k (by omega)
      have a0 := (drewN_cell w q _).trans x0
      have a1 := (drewN_cell w q _).trans x1
      have a2 := (drewN_cell w q _).trans x2
      have a3 := (drewN_cell w q _).trans x3
      have b0 := (drewN_cell w q _).trans y0
      have b1 := (drewN_cell w q _).trans y1
      have b2 := (drewN_cell w q _).trans y2
      have b3 := (drewN_cell w q _).trans y3
      clear x0 x1 x2 x3 y0 y1 y2 y3 he he' hL
      have hqq := hnq (l.getD k default) (l.getD k default)
      rw [eqE_self] at hqq
      generalize l.getD k default = x at *
      obtain ⟨p, xa, xb, t⟩ := x
      simp only [Bool.not_true] at a0 a1 a2 a3 b0 b1 b2 b3 hqq
      have z1 : (0 : Int) ≤ (k : Int) := by omega
      have z2 : (k : Int) < (n : Int) := by omega
      clear hnq
      generalize hwq : w.drewN q = W at *
      go_wp2_with fail
      go_quiet (fail)
      go_wp2_with fail
      go_roundw
      case rel => exact ⟨k + 1, _, by omega, by go_num, by rw [← hwq]; simp [World.drewN, Nat.add_assoc]; rfl⟩
      case measure => simp [intOf]; omega
    · clear hL
      go_wp2_with fail
      go_ret
      exact ⟨rfl, q, rfl⟩
theorem SPost.form {l : List Ed} {w w' : World} {e : Ending} (h : SPost l w e w') : ∃ a cap out ec, e = .returned (.tuple #[.slice a out.length cap, .int .i64 ec]) ∧ (0 < out.length → ∃ g, a = some ⟨g, 0, none⟩ ∧ EdRow w' w.heap.size g out) ∧ ((Srt l out ∧ ec = 0) ∨ (¬ Good l ∧ out = [] ∧ ec = 1)) := by
  rcases h.2 with ⟨a, cap, out, hs, rfl, hr⟩ | ⟨hg, rfl⟩
  · exact ⟨a, cap, out, 0, rfl, hr, .inl ⟨hs, rfl⟩⟩
  · exact ⟨none, 0, [], 1, rfl, fun h => by simp at h, .inr ⟨hg, rfl, rfl⟩⟩
theorem out_same {l out out2 : List Ed} {ec ec2 : Int} (h : (Srt l out ∧ ec = 0) ∨ (¬ Good l ∧ out = [] ∧ ec = 1)) (h2 : (Srt l out2 ∧ ec2 = 0) ∨ (¬ Good l ∧ out2 = [] ∧ ec2 = 1)) : out = out2 ∧ ec = ec2 := by
  rcases h with ⟨hs, rfl⟩ | ⟨hg, rfl, rfl⟩
  · rcases h2 with ⟨hs2, rfl⟩ | ⟨hg, rfl, rfl⟩
    · exact ⟨hs.unique hs2, rfl⟩
    · exact absurd hs.good hg
  · rcases h2 with ⟨hs2, rfl⟩ | ⟨_, rfl, rfl⟩
    · exact absurd hs2.good hg
    · exact ⟨rfl, rfl⟩
theorem out_len {l out : List Ed} {ec : Int} (h : (Srt l out ∧ ec = 0) ∨ (¬ Good l ∧ out = [] ∧ ec = 1)) : out.length ≤ l.length := by
  rcases h with ⟨hs, _⟩ | ⟨_, rfl, _⟩
  · exact len_le out l hs.pw fun x hx => (hs.mem x).1 hx
  · simp
end Go.Proofs.Ytbgkdofjndocfaa
