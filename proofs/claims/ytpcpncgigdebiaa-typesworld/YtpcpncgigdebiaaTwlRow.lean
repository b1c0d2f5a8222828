/-
  TypesWorld holds: for every list of declared types and every type the Go function recastlaw8.TypesWorld of the landed commit returns true, changes nothing that was handed in, and neither panics nor runs on: of a list of at most 120 types in all that are shaped, New takes it or refuses it as the document does (a name twice, a type that holds itself, a name that is not declared), Named tells each declared type as it was handed in, and Under tells of each name, and of the type, what the document tells.
  Conditions: none but the row's own (each text and each slice takes at most 2^47 - 4096 bytes; the reading of an argument comes to an end).
-/
import Derived.Test.YtpcpncgigdebiaaRows
import Derived.Test.YtpcpncgigdebiaaTwl
import Derived.Test.YtpcpncgigdebiaaTwa
import Derived.WalkKit
import Derived.ProofKit
import Derived.OpenShut
import Derived.ShutString
import Derived.HandedShaped
import Derived.Carry
namespace Go.Proofs.Ytpcpncgigdebiaa.typesWorld
open Go.ChangeShapes Go.WideShapes Go.ChangeAt Go.RowKit
theorem own : ownKnob Try.prog.godebug = none := by kernel_rfl
theorem laidOut : laidOutB Try.prog = true := by kernel_rfl
set_option maxRecDepth 100000 in
theorem lifted (os : Os) (started : os.Started) (H : Type) (enc : TypeId × Value → H) :
    ReturnsInHanded {} Try.checked os 3 .any (Rows.typesWorldSpec.pre6 enc Try.prog Try.f3 Rows.typesWorldRow.domain false) (Rows.typesWorldSpec.post enc Try.prog Try.f3 false true false false) := by
  refine returnsInHanded_of_change_shaped (C := Try.checked) own started (by kernel_rfl) Try.func3
    (ChangeSpec.witness6 (enc := enc) (C := Try.checked) false ⟨#[], #[.slice none 0 0, .agg #[.int .i64 0, .string ByteArray.empty, .int .i64 0, .bool false, .slice none 0 0, .slice none 0 0, .slice none 0 0]], []⟩ 8 (by kernel_rfl) (by kernel_rfl) (by kernel_rfl) (by kernel_rfl)) ?_
  intro W base args ds gs before hval0 hW hcnd hsz _ _
  have hval : ∀ (j : Nat) t v, Try.f3.params[j]? = some t → args[j]? = some v → Value.okWide Try.prog W .any base t v := hval0
  have hW' := hW
  obtain ⟨p, q, hA0, hV, rfl, hfz, hnd⟩ := hW
  have hA : DataW.TrodAll enc Try.prog W 0 (fun _ => true) true Try.f3.params.toList args.toList ds p := hA0
  have hsz1 : (DataW.weightsEach Try.prog (Try.f3.params.toList ++ Rows.typesWorldSpec.plain.varTypes Try.prog) (ds ++ gs)).all (· ≤ reachBytes) = true := hsz
  rw [Try.params3] at hA hval hsz1
  obtain ⟨v0, vs0, d0, ds0, p0, q0, hargs, rfl, rfl, h0, r0⟩ := trodAll_cons hA
  obtain ⟨v1, vs1, d1, ds1, p1, q1, rfl, rfl, rfl, h1, r1⟩ := trodAll_cons r0
  obtain ⟨rfl, rfl, rfl⟩ := trodAll_nil r1
  obtain rfl : args = #[v0, v1] := by cases args; simp_all
  obtain ⟨rfl, rfl⟩ := trodVars_none hV
  obtain ⟨a, n, c, l, rfl, hs, hin, hfn⟩ := open_nmds (hval 0 22 v0 rfl rfl) h0
  obtain ⟨t, vn, vm, vk, rfl, hp, hns, hw⟩ := open_type (hval 1 27 v1 rfl rfl) h1
  have hft : Fit t := hw (by
    rw [List.all_eq_true] at hsz1 ⊢
    intro x hx
    exact hsz1 x (by simp [DataW.weightsEach, hx]))
  have hfl : ∀ u ∈ l, InF u := hfn (by
    rw [List.all_eq_true] at hsz1 ⊢
    intro x hx
    exact hsz1 x (by simp [DataW.weightsEach, hx]))
  clear hA0 hval0 hsz hsz1 hw hfn
  simp only [List.append_nil] at hW'
  have hlt0 : ∀ x ∈ p0, x.block < W.heap.size := fun x hx => hW'.lt x (by simp [hx])
  have hlt1 : ∀ x ∈ p1, x.block < W.heap.size := fun x hx => hW'.lt x (by simp [hx])
  refine (typesWorld_any awake_any hs hin hfl hp hns hft).mono fun e W' ⟨he, hg⟩ => ?_
  subst he
  exact ⟨_, rfl, _, _, _, [], p0 ++ (p1 ++ []), [], hW', trodAll_cons_mk (shut_bool Try.underlying4 _) trodAll_mk0, trodAll_cons_mk (Below.trod laidOut (by kernel_rfl) (of_decide_eq_true (by kernel_rfl)) h0 hg hlt0) (trodAll_cons_mk (Below.trod laidOut (by kernel_rfl) (of_decide_eq_true (by kernel_rfl)) h1 hg hlt1) trodAll_mk0), rfl, hg.frame _, fun h => by cases h⟩
theorem over : Rows.typesWorldRow.holds Try.pinned (OpenSpec.ofChange Rows.typesWorldSpec) :=
  OpenClaim.holds_of_wide 3 Try.f3 rfl rfl rfl rfl rfl rfl rfl ⟨rfl, rfl, rfl, rfl, rfl⟩ rfl rfl rfl rfl rfl (by kernel_rfl) Try.func3 (by kernel_rfl)
    (of_decide_eq_true (by kernel_rfl)) (by unfold Func.isWrapper; first | (rw [if_pos (by decide +kernel)]; kernel_rfl) | (rw [if_neg (by decide +kernel)]; exact ⟨rfl, rfl⟩))
    (fun os started H enc _ => lifted os started H enc)
end Go.Proofs.Ytpcpncgigdebiaa.typesWorld
namespace Go.Proofs.Ytpcpncgigdebiaa
theorem typesWorld_holds : Rows.TypesWorldSaid := typesWorld.over
#print axioms typesWorld_holds
end Go.Proofs.Ytpcpncgigdebiaa

