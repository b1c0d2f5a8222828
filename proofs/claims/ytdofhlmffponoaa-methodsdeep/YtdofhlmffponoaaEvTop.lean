/- The evaluator over a program: what it answers is what the call answers, and the caller's memory stays. -/
import Derived.Test.YtdofhlmffponoaaEvZe
import Derived.Test.YtdofhlmffponoaaEvF
set_option linter.unusedVariables false
set_option linter.unusedSimpArgs false
namespace Go.Proofs.Ytdofhlmffponoaa
namespace Ev
theorem ofO_get {α : Type} : ∀ (l : List (Option α)) (n : Nat) (t : T α) (j : Nat), (T.ofO l (pOf n) t).get (pOf j) = if n ≤ j ∧ j < n + l.length then (l[j - n]?).getD none else t.get (pOf j)
  | [], n, t, j => by
    show t.get (pOf j) = _
    rw [if_neg (by simp only [List.length_nil]; omega)]
  | x :: l, n, t, j => by
    show (T.ofO l (pOf (n + 1)) (t.put (pOf n) x)).get (pOf j) = _
    rw [ofO_get l (n + 1) _ j, T.put_get]
    by_cases a : n + 1 ≤ j ∧ j < n + 1 + l.length
    · rw [if_pos a, if_pos (by simp; omega), show j - n = (j - (n + 1)) + 1 by omega]; simp
    · rw [if_neg a]
      by_cases b : j = n
      · subst b; simp
      · rw [if_neg (fun e => b (pOf_inj e)), if_neg (by simp; omega)]
theorem tyOf_ok {P : Program} {t : TypeId} {i : TyI} (h : tyOf P t = some i) : TyOk P t i := by
  obtain ⟨info, h1, h⟩ := ob_some h
  obtain ⟨d, h2, h⟩ := ob_some h
  obtain ⟨z, h3, h⟩ := ob_some h
  obtain ⟨zv, h4, h⟩ := ob_some h
  obtain ⟨offs, h5, h⟩ := ob_some h
  obtain ⟨h6, h⟩ := cb_some h
  cases h
  have hz : RV (fun _ => none) zv z := cv_sound _ h4
  exact ⟨h2, rfl, ⟨info, z, h1, rfl, rfl, h3, hz.cells⟩, ⟨info, z, h1, h3, hz⟩, h5, by rw [← lenN_eq]; exact beq_true h6⟩
theorem tabOf_ok {P : Program} (hm : P.follows .mixedOrders = true) : TabOk (tabOf P) := by
  refine ⟨fun t i h => ?_, fun f i h => ?_, hm, fun f h => (by cases h), fun m h => (by cases h)⟩
  · have h : (T.ofO ((List.range P.types.size).map (tyOf P)) (pOf 0) .leaf).get (pOf t) = some i := h
    rw [ofO_get] at h
    split at h
    · rename_i q
      have : ((List.range P.types.size).map (tyOf P))[t - 0]? = some (tyOf P t) := by
        have : t < P.types.size := by simpa using q.2
        simp [this]
      rw [this] at h
      exact tyOf_ok h
    · rw [T.get_leaf] at h; cases h
  · have h : (T.ofO (P.funcs.toList.map fnOf) (pOf 0) .leaf).get (pOf f) = some i := h
    rw [ofO_get] at h
    split at h
    · rename_i q
      have hf : f < P.funcs.size := by simpa using q.2
      have : (P.funcs.toList.map fnOf)[f - 0]? = some (fnOf P.funcs[f]) := by simp [hf]
      rw [this] at h
      have h : fnOf P.funcs[f] = some i := h
      refine ⟨P.funcs[f], Array.getElem?_eq_getElem hf, ?_⟩
      unfold fnOf at h
      split at h
      · rename_i b hb
        split at h
        · cases h
        · rename_i hn
          cases h
          exact ⟨hb, rfl, rfl, by simpa using hn⟩
      · cases h
    · rw [T.get_leaf] at h; cases h
/-- With functions that are known. -/
theorem tabK_ok {P : Program} (hm : P.follows .mixedOrders = true) {ks : List Nat} (hk : ∀ f, f ∈ ks → ∀ w, Calls P f #[] w (fun e w' => e = .returned (.bool true) ∧ w'.os = w.os ∧ w'.tape = w.tape ∧ w'.output = w.output ∧ w.heap.size ≤ w'.heap.size ∧ ∀ i, i < w.heap.size → w'.heap[i]? = w.heap[i]?)) : TabOk (tabK P ks) :=
  ⟨(tabOf_ok hm).ty, (tabOf_ok hm).fn, hm, hk, fun m h => (by cases h)⟩
/-- What was in memory ahead stays. -/
theorem run_tab {T0 : Tab} (hT : TabOk T0) {f : Nat} {args : List AV} {xs : List Value} (h : runE T0 f args = .ok) (hx : RVs (fun _ => none) args xs) (w : World) :
    Calls T0.P f ⟨xs⟩ w (fun e w' => e = .returned (.bool true) ∧ w'.os = w.os ∧ w'.tape = w.tape ∧ w'.output = w.output ∧ w.heap.size ≤ w'.heap.size ∧ ∀ i, i < w.heap.size → w'.heap[i]? = w.heap[i]?) := by
  obtain ⟨hS, _, hD⟩ := ev2_sound hT 1000000000
  obtain ⟨fn, h1, h2⟩ := oc_ok h
  have hR : HR ⟨w, fun i => w.heap[i]?, fun _ => false⟩ (fun _ => none) .leaf .h w :=
    ⟨⟨rfl, rfl, rfl, fun _ _ e => e⟩, fun b o l g => (by rw [T.get_leaf] at g; cases g), fun b o g => (by rw [T.get_leaf] at g; cases g), fun b b' o o' l l' g => (by rw [T.get_leaf] at g; cases g), fun _ _ => rfl, fun b e => (by cases e)⟩
  refine callsIn_wide.1 (callB_sound hT hS hD h2 h1 hR hx (fun en hp nx μ w' x q1 _ hR' hv => ?_))
  rcases tb_or (b := en.pan) q1 with ⟨_, q2⟩ | ⟨q2, q3⟩
  · cases q2
  obtain ⟨b, q4, q5⟩ := oc_ok q3
  obtain ⟨q6, _⟩ := tb_ok (b := b) q5
  rw [q2]
  subst q6
  rw [asB_some q4] at hv
  have hxb : x = .bool true := hv.bool_inv
  have e := hR'.ext
  have blk : ∀ i, i < w.heap.size → w'.heap[i]? = w.heap[i]? := fun i hi => by
    have h1 : w.heap[i]? = some w.heap[i] := Array.getElem?_eq_getElem hi
    rw [h1]; exact e.kp i _ h1
  refine ⟨by rw [hxb]; rfl, e.os, e.tape, e.out, ?_, blk⟩
  rcases Nat.lt_or_ge w'.heap.size w.heap.size with q | q
  · have := blk w'.heap.size q
    rw [Array.getElem?_eq_none (Nat.le_refl _), Array.getElem?_eq_getElem q] at this
    cases this
  · exact q
theorem run_sound {P : Program} (hm : P.follows .mixedOrders = true) {f : Nat} {args : List AV} {xs : List Value} (h : runE (tabOf P) f args = .ok) (hx : RVs (fun _ => none) args xs) (w : World) :
    Calls P f ⟨xs⟩ w (fun e w' => e = .returned (.bool true) ∧ w'.os = w.os ∧ w'.tape = w.tape ∧ w'.output = w.output ∧ w.heap.size ≤ w'.heap.size ∧ ∀ i, i < w.heap.size → w'.heap[i]? = w.heap[i]?) := run_tab (tabOf_ok hm) h hx w
theorem run_known {P : Program} (hm : P.follows .mixedOrders = true) {ks : List Nat} (hk : ∀ f, f ∈ ks → ∀ w, Calls P f #[] w (fun e w' => e = .returned (.bool true) ∧ w'.os = w.os ∧ w'.tape = w.tape ∧ w'.output = w.output ∧ w.heap.size ≤ w'.heap.size ∧ ∀ i, i < w.heap.size → w'.heap[i]? = w.heap[i]?))
    {f : Nat} {args : List AV} {xs : List Value} (h : runE (tabK P ks) f args = .ok) (hx : RVs (fun _ => none) args xs) (w : World) :
    Calls P f ⟨xs⟩ w (fun e w' => e = .returned (.bool true) ∧ w'.os = w.os ∧ w'.tape = w.tape ∧ w'.output = w.output ∧ w.heap.size ≤ w'.heap.size ∧ ∀ i, i < w.heap.size → w'.heap[i]? = w.heap[i]?) := run_tab (tabK_ok hm hk) h hx w
/-- The same of the quicker one. -/
theorem runF_tab {T0 : Tab} (hT : TabOk T0) {f : Nat} {args : List AV} {xs : List Value} (h : runEF T0 f args = .ok) (hx : RVs (fun _ => none) args xs) (w : World) :
    Calls T0.P f ⟨xs⟩ w (fun e w' => e = .returned (.bool true) ∧ w'.os = w.os ∧ w'.tape = w.tape ∧ w'.output = w.output ∧ w.heap.size ≤ w'.heap.size ∧ ∀ i, i < w.heap.size → w'.heap[i]? = w.heap[i]?) := run_tab hT (by rw [← runEF_eq]; exact h) hx w
/-- With functions and calls that are known. -/
theorem tabM_ok {P : Program} (hm : P.follows .mixedOrders = true) {ks : List Nat} (hk : ∀ f, f ∈ ks → ∀ w, Calls P f #[] w (fun e w' => e = .returned (.bool true) ∧ w'.os = w.os ∧ w'.tape = w.tape ∧ w'.output = w.output ∧ w.heap.size ≤ w'.heap.size ∧ ∀ i, i < w.heap.size → w'.heap[i]? = w.heap[i]?))
    {ms : List Met} (hs : ∀ m, m ∈ ms → MetOk P m) : TabOk (tabM P ks ms) :=
  ⟨(tabOf_ok hm).ty, (tabOf_ok hm).fn, hm, hk, hs⟩
/-- A call that is to be known, run: from the blocks that it begins with to the blocks that are told. -/
noncomputable def runM (T0 : Tab) (m : Met) : R :=
  oc (T0.fn.get (pOf m.f)) (.no "no function") (fun fn => callB (evF T0 1000000000).ev (evF T0 1000000000).dp T0 fn m.args (putL m.pre .leaf) m.nx (metK m))
theorem met_ok {T0 : Tab} (hT : TabOk T0) {m : Met} (h : runM T0 m = .ok) : MetOk T0.P m := by
  intro w0 μ w xs hR hx
  unfold runM at h
  rw [evF_eq] at h
  obtain ⟨hS, _, hD⟩ := ev2_sound hT 1000000000
  obtain ⟨fn, h1, h2⟩ := oc_ok h
  refine callsIn_wide.1 (callB_sound hT hS hD h2 h1 hR hx (fun en hp nx ν w' x q1 le hR' hv => ?_))
  rcases tb_or (b := en.pan) q1 with ⟨_, q2⟩ | ⟨q2, q3⟩
  · cases q2
  obtain ⟨q4, q5⟩ := tb_ok (b := eqBn m.nz nx) q3
  obtain ⟨q6, q7⟩ := tb_ok (b := sameV m.v en.v) q5
  obtain ⟨q8, _⟩ := tb_ok (b := hasL hp m.news) q7
  rw [q2]
  have e1 := eqBn_true q4
  have e2 := sameV_true _ _ q6
  subst e1
  rw [← e2] at hv
  exact ⟨ν, x, le, hR'.narrow q8, hv, rfl⟩
end Ev
end Go.Proofs.Ytdofhlmffponoaa
