/-
  Being identical in plain Lean: an equivalence; one text.
-/
import Derived.Test.YtifcikhgbafegabRid
import Derived.Test.YtifcikhgbafegabTxp
import Derived.Test.YtifcikhgbafegabShp
namespace Go.Proofs.Ytifcikhgbafegab
theorem idn_iff {k k' : Int} {nm nm' : ByteArray} {n n' : Int} {f f' : Bool} {ns ns' : List ByteArray} {ms ms' : List Bool} {ks ks' : List Ty} : (Ty.mk k nm n f ns ms ks).idn (.mk k' nm' n' f' ns' ms' ks') = true ↔ k = k' ∧ nm = nm' ∧ n = n' ∧ (k = 9 ∨ (f = f' ∧ ns = ns' ∧ ms = ms' ∧ idnL ks ks' = true)) := by
  simp only [Ty.idn, Bool.and_eq_true, Bool.or_eq_true, decide_eq_true_eq, and_assoc]
theorem idn_same : ∀ t : Ty, t.idn t = true :=
  Ty.ind fun _ _ _ _ _ _ ks ih => idn_iff.2 ⟨rfl, rfl, rfl, .inr ⟨rfl, rfl, rfl, (idnL_iff ks ks).2 ⟨rfl, fun _ h _ => ih _ (List.getElem_mem h)⟩⟩⟩
theorem idn_turn : ∀ a b : Ty, a.idn b = true → b.idn a = true :=
  Ty.ind fun _ _ _ _ _ _ _ ih b h => by
    obtain ⟨k', nm', n', f', ns', ms', ks'⟩ := b
    obtain ⟨rfl, rfl, rfl, hq⟩ := idn_iff.1 h
    refine idn_iff.2 ⟨rfl, rfl, rfl, ?_⟩
    clear h
    rcases hq with h | ⟨rfl, rfl, rfl, h⟩
    · exact .inl h
    · obtain ⟨hl, he⟩ := (idnL_iff _ _).1 h
      exact .inr ⟨rfl, rfl, rfl, (idnL_iff _ _).2 ⟨hl.symm, fun i h1 h2 => ih _ (List.getElem_mem h2) _ (he i h2 h1)⟩⟩
theorem idn_comm (a b : Ty) : a.idn b = b.idn a := by
  cases h : a.idn b with
  | true => exact (idn_turn a b h).symm
  | false => cases h' : b.idn a with
    | false => rfl
    | true => rw [idn_turn b a h'] at h; cases h
theorem idn_then : ∀ a b c : Ty, a.idn b = true → b.idn c = true → a.idn c = true :=
  Ty.ind fun _ _ _ _ _ _ _ ih b c h g => by
    obtain ⟨k', nm', n', f', ns', ms', ks'⟩ := b
    obtain ⟨k2, nm2, n2, f2, ns2, ms2, ks2⟩ := c
    obtain ⟨rfl, rfl, rfl, hq⟩ := idn_iff.1 h
    obtain ⟨rfl, rfl, rfl, gq⟩ := idn_iff.1 g
    refine idn_iff.2 ⟨rfl, rfl, rfl, ?_⟩
    clear h
    rcases hq with h | ⟨rfl, rfl, rfl, h⟩
    · exact .inl h
    · clear g
      rcases gq with g | ⟨rfl, rfl, rfl, g⟩
      · exact .inl g
      · obtain ⟨hl, he⟩ := (idnL_iff _ _).1 h
        obtain ⟨gl, ge⟩ := (idnL_iff _ _).1 g
        exact .inr ⟨rfl, rfl, rfl, (idnL_iff _ _).2 ⟨hl.trans gl, fun i h1 h2 => ih _ (List.getElem_mem h1) _ _ (he i h1 (by omega)) (ge i (by omega) h2)⟩⟩
theorem kdL_idn : ∀ (l l' : List Ty), idnL l l' = true → kdL l = kdL l'
  | [], [], _ => rfl
  | [], _ :: _, h => by simp [idnL] at h
  | _ :: _, [], h => by simp [idnL] at h
  | x :: r, y :: s, h => by
    simp only [idnL, Bool.and_eq_true] at h
    have h1 : x.kind = y.kind := by
      obtain ⟨k, nm, n, f, ns, ms, ks⟩ := x
      obtain ⟨k', nm', n', f', ns', ms', ks'⟩ := y
      exact (idn_iff.1 h.1).1
    simp only [kdL, h1, kdL_idn r s h.2]
theorem txtL_idn : ∀ (l l' : List Ty), (∀ x ∈ l, ∀ y ∈ l', x.idn y = true → x.txt = y.txt) → idnL l l' = true → txtL l = txtL l'
  | [], [], _, _ => rfl
  | [], _ :: _, _, h => by simp [idnL] at h
  | _ :: _, [], _, h => by simp [idnL] at h
  | x :: r, y :: s, hx, h => by
    simp only [idnL, Bool.and_eq_true] at h
    simp only [txtL, hx x (by simp) y (by simp) h.1, txtL_idn r s (fun a ha b hb => hx a (by simp [ha]) b (by simp [hb])) h.2]
theorem sgL_idn : ∀ (l l' : List Ty), (∀ x ∈ l, ∀ y ∈ l', x.idn y = true → x.sgt = y.sgt) → idnL l l' = true → sgL l = sgL l'
  | [], [], _, _ => rfl
  | [], _ :: _, _, h => by simp [idnL] at h
  | _ :: _, [], _, h => by simp [idnL] at h
  | x :: r, y :: s, hx, h => by
    simp only [idnL, Bool.and_eq_true] at h
    simp only [sgL, hx x (by simp) y (by simp) h.1, sgL_idn r s (fun a ha b hb => hx a (by simp [ha]) b (by simp [hb])) h.2]
/-- identical types have one text -/
theorem idn_txt : ∀ a b : Ty, Shp a → Shp b → a.idn b = true → a.txt = b.txt ∧ (a.kind = 13 → a.sgt = b.sgt) :=
  Ty.ind fun k _ _ _ _ _ ks ih b ha hb h => by
    obtain ⟨k', nm', n', f', ns', ms', ks'⟩ := b
    obtain ⟨rfl, rfl, rfl, hq⟩ := idn_iff.1 h
    clear h
    rcases hq with rfl | ⟨rfl, rfl, rfl, h⟩
    · refine ⟨?_, fun e => ?_⟩
      · simp [Ty.txt, txK]
      · simp [Ty.kind] at e
    · have hk := kdL_idn _ _ h
      have ht := txtL_idn ks ks' (fun x hx y hy e => (ih x hx y (ha.kids x hx) (hb.kids y hy) e).1) h
      refine ⟨?_, fun _ => ?_⟩
      · simp only [Ty.txt, ht, hk]
        by_cases h15 : k = 15
        · have h1 := (ha.hd.ifc h15).2
          have hs := sgL_idn ks ks' (fun x hx y hy e => (ih x hx y (ha.kids x hx) (hb.kids y hy) e).2 (h1 x hx)) h
          rw [hs]
        · simp only [txK, h15, if_false]
      · simp only [Ty.sgt, ht, hk]
end Go.Proofs.Ytifcikhgbafegab

