/-
  Types that the example wants laid.
-/
import Derived.Test.YtifcikhgbafegabTiw
namespace Go.Proofs.Ytifcikhgbafegab
open Go.RowKit
/-- func(int, ...string) bool -/
def awT : Ty := .mk 13 ⟨#[]⟩ 2 true [] [] [mkT 1 [], mkT 11 [mkT 2 []], mkT 3 []]
def G1 (t : Ty) : Prop := t.kind ≤ 7 ∨ t = awT
def wg1 (t : Ty) : Nat := if t.kind ≤ 7 then 2 else 30
theorem txt_low (t : Ty) (h : t.kind ≤ 7) : t.txt = LB (wrd t.kind) := by
  obtain ⟨k, nm, n, f, ns, ms, ks⟩ := t
  simp only [Ty.kind] at h
  simp only [Ty.txt, Ty.kind, txK, wrd]
  by_cases h1 : k = 1
  · simp [h1, LB]
  by_cases h2 : k = 2
  · simp [h2, LB]
  by_cases h3 : k = 3
  · simp [h3, LB]
  by_cases h4 : k = 4
  · simp [h4, LB]
  by_cases h5 : k = 5
  · simp [h5, LB]
  by_cases h6 : k = 6
  · simp [h6, LB]
  by_cases h7 : k = 7
  · simp [h7, LB]
  simp only [h1, h2, h3, h4, h5, h6, h7, if_false, show ¬ k = 8 by omega, show ¬ k = 9 by omega, show ¬ k = 10 by omega, show ¬ k = 11 by omega, show ¬ k = 12 by omega, show ¬ k = 13 by omega, show ¬ k = 14 by omega, show ¬ k = 15 by omega, show ¬ k = 16 by omega, show ¬ k = 17 by omega]
  rfl
theorem aw_txt : awT.txt = [102, 117, 110, 99, 40, 105, 110, 116, 44, 32, 46, 46, 46, 115, 116, 114, 105, 110, 103, 41, 32, 98, 111, 111, 108] := by decide
theorem kids_at2 {W : World} {B : BQ} {v : Value} {ks : List Ty} (h : SlT B W v ks) (hn : 0 < ks.length) : ∃ c kb ko, v = .slice (some ⟨kb, ko, none⟩) ks.length c ∧ B kb ∧ kb < W.heap.size ∧ ∀ i (hi : i < ks.length), (ks[i]).lies B W kb (ko + i * 7) := by
  rcases h with ⟨a, c, rfl, rfl⟩ | ⟨b, o, c, rfl, hl, hb1, hb, hL⟩
  · simp at hn
  · exact ⟨c, b, o, rfl, hb, hb1, fun i hi => liesT_get hL i hi⟩
theorem lays1 : Lays G1 wg1 := by
  intro t hG
  refine ⟨by unfold wg1; split <;> omega, fun D w b o hD hl => ?_⟩
  by_cases hk : t.kind ≤ 7
  · have hc0 := (lies_iff.1 hl).1
    refine ⟨[.txt (wrd t.kind)], by simp [Pc.tx, txt_low t hk], by simp [wgL, Pc.wt, wg1, hk], by simp [wg1, hk], fun p hp => by obtain rfl := List.mem_singleton.1 hp; trivial, fun w1 L hb hL hln hw => ?_⟩
    have := lay_word hln (kept_cell hb hc0) hk (by simp)
    simpa [Pc.e] using this
  · obtain rfl : t = awT := hG.resolve_left hk
    obtain ⟨c0, c1, c2, c3, vn, vm, vk, c4, c5, c6, hp⟩ := lies_iff.1 hl
    obtain ⟨ck, kb, ko, rfl, hDk, hkw, hkids⟩ := kids_at2 hp.ks (by simp [awT, Ty.kids])
    have hk0 := hkids 0 (by simp [awT, Ty.kids])
    have hk1 := hkids 1 (by simp [awT, Ty.kids])
    have hk2 := hkids 2 (by simp [awT, Ty.kids])
    simp only [awT, Ty.kids, List.getElem_cons_zero, List.getElem_cons_succ, Nat.zero_mul, Nat.add_zero, Nat.one_mul] at hk0 hk1 hk2
    obtain ⟨d0, -, -, -, un, um, uk, -, -, d6, hq⟩ := lies_iff.1 hk1
    obtain ⟨ek, sb, so, rfl, hDs, hsw, hsk⟩ := kids_at2 hq.ks (by simp [mkT, Ty.kids])
    have hs0 := hsk 0 (by simp [mkT, Ty.kids])
    simp only [mkT, Ty.kids, List.getElem_cons_zero, Nat.zero_mul, Nat.add_zero] at hs0
    have hbw : b < w.heap.size := World.block_lt_of_cell? _ _ c0
    simp only [awT, Ty.kind, Ty.n, Ty.flag, Ty.kids, List.length_cons, List.length_nil, Nat.zero_add, Nat.reduceAdd] at c0 c2 c3 c6
    simp only [mkT, Ty.kind, Ty.kids, List.length_cons, List.length_nil, Nat.zero_add] at d0 d6
    refine ⟨[.txt ⟨#[102, 117, 110, 99]⟩, .txt ⟨#[40]⟩, .typ kb ko (mkT 1 []), .txt ⟨#[44, 32]⟩, .txt ⟨#[46, 46, 46]⟩, .typ sb so (mkT 2 []), .txt ⟨#[41]⟩, .txt ⟨#[32]⟩, .typ kb (ko + 2 * 7) (mkT 3 [])], ?_, by simp [wgL, Pc.wt, wg1, mkT, awT, Ty.kind], by simp [wg1, awT, Ty.kind], ?_, ?_⟩
    · rw [aw_txt]
      simp only [List.flatMap_cons, List.flatMap_nil, Pc.tx]
      decide
    · intro p hp'
      simp only [List.mem_cons, List.not_mem_nil, or_false] at hp'
      rcases hp' with rfl | rfl | rfl | rfl | rfl | rfl | rfl | rfl | rfl
      · trivial
      · trivial
      · exact ⟨.inl (by decide), hDk, hk0⟩
      · trivial
      · trivial
      · exact ⟨.inl (by decide), hDs, hs0⟩
      · trivial
      · trivial
      · exact ⟨.inl (by decide), hDk, hk2⟩
    · intro w1 L hb hL hln hw
      refine lay_func hln (kept_cell hb c0) (by simp) (fun w2 hq2 => ?_)
      obtain ⟨rb2, hln2, hr2⟩ := hq2.ex
      have hz := hb.size
      have hne : ∀ c, c < w.heap.size → c ≠ L ∧ rb2 ≠ some c := fun c hc => ⟨by omega, fun e => by
        rcases hr2 c e with h | h
        · cases h
        · omega⟩
      have cK : ∀ {a : Addr} {v : Value}, w.cell? a = some v → w2.cell? a = some v := fun {a v} hv => hq2.cell (kept_cell hb hv) (by have := World.block_lt_of_cell? _ _ hv; omega) (by simp)
      have hs := sig_f2 (M := 1) (n := 3) (kb := kb) (ko := ko) (sb := sb) (so := so) hln2 (hne b hbw).1 (hne b hbw).2 (by have := cK c2; simpa using this) (cK c3) (cK c6) (fun _ => rfl) rfl (by omega) (by simp) (hne kb hkw).1 (hne kb hkw).2 (by have := cK d0; simpa using this) (by have := cK d6; simpa using this)
      refine hs.mono ?_
      rintro e w' ⟨he, hq'⟩
      refine ⟨he, ?_⟩
      have := LQ.then hr2 hq2.kx hq'
      simpa [sgP, tellP, kidA_one, Pc.e] using this
end Go.Proofs.Ytifcikhgbafegab

