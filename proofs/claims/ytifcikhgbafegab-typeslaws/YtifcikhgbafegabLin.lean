/-
  The rows of pieces of types.Text: put and tell, walked.
-/
import Derived.Test.YtifcikhgbafegabBld
namespace Go.Proofs.Ytifcikhgbafegab
open Go.RowKit
attribute [local go_sem ↓] Go.wp_at_zero Go.wp_at_succ
/-- a line that holds these pieces; rb: the block of its row -/
structure Ln (W : World) (L : Nat) (rb : Option Nat) (ps : List ElQ) : Prop where
  ex : ∃ v, W.heap[L]? = some (.cells #[v] 56 (0, 0)) ∧ W.ownsRow 0 49 2 v ps.length (ps.flatMap ecQ) ∧ v.ownBlock = rb
/-- a line grew -/
structure LQ (w : World) (L : Nat) (rb : Option Nat) (ps : List ElQ) (w' : World) : Prop where
  ex : ∃ rb', Ln w' L rb' ps ∧ ∀ k, rb' = some k → rb = some k ∨ w.heap.size ≤ k
  kx : Kx (fun b => b = L ∨ rb = some b) w w'
theorem LQ.refl {w : World} {L : Nat} {rb : Option Nat} {ps : List ElQ} (h : Ln w L rb ps) : LQ w L rb ps w := ⟨⟨rb, h, fun _ h => .inl h⟩, Kx.refl _ _⟩
theorem Ln.lt {W : World} {L : Nat} {rb : Option Nat} {ps : List ElQ} (h : Ln W L rb ps) : L < W.heap.size := by
  obtain ⟨v, hb, _⟩ := h.ex
  exact (Array.getElem?_eq_some_iff.1 hb).1
theorem Ln.row_lt {W : World} {L : Nat} {rb : Option Nat} {ps : List ElQ} (h : Ln W L rb ps) : ∀ k, rb = some k → k < W.heap.size ∧ k ≠ L := by
  obtain ⟨v, hb, hr, rfl⟩ := h.ex
  intro k hk
  refine ⟨(hr.lt k hk).2, fun e => ?_⟩
  rcases hr.2 with ⟨rfl, _⟩ | ⟨g, cap, cur, rfl, _, hg, _⟩
  · simp [Value.ownBlock] at hk
  · obtain rfl : g = k := by simpa [Value.ownBlock] using hk
    rw [e, hb] at hg; simp at hg
theorem Ln.kept {W W' : World} {L : Nat} {rb : Option Nat} {ps : List ElQ} {X : Nat → Prop} (h : Ln W L rb ps) (hk : Kx X W W') (hL : ¬ X L) (hr : ∀ k, rb = some k → ¬ X k) : Ln W' L rb ps := by
  obtain ⟨v, hb, ho, rfl⟩ := h.ex
  exact ⟨v, hk.keep _ _ hb hL, ownsRow_kx ho hk hr, rfl⟩
theorem LQ.then {w w1 w2 : World} {L : Nat} {rb rb1 : Option Nat} {ps' : List ElQ} (hr1 : ∀ k, rb1 = some k → rb = some k ∨ w.heap.size ≤ k) (k1 : Kx (fun b => b = L ∨ rb = some b) w w1) (h2 : LQ w1 L rb1 ps' w2) : LQ w L rb ps' w2 := by
  obtain ⟨rb2, h3, hr2⟩ := h2.ex
  have hz := k1.size
  refine ⟨⟨rb2, h3, fun k hk => ?_⟩, k1.andThen h2.kx (fun _ _ h => h) (fun b hb h => ?_)⟩
  · rcases hr2 k hk with h | h
    · exact hr1 k h
    · exact .inr (by omega)
  · rcases h with h | h
    · exact .inl h
    · rcases hr1 b h with h | h
      · exact .inr h
      · omega
/-- one more piece -/
theorem Ln.push {W w9 : World} {L g cap n : Nat} {v : Value} {ps : List ElQ} {x : ElQ} {tmp : Obj} (hb : W.heap[L]? = some (.cells #[v] 56 (0, 0))) (hr : W.ownsRow 0 49 2 v n (ps.flatMap ecQ)) (hn : n = ps.length)
    (hown : w9.ownsRow 0 49 2 (.slice (some ⟨g, 0, none⟩) (n + 1) cap) (n + 1) (ps.flatMap ecQ ++ ecQ x)) (hgrow : (W.alloc tmp).grownBy w9 v.ownBlock) (hat : v.ownBlock = some g ∨ g = W.heap.size + 1) :
    LQ W L v.ownBlock (ps ++ [x]) (w9.setCell ⟨L, 0, none⟩ (.slice (some ⟨g, 0, none⟩) (n + 1) cap)) := by
  have hL := (Array.getElem?_eq_some_iff.1 hb).1
  have hne := (Ln.row_lt ⟨v, hb, hn ▸ hr, rfl⟩)
  have hbx : Boxed W L 56 v := hb
  have hgL : g ≠ L := by
    rcases hat with h | h
    · exact (hne g h).2
    · omega
  have hb9 : Boxed w9 L 56 v := (hbx.alloc tmp).kept hgrow (fun e => (hne L e.symm).2 rfl)
  refine ⟨⟨some g, ⟨_, hb9.set _, ?_, rfl⟩, fun k hk => ?_⟩, ?_⟩
  · rw [List.length_append, List.flatMap_append, ← hn]
    have := hown.kept (grownBy_setCell' w9 L (.slice (some ⟨g, 0, none⟩) (n + 1) cap)) (.inr (by simp [Value.ownBlock]; exact hgL))
    simpa using this
  · cases hk
    rcases hat with h | h
    · exact .inl h
    · exact .inr (by omega)
  · have k1 : Kx (fun b => b = L ∨ v.ownBlock = some b) W w9 := (Kx.of_whole (X := fun b => b = L ∨ v.ownBlock = some b) (below_alloc W tmp)).andThen (grownBy_kx hgrow) (fun _ _ h => h) (fun c _ h => .inr h)
    exact k1.andThen kx_set1 (fun _ _ h => h) (fun c _ h => .inl h)
abbrev tx (s : ByteArray) : ElQ := (s, none)
abbrev ty (a : Addr) : ElQ := (⟨#[]⟩, some a)
set_option maxRecDepth 100000 in
set_option maxHeartbeats 2000000 in
theorem put_any {w : World} {L : Nat} {rb : Option Nat} {ps : List ElQ} {a : Option Addr} {n c : Nat} {ts : List ByteArray} (h : Ln w L rb ps) (ht : StrV (fun b => b ≠ L ∧ rb ≠ some b) w (.slice a n c) ts) (hm : ps.length + ts.length ≤ 1000000) :
    Calls Try.prog 36 #[.pointer (some ⟨L, 0, none⟩), .slice a n c] w fun e w' => (∃ u, e = .returned u) ∧ LQ w L rb (ps ++ ts.map tx) w' := by
  obtain ⟨i0, hi, hz0, hz1, hz2⟩ := infoQ_ex
  have hl := ht.len
  have HT : Hid (StrV (fun b => b ≠ L ∧ rb ≠ some b) w (.slice a n c) ts) := ht
  have HL : Hid (n = ts.length) := hl
  have HLN : Hid (Ln w L rb ps) := h
  have hn : n ≤ 1000000 := by omega
  have HM : Hid (ps.length + ts.length ≤ 1000000) := hm
  clear h ht hl hm
  go_enter Try.func36, Try.ntmps36
  go_wp2_with fail
  go_loopg [8] n (fun g u8 wr => ∃ i : Nat, i ≤ n ∧ n - i ≤ g ∧ u8 = .int .i64 i ∧ Hid (LQ w L rb (ps ++ (ts.take i).map tx) wr))
  case atStart => exact ⟨0, Nat.zero_le _, Nat.le_refl _, rfl, by show LQ _ _ _ _ _; simpa using LQ.refl HLN.out⟩
  case round =>
    obtain ⟨i, hi9, hg, rfl, HX⟩ := hrel
    by_cases hlt : i < n
    · have z1 : (i : Int) < (n : Int) := by omega
      have z0 : (0 : Int) ≤ (i : Int) := by omega
      have b1 : i < ts.length := by rw [← HL.out]; exact hlt
      obtain ⟨rb1, hln, hrb⟩ := HX.out.ex
      obtain ⟨v, hb, hr, rfl⟩ := hln.ex
      have ht9 : StrV (fun b => b ≠ L ∧ rb ≠ some b) wr (.slice a n c) ts := HT.out.to HX.out.kx (fun _ _ h => h) (fun b _ h e => by rcases e with e | e; exact h.1 e; exact h.2 e)
      obtain ⟨g1, o1, rfl, ht1⟩ := ht9.get b1
      obtain ⟨N, hN⟩ : ∃ N, N = (ps ++ (ts.take i).map tx).length := ⟨_, rfl⟩
      have hNb : N + 1 ≤ 1000000 := by have := HM.out; rw [hN]; simp; omega
      rw [← hN] at hr
      obtain ⟨va, vc, rfl⟩ : ∃ va vc, v = .slice va N vc := by
        rcases hr.2 with ⟨rfl, h0⟩ | ⟨g, cap, cur, rfl, _⟩
        · subst h0; exact ⟨_, _, rfl⟩
        · exact ⟨_, _, rfl⟩
      have c0 := cell_of hb 0
      simp only [List.getElem?_toArray, List.getElem?_cons_zero] at c0
      have hLlt := (Array.getElem?_eq_some_iff.1 hb).1
      have hrl := Ln.row_lt hln
      generalize hS : ts[i] = S at *
      have HS : Hid (ts[i] = S) := hS
      have HBK : Hid _ := hb
      have HRW : Hid (wr.ownsRow 0 49 2 (.slice va N vc) N ((ps ++ (ts.take i).map tx).flatMap ecQ)) := hr
      have HRB : Hid _ := hrb
      have HNN : Hid (N = (ps ++ (ts.take i).map tx).length) := hN
      have HRL : Hid _ := hrl
      clear hS hb hr hln hrb ht9 hN hrl
      go_wp2_with (at_builtin; refine wpList_append_lies _ rfl _ _ 50 rfl 0 49 i0 _ 2 24 Try.underlying50 hi hz0 hz1 hz2 rfl (by omega) (.slice va N vc) N _ rfl (HRW.out.alloc _) ⟨wr.heap.size, 0, none⟩ 1 1 [.string S, .pointer none] rfl rfl (two_new _ _ _ _) (by simp [Value.oneCell']) (by omega) (by unfold maxLen; omega) (by omega) (Nat.zero_le _) (wr.heap.size + 1) (by simp) ?_; intro gg cap w9 hown hgrow hat hlt1; have HPU : Hid (LQ wr L (Value.slice va N vc).ownBlock ((ps ++ (ts.take i).map tx) ++ [tx S]) (w9.setCell ⟨L, 0, none⟩ (.slice (some ⟨gg, 0, none⟩) (N + 1) cap))) := Ln.push HBK.out HRW.out HNN.out hown hgrow hat; have hb9 : Boxed w9 L 56 (.slice va N vc) := (Boxed.alloc (show Boxed wr L 56 (.slice va N vc) from HBK.out) _).kept hgrow (fun e => (HRL.out L e.symm).2 rfl); have d0 := hb9.cell; have f0 := hb9.frozen; clear hown hgrow hat hb9)
      go_roundg (n - (i + 1))
      case measure => omega
      case rel =>
        refine ⟨i + 1, by omega, Nat.le_refl _, by go_num, ?_⟩
        have := LQ.then HRB.out HX.out.kx HPU.out
        show LQ _ _ _ _ _
        rwa [List.append_assoc, show (ts.take i).map tx ++ [tx S] = (ts.take (i + 1)).map tx by rw [List.take_add_one, List.getElem?_eq_getElem b1, HS.out]; simp] at this
    · obtain rfl : i = n := by omega
      have z1 : ¬ (i : Int) < (i : Int) := by omega
      go_wp2_with fail
      go_end0
      refine ⟨⟨_, rfl⟩, ?_⟩
      have := HX.out
      rwa [HL.out, List.take_length] at this
end Go.Proofs.Ytifcikhgbafegab

