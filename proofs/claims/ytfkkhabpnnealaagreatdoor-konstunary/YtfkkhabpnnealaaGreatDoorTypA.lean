/-
  recastalike.TypeSize, walked.
-/
import Derived.Test.YtfkkhabpnnealaaGreatDoorTyb
namespace Go.Proofs.YtfkkhabpnnealaaGreatDoor.T8
open Go.RowKit
attribute [local go_sem ↓] Go.wp_at_zero Go.wp_at_succ
mutual
/-- how many types, up to a limit -/
def Ty.tsz : Ty → Int → Int
  | .mk _ _ _ _ _ _ ks, m => tszL ks m 1
def tszL : List Ty → Int → Int → Int
  | [], _, s => s
  | x :: r, m, s => if s ≤ m then tszL r m (s + x.tsz (m - s)) else s
end
theorem tszL_le (ks : List Ty) (ih : ∀ x ∈ ks, ∀ m, 0 ≤ m → 1 ≤ x.tsz m ∧ x.tsz m ≤ m + 1) : ∀ m s, 1 ≤ s → s ≤ m + 1 → 1 ≤ tszL ks m s ∧ tszL ks m s ≤ m + 1 := by
  induction ks with
  | nil => intro m s h1 h2; simp only [tszL]; omega
  | cons x r ih2 =>
    intro m s h1 h2
    simp only [tszL]
    split
    · have := ih x (by simp) (m - s) (by omega)
      exact ih2 (fun y hy => ih y (by simp [hy])) m _ (by omega) (by omega)
    · omega
theorem tsz_le : ∀ t : Ty, ∀ m, 0 ≤ m → 1 ≤ t.tsz m ∧ t.tsz m ≤ m + 1 :=
  Ty.ind fun k nm n f ns ms ks ih m hm => by
    simp only [Ty.tsz]
    exact tszL_le ks ih m 1 (by omega) (by omega)
/-- the object of a type -/
abbrev obT (t : Ty) (vn vm vk : Value) : Obj := .cells #[.int .i64 t.kind, .string t.name, .int .i64 t.n, .bool t.flag, vn, vm, vk] 41
end Go.Proofs.YtfkkhabpnnealaaGreatDoor.T8

/-
  Rows of types that are a call's own.
-/
namespace Go.Proofs.YtfkkhabpnnealaaGreatDoor.T8
open Go.RowKit
/-- the three slices of a type -/
structure V3 where
  n : Value
  m : Value
  k : Value
/-- the cells of a type -/
def cel (x : Ty) (v : V3) : List Value := [.int .i64 x.kind, .string x.name, .int .i64 x.n, .bool x.flag, v.n, v.m, v.k]
/-- the cells of types in a row -/
def flatT : List Ty → List V3 → List Value
  | x :: l, v :: vs => cel x v ++ flatT l vs
  | _, _ => []
theorem flatT_append (l : List Ty) (vs : List V3) (h : vs.length = l.length) (l' : List Ty) (vs' : List V3) : flatT (l ++ l') (vs ++ vs') = flatT l vs ++ flatT l' vs' := by
  induction l generalizing vs with
  | nil => cases vs with
    | nil => simp [flatT]
    | cons _ _ => simp at h
  | cons x l ih => cases vs with
    | nil => simp at h
    | cons v vs => simp [flatT, ih vs (by simpa using h)]
theorem flatT_len (l : List Ty) (vs : List V3) (h : vs.length = l.length) : (flatT l vs).length = l.length * 7 := by
  induction l generalizing vs with
  | nil => simp [flatT]
  | cons x l ih => cases vs with
    | nil => simp at h
    | cons v vs => simp [flatT, cel, ih vs (by simpa using h)]; omega
theorem flatT_get (l : List Ty) (vs : List V3) (h : vs.length = l.length) (i : Nat) (hi : i < l.length) (j : Nat) (hj : j < 7) : (flatT l vs)[i * 7 + j]? = (cel l[i] (vs[i]'(h ▸ hi)))[j]? := by
  induction l generalizing vs i with
  | nil => cases hi
  | cons x l ih => cases vs with
    | nil => simp at h
    | cons v vs =>
      cases i with
      | zero =>
        simp only [flatT, List.getElem_cons_zero, Nat.zero_mul, Nat.zero_add]
        rw [List.getElem?_append_left (by simp [cel]; omega)]
      | succ i =>
        have := ih vs (by simpa using h) i (by simpa using hi)
        simp only [List.getElem_cons_succ, flatT]
        rw [List.getElem?_append_right (by simp [cel]; omega), ← this]
        congr 1
        simp [cel]; omega
/-- a row of types that is the call's own, with the parts of each one elsewhere -/
structure RowT (base : Nat) (K : BQ) (W : World) (v : Value) (l : List Ty) : Prop where
  mk' ::
  ex : ∃ vs : List V3, ∃ h : vs.length = l.length, W.ownsRow base 41 7 v l.length (flatT l vs) ∧ ∀ i (hi : i < l.length), Prt (fun b => K b ∧ v.ownBlock ≠ some b) W l[i] (vs[i]'(h ▸ hi)).n (vs[i]'(h ▸ hi)).m (vs[i]'(h ▸ hi)).k
theorem RowT.nil (base : Nat) (K : BQ) (W : World) : RowT base K W (.slice none 0 0) [] := ⟨[], rfl, World.ownsRow_nil _ _ _ _, fun i hi => by cases hi⟩
theorem RowT.slice {base : Nat} {K : BQ} {W : World} {v : Value} {l : List Ty} (h : RowT base K W v l) : ∃ a c, v = .slice a l.length c := by
  obtain ⟨vs, hl, ho, _⟩ := h.ex
  rcases ho.2 with ⟨rfl, h0⟩ | ⟨g, cap, cur, rfl, _⟩
  · rw [h0]; exact ⟨_, _, rfl⟩
  · exact ⟨_, _, rfl⟩
theorem RowT.lt {base : Nat} {K : BQ} {W : World} {v : Value} {l : List Ty} (h : RowT base K W v l) : ∀ k, v.ownBlock = some k → base ≤ k ∧ k < W.heap.size := by
  obtain ⟨vs, hl, ho, _⟩ := h.ex
  exact ho.lt
theorem RowT.to {base : Nat} {K : BQ} {X : Nat → Prop} {W W' : World} {v : Value} {l : List Ty} (h : RowT base K W v l) (hk : Kx X W W') (hv : ∀ b, v.ownBlock = some b → ¬ X b) (hX : ∀ b, b < W.heap.size → K b → ¬ X b) : RowT base K W' v l := by
  obtain ⟨vs, hl, ho, hs⟩ := h.ex
  refine ⟨vs, hl, ?_, fun i hi => (hs i hi).to hk (fun _ _ h => h) (fun b h1 h2 => hX b h1 h2.1)⟩
  refine ⟨ho.1, ?_⟩
  rcases ho.2 with h0 | ⟨g, cap, cur, rfl, h1, h2, h3⟩
  · exact .inl h0
  · exact .inr ⟨g, cap, cur, rfl, h1, hk.keep _ _ h2 (hv _ rfl), h3⟩
theorem RowT.kept {base : Nat} {K : BQ} {W W' : World} {v : Value} {l : List Ty} (h : RowT base K W v l) (hk : Below W.heap.size W W') : RowT base K W' v l :=
  h.to (X := fun _ => False) (Kx.of_whole hk) (fun _ _ h => h) (fun _ _ _ h => h)
/-- types more -/
theorem RowT.join {base : Nat} {K : BQ} {W W1 : World} {v : Value} {l l2 : List Ty} {vs vs2 : List V3} (hl : vs.length = l.length)
    (hs : ∀ i (hi : i < l.length), Prt (fun b => K b ∧ v.ownBlock ≠ some b) W l[i] (vs[i]'(hl ▸ hi)).n (vs[i]'(hl ▸ hi)).m (vs[i]'(hl ▸ hi)).k) (hl2 : vs2.length = l2.length)
    (hs2 : ∀ i (hi : i < l2.length), Prt (fun b => K b ∧ v.ownBlock ≠ some b) W l2[i] (vs2[i]'(hl2 ▸ hi)).n (vs2[i]'(hl2 ▸ hi)).m (vs2[i]'(hl2 ▸ hi)).k) {g cap : Nat}
    (hg : W.grownBy W1 v.ownBlock) (hat : v.ownBlock = some g ∨ g = W.heap.size)
    (ho1 : W1.ownsRow base 41 7 (.slice (some ⟨g, 0, none⟩) (l.length + l2.length) cap) (l.length + l2.length) (flatT l vs ++ flatT l2 vs2)) :
    RowT base K W1 (.slice (some ⟨g, 0, none⟩) (l.length + l2.length) cap) (l ++ l2) := by
  have hk := grownBy_kx hg
  have conv : ∀ {x : Ty} {a b c : Value}, Prt (fun b => K b ∧ v.ownBlock ≠ some b) W x a b c → Prt (fun b => K b ∧ (Value.slice (some ⟨g, 0, none⟩) (l.length + l2.length) cap).ownBlock ≠ some b) W1 x a b c := fun hz =>
    hz.to hk (fun b h1 h2 => ⟨h2.1, fun e => by
      have e' : g = b := by simpa [Value.ownBlock] using e
      rcases hat with h3 | h3
      · exact h2.2 (by rw [h3, e'])
      · omega⟩) (fun b _ h2 e => h2.2 e)
  have hl1 : (vs ++ vs2).length = (l ++ l2).length := by simp [hl, hl2]
  refine ⟨vs ++ vs2, hl1, ?_, fun i hi => ?_⟩
  · rw [flatT_append l vs hl, List.length_append]
    exact ho1
  · rcases Nat.lt_or_ge i l.length with h1 | h1
    · have := conv (hs i h1)
      simpa [List.getElem_append, h1, hl ▸ h1] using this
    · have hi2 : i - l.length < l2.length := by simp at hi; omega
      have := conv (hs2 (i - l.length) hi2)
      simpa [List.getElem_append, show ¬ i < l.length by omega, show ¬ i < vs.length by omega, hl] using this
/-- the row read as a slice -/
theorem RowT.read {base : Nat} {K B : BQ} {W : World} {v : Value} {l : List Ty} (h : RowT base K W v l) (hm : (l.length : Int) ≤ 9223372036854775807) (hK : ∀ b, b < W.heap.size → K b → B b) (hv : ∀ b, v.ownBlock = some b → base ≤ b → B b) : SlT B W v l := by
  obtain ⟨vs, hl, ho, hs⟩ := h.ex
  rcases ho.2 with ⟨h0, h1⟩ | ⟨g, cap, cur, rfl, h1, h2, h3, h4, h5, h6⟩
  · exact .inl ⟨_, _, h0, List.eq_nil_of_length_eq_zero h1⟩
  · refine .inr ⟨g, 0, cap, rfl, hm, (Array.getElem?_eq_some_iff.1 h2).1, hv g rfl h1, liesT_of fun i hi => ?_⟩
    have hc : ∀ j, j < 7 → W.cell? ⟨g, 0 + i * 7 + j, none⟩ = (cel l[i] (vs[i]'(hl ▸ hi)))[j]? := fun j hj => by
      rw [← flatT_get l vs hl i hi j hj, cell_of h2, ← h6, List.getElem?_take, if_pos (by omega), Array.getElem?_toList]
      congr 1; omega
    have c0 := hc 0 (by omega)
    rw [Nat.add_zero] at c0
    exact lies_iff.2 ⟨c0, hc 1 (by omega), hc 2 (by omega), hc 3 (by omega), _, _, _, hc 4 (by omega), hc 5 (by omega), hc 6 (by omega), (hs i hi).with (fun b h7 h8 => hK b h7 h8.1)⟩
theorem flatT_one (l : List Ty) (vs : List V3) (h : vs.length = l.length) (h1 : ∀ i (hi : i < l.length), (vs[i]'(h ▸ hi)).n.oneCell' = true ∧ (vs[i]'(h ▸ hi)).m.oneCell' = true ∧ (vs[i]'(h ▸ hi)).k.oneCell' = true) : ∀ u ∈ flatT l vs, u.oneCell' = true := by
  induction l generalizing vs with
  | nil => intro u hu; simp [flatT] at hu
  | cons x l ih =>
    cases vs with
    | nil => simp at h
    | cons v vs =>
      intro u hu
      simp only [flatT, List.mem_append, cel, List.mem_cons, List.not_mem_nil, or_false] at hu
      have h0 := h1 0 (by simp)
      rcases hu with (rfl | rfl | rfl | rfl | rfl | rfl | rfl) | hu
      · rfl
      · rfl
      · rfl
      · rfl
      · exact h0.1
      · exact h0.2.1
      · exact h0.2.2
      · exact ih vs (by simpa using h) (fun i hi => h1 (i + 1) (by simpa using hi)) u hu
theorem Prt.one {B : BQ} {W : World} {t : Ty} {vn vm vk : Value} (h : Prt B W t vn vm vk) : vn.oneCell' = true ∧ vm.oneCell' = true ∧ vk.oneCell' = true := by
  obtain ⟨an, cn, am, cm, ak, ck, rfl, rfl, rfl⟩ := h.form
  exact ⟨rfl, rfl, rfl⟩
/-- types that lie in a slice, cell by cell -/
theorem liesT_flat {B : BQ} {W : World} (l : List Ty) : ∀ (b o : Nat), liesT B W l b o → ∃ vs : List V3, ∃ h : vs.length = l.length, (∀ j u, (flatT l vs)[j]? = some u → W.cell? ⟨b, o + j, none⟩ = some u) ∧ ∀ i (hi : i < l.length), Prt B W l[i] (vs[i]'(h ▸ hi)).n (vs[i]'(h ▸ hi)).m (vs[i]'(h ▸ hi)).k := by
  induction l with
  | nil => intro b o _; exact ⟨[], rfl, (fun j u h => by simp [flatT] at h), fun i hi => by cases hi⟩
  | cons x l ih =>
    intro b o h
    obtain ⟨h1, h2⟩ := liesT_cons.1 h
    obtain ⟨vs, hl, hc, hs⟩ := ih b (o + 7) h2
    obtain ⟨k0, k1, k2, k3, vn, vm, vk, k4, k5, k6, hp⟩ := lies_iff.1 h1
    refine ⟨⟨vn, vm, vk⟩ :: vs, by simp [hl], fun j u hj => ?_, fun i hi => ?_⟩
    · match j with
      | 0 => simp [flatT, cel] at hj; subst hj; exact k0
      | 1 => simp [flatT, cel] at hj; subst hj; exact k1
      | 2 => simp [flatT, cel] at hj; subst hj; exact k2
      | 3 => simp [flatT, cel] at hj; subst hj; exact k3
      | 4 => simp [flatT, cel] at hj; subst hj; exact k4
      | 5 => simp [flatT, cel] at hj; subst hj; exact k5
      | 6 => simp [flatT, cel] at hj; subst hj; exact k6
      | j + 7 =>
        have := hc j u (by simpa [flatT, cel] using hj)
        rwa [show o + (j + 7) = o + 7 + j by omega]
    · cases i with
      | zero => exact hp
      | succ i => exact hs i (by simpa using hi)
set_option maxRecDepth 100000 in
theorem infoT_ex : ∃ i0, Tryz.prog.info? 41 = some i0 ∧ i0.zero = some (.agg #[.int .i64 0, .string ⟨#[]⟩, .int .i64 0, .bool false, .slice none 0 0, .slice none 0 0, .slice none 0 0]) ∧ i0.size = 7 ∧ i0.bytes = 112 := ⟨_, rfl, rfl, rfl, rfl⟩
end Go.Proofs.YtfkkhabpnnealaaGreatDoor.T8

/-
  recastalike.Texts, Bools and Types, walked.
-/
namespace Go.Proofs.YtfkkhabpnnealaaGreatDoor.T8
open Go.RowKit
attribute [local go_sem ↓] Go.wp_at_zero Go.wp_at_succ
theorem str_eq {a b : ByteArray} (h : a = b) : (a.toList == b.toList) = true := by subst h; simp
theorem str_ne {a b : ByteArray} (h : a ≠ b) : (a.toList == b.toList) = false := by
  rw [beq_eq_false_iff_ne]
  intro e
  apply h
  rw [Lib.toList_data, Lib.toList_data] at e
  exact ByteArray.ext (Array.ext' e)
theorem RowV.len {α : Type} {f : α → Value} {B : BQ} {W : World} {a : Option Addr} {n c : Nat} {l : List α} (h : RowV f B W (.slice a n c) l) : n = l.length := by
  obtain ⟨_, _, e, _⟩ := h.slice
  simp at e
  exact e.2.1
theorem RowV.max {α : Type} {f : α → Value} {B : BQ} {W : World} {a : Option Addr} {n c : Nat} {l : List α} (h : RowV f B W (.slice a n c) l) : (n : Int) ≤ 9223372036854775807 := by
  obtain ⟨_, _, _, hm⟩ := h.slice
  rw [h.len]; exact hm
theorem ret_bool {a b : Bool} (h : a = b) : Ending.returned (.bool a) = .returned (.bool b) := by rw [h]
theorem take_eq {α : Type} {l l' : List α} (hl : l.length = l'.length) (h : ∀ i (h1 : i < l.length) (h2 : i < l'.length), l[i] = l'[i]) : l = l' := List.ext_getElem hl h
set_option maxRecDepth 100000 in
set_option maxHeartbeats 2000000 in
theorem texts_any {B B' : BQ} {w : World} {a a' : Option Addr} {n n' c c' : Nat} {l l' : List ByteArray} (h : StrV B w (.slice a n c) l) (h' : StrV B' w (.slice a' n' c') l') : Calls Tryz.prog 35 #[.slice a n c, .slice a' n' c'] w fun e w' => e = .returned (.bool (decide (l = l'))) ∧ Below w.heap.size w w' := by
  have hl := h.len
  have hl' := h'.len
  have hm := h.max
  by_cases hne : n = n'
  · subst hne
    have k0 : ((n : Int) == (n : Int)) = true := by simp
    have HT : Hid (StrV B w (.slice a n c) l) := h
    have HT' : Hid (StrV B' w (.slice a' n c') l') := h'
    have HL : Hid (n = l.length ∧ n = l'.length) := ⟨hl, hl'⟩
    clear h h' hl hl'
    go_enter Tryz.func35, Tryz.ntmps35
    go_wp2_with fail
    go_loopg [5] n (fun g u5 wr => ∃ i q : Nat, i ≤ n ∧ n - i ≤ g ∧ u5 = .int .i64 i ∧ wr = w.drewN q ∧ Hid (∀ j (h1 : j < l.length) (h2 : j < l'.length), j < i → l[j] = l'[j]))
    case atStart => exact ⟨0, 0, Nat.zero_le _, Nat.le_refl _, rfl, rfl, fun j _ _ hj => by omega⟩
    case round =>
      obtain ⟨i, q, hi, hg, rfl, rfl, HX⟩ := hrel
      by_cases hlt : i < n
      · have z1 : (i : Int) < (n : Int) := by omega
        have z0 : (0 : Int) ≤ (i : Int) := by omega
        have b1 : i < l.length := by rw [← HL.out.1]; exact hlt
        have b2 : i < l'.length := by rw [← HL.out.2]; exact hlt
        obtain ⟨g1, o1, rfl, ht1⟩ := HT.out.get b1
        obtain ⟨g2, o2, rfl, ht2⟩ := HT'.out.get b2
        generalize hx : l[i] = x at *
        generalize hy : l'[i] = y at *
        have HXY : Hid (l[i] = x ∧ l'[i] = y) := ⟨hx, hy⟩
        clear hx hy
        by_cases he : x = y
        · have k2 := str_eq he
          go_wp2_with fail
          go_quiet (fail)
          go_wp2_with fail
          go_roundg (n - (i + 1))
          case measure => omega
          case rel => exact ⟨i + 1, _, by omega, Nat.le_refl _, by go_num, rfl, fun j h1 h2 hj => by
            rcases Nat.lt_or_ge j i with h | h
            · exact HX.out j h1 h2 h
            · have e : j = i := by omega
              subst e
              rw [HXY.out.1, HXY.out.2, he]⟩
        · have k2 := str_ne he
          go_wp2_with fail
          go_quiet (fail)
          go_wp2_with fail
          go_ret
          exact ⟨ret_bool (decide_eq_false fun e => he (by rw [← HXY.out.1, ← HXY.out.2]; simp [e])).symm, bthen (below_dn _ _) (below_dn _ _)⟩
      · have z1 : ¬ (i : Int) < (n : Int) := by omega
        go_wp2_with fail
        go_ret
        refine ⟨ret_bool (decide_eq_true ?_).symm, below_dn _ _⟩
        have e1 := HL.out.1
        have e2 := HL.out.2
        exact take_eq (by omega) fun j h1 h2 => HX.out j h1 h2 (by omega)
  · have k0 : ((n : Int) == (n' : Int)) = false := nat_bne hne
    have HNE : Hid (l ≠ l') := fun e => hne (by rw [hl, hl', e])
    clear h h' hl hl'
    go_enter Tryz.func35, Tryz.ntmps35
    go_wp2_with fail
    go_ret
    exact ⟨ret_bool (decide_eq_false HNE.out).symm, Below.refl _ _⟩
theorem bool_eq {a b : Bool} (h : a = b) : (a == b) = true := by subst h; simp
theorem bool_ne {a b : Bool} (h : a ≠ b) : (a == b) = false := by simpa using h
set_option maxRecDepth 100000 in
set_option maxHeartbeats 2000000 in
theorem bools_any {B B' : BQ} {w : World} {a a' : Option Addr} {n n' c c' : Nat} {l l' : List Bool} (h : BooV B w (.slice a n c) l) (h' : BooV B' w (.slice a' n' c') l') : Calls Tryz.prog 36 #[.slice a n c, .slice a' n' c'] w fun e w' => e = .returned (.bool (decide (l = l'))) ∧ Below w.heap.size w w' := by
  have hl := h.len
  have hl' := h'.len
  have hm := h.max
  by_cases hne : n = n'
  · subst hne
    have k0 : ((n : Int) == (n : Int)) = true := by simp
    have HT : Hid (BooV B w (.slice a n c) l) := h
    have HT' : Hid (BooV B' w (.slice a' n c') l') := h'
    have HL : Hid (n = l.length ∧ n = l'.length) := ⟨hl, hl'⟩
    clear h h' hl hl'
    go_enter Tryz.func36, Tryz.ntmps36
    go_wp2_with fail
    go_loopg [5] n (fun g u5 wr => ∃ i q : Nat, i ≤ n ∧ n - i ≤ g ∧ u5 = .int .i64 i ∧ wr = w.drewN q ∧ Hid (∀ j (h1 : j < l.length) (h2 : j < l'.length), j < i → l[j] = l'[j]))
    case atStart => exact ⟨0, 0, Nat.zero_le _, Nat.le_refl _, rfl, rfl, fun j _ _ hj => by omega⟩
    case round =>
      obtain ⟨i, q, hi, hg, rfl, rfl, HX⟩ := hrel
      by_cases hlt : i < n
      · have z1 : (i : Int) < (n : Int) := by omega
        have z0 : (0 : Int) ≤ (i : Int) := by omega
        have b1 : i < l.length := by rw [← HL.out.1]; exact hlt
        have b2 : i < l'.length := by rw [← HL.out.2]; exact hlt
        obtain ⟨g1, o1, rfl, ht1⟩ := HT.out.get b1
        obtain ⟨g2, o2, rfl, ht2⟩ := HT'.out.get b2
        generalize hx : l[i] = x at *
        generalize hy : l'[i] = y at *
        have HXY : Hid (l[i] = x ∧ l'[i] = y) := ⟨hx, hy⟩
        clear hx hy
        by_cases he : x = y
        · have k2 := bool_eq he
          go_wp2_with fail
          go_quiet (fail)
          go_wp2_with fail
          go_roundg (n - (i + 1))
          case measure => omega
          case rel => exact ⟨i + 1, _, by omega, Nat.le_refl _, by go_num, rfl, fun j h1 h2 hj => by
            rcases Nat.lt_or_ge j i with h | h
            · exact HX.out j h1 h2 h
            · have e : j = i := by omega
              subst e
              rw [HXY.out.1, HXY.out.2, he]⟩
        · have k2 := bool_ne he
          go_wp2_with fail
          go_quiet (fail)
          go_wp2_with fail
          go_ret
          exact ⟨ret_bool (decide_eq_false fun e => he (by rw [← HXY.out.1, ← HXY.out.2]; simp [e])).symm, bthen (below_dn _ _) (below_dn _ _)⟩
      · have z1 : ¬ (i : Int) < (n : Int) := by omega
        go_wp2_with fail
        go_ret
        refine ⟨ret_bool (decide_eq_true ?_).symm, below_dn _ _⟩
        have e1 := HL.out.1
        have e2 := HL.out.2
        exact take_eq (by omega) fun j h1 h2 => HX.out j h1 h2 (by omega)
  · have k0 : ((n : Int) == (n' : Int)) = false := nat_bne hne
    have HNE : Hid (l ≠ l') := fun e => hne (by rw [hl, hl', e])
    clear h h' hl hl'
    go_enter Tryz.func36, Tryz.ntmps36
    go_wp2_with fail
    go_ret
    exact ⟨ret_bool (decide_eq_false HNE.out).symm, Below.refl _ _⟩
end Go.Proofs.YtfkkhabpnnealaaGreatDoor.T8

