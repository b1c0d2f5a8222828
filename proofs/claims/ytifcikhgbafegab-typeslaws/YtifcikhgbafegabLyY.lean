/-
  The pieces of texts in plain Lean.
-/
import Derived.Test.YtifcikhgbafegabTiw
import Derived.Test.YtifcikhgbafegabFri
import Derived.Test.YtifcikhgbafegabSgX
import Derived.Test.YtifcikhgbafegabLyX
import Derived.Test.YtifcikhgbafegabShp
import Derived.Test.YtifcikhgbafegabAwl
namespace Go.Proofs.Ytifcikhgbafegab
def pq (p : Pnd) : Pc := .typ p.b p.o p.t
/-- types in a row, with a text between -/
def tellQ (s : ByteArray) : List Pnd → List Pc
  | [] => []
  | p :: r => pq p :: r.flatMap fun q => [.txt s, pq q]
theorem tellQ_e (s : ByteArray) (l : List Pnd) : (tellQ s l).map Pc.e = tellP s (l.map Pnd.a) := by
  cases l with
  | nil => rfl
  | cons p r =>
    simp only [tellQ, tellP, List.map_cons, List.map_flatMap, List.flatMap_map, List.map_nil]
    rfl
theorem tail_tx (s : ByteArray) (r : List Pnd) : (r.flatMap fun q => [Pc.txt s, pq q]).flatMap Pc.tx = joinF (LB s) false (r.map fun p => p.t.txt) := by
  induction r with
  | nil => rfl
  | cons p r ih => simp only [List.flatMap_cons, List.flatMap_append, ih, List.map_cons, joinF]; simp [Pc.tx, pq]
theorem tellQ_tx (s : ByteArray) (l : List Pnd) : (tellQ s l).flatMap Pc.tx = joinF (LB s) true (l.map fun p => p.t.txt) := by
  cases l with
  | nil => rfl
  | cons p r => simp only [tellQ, List.flatMap_cons, tail_tx, List.map_cons, joinF]; simp [Pc.tx, pq]
/-- how much a type weighs -/
def wg2 (t : Ty) : Nat := 40 * t.cnt - 20
theorem wg2_eq (t : Ty) : wg2 t + 20 = 40 * t.cnt := by have := t.cnt_eq; unfold wg2; omega
theorem tail_w (s : ByteArray) (r : List Pnd) : wgL wg2 (r.flatMap fun q => [Pc.txt s, pq q]) + 19 * r.length = 40 * cntL (r.map Pnd.t) := by
  induction r with
  | nil => rfl
  | cons p r ih =>
    have := wg2_eq p.t
    rw [List.flatMap_cons, wgL_append, List.map_cons, cntL_cons, List.length_cons]
    have e : wgL wg2 [Pc.txt s, pq p] = 1 + wg2 p.t := by simp [wgL, Pc.wt, pq]
    omega
theorem tellQ_w (s : ByteArray) (l : List Pnd) : wgL wg2 (tellQ s l) + 19 * l.length ≤ 40 * cntL (l.map Pnd.t) := by
  cases l with
  | nil => simp [tellQ, wgL]
  | cons p r =>
    have := wg2_eq p.t
    have := tail_w s r
    rw [List.map_cons, cntL_cons, List.length_cons]
    have e : wgL wg2 (tellQ s (p :: r)) = wg2 p.t + wgL wg2 (r.flatMap fun q => [Pc.txt s, pq q]) := by simp [tellQ, wgL, Pc.wt, pq]
    omega
theorem tellQ_ok {G : Ty → Prop} {D : BQ} {W : World} {s : ByteArray} {l : List Pnd} (h : ∀ p ∈ l, (pq p).ok G D W) : ∀ q ∈ tellQ s l, q.ok G D W := by
  intro q hq
  cases l with
  | nil => cases hq
  | cons p r =>
    simp only [tellQ, List.mem_cons, List.mem_flatMap] at hq
    rcases hq with rfl | ⟨x, hx, hq⟩
    · exact h p (by simp)
    · rcases hq with rfl | rfl | hq
      · trivial
      · exact h x (by simp [hx])
      · cases hq
theorem txtL_map (l : List Ty) : txtL l = l.map Ty.txt := by induction l with | nil => rfl | cons x r ih => simp [txtL, ih]
theorem kidP_txt (kb : Nat) : ∀ (l : List Ty) (o : Nat), ((kidP kb l o).map fun p => p.t.txt) = l.map Ty.txt
  | [], _ => rfl
  | x :: r, o => by simp [kidP, kidP_txt kb r]
theorem joinF_snoc (sep : Bs) (l : List Bs) (x : Bs) (f : Bool) : joinF sep f (l ++ [x]) = joinF sep f l ++ (if l = [] ∧ f = true then [] else sep) ++ x := by
  induction l generalizing f with
  | nil => cases f <;> simp [joinF]
  | cons y r ih => simp [joinF, ih false]
/-- the pieces of a function's text without func -/
def sgQ (f : Bool) (N kb ko : Nat) (ks : List Ty) (sb so : Nat) (el : Ty) : List Pc :=
  [.txt ⟨#[40]⟩] ++ (if f then tellQ ⟨#[44, 32]⟩ (kidP kb (ks.take (N - 1)) ko) ++ (if 1 < N then [.txt ⟨#[44, 32]⟩] else []) ++ [.txt ⟨#[46, 46, 46]⟩] ++ [.typ sb so el] else tellQ ⟨#[44, 32]⟩ (kidP kb (ks.take N) ko)) ++ [.txt ⟨#[41]⟩] ++
    (if ks.length - N = 0 then [] else if ks.length - N = 1 then [.txt ⟨#[32]⟩] ++ tellQ ⟨#[]⟩ (kidP kb (ks.drop N) (ko + N * 7)) else [.txt ⟨#[32]⟩, .txt ⟨#[40]⟩] ++ tellQ ⟨#[44, 32]⟩ (kidP kb (ks.drop N) (ko + N * 7)) ++ [.txt ⟨#[41]⟩])
theorem sgQ_e {f : Bool} {N kb ko sb so : Nat} {ks : List Ty} {el : Ty} (hN : N ≤ ks.length) : (sgQ f N kb ko ks sb so el).map Pc.e = sgP f N ks.length kb ko ⟨sb, so, none⟩ := by
  unfold sgQ sgP
  have h1 : min N ks.length = N := by omega
  have h2 : min (N - 1) ks.length = N - 1 := by omega
  have h3 : (ks.length - N = 1) → tellP ⟨#[]⟩ (kidA kb (ko + N * 7) (ks.length - N)) = [ty ⟨kb, ko + N * 7, none⟩] := fun h => by rw [h, kidA_one]; rfl
  simp only [List.map_append, List.map_cons, List.map_nil]
  congr 1
  · congr 2
    cases f
    · simp [tellQ_e, kidP_a, h1]
    · simp only [if_true, List.map_append, tellQ_e, kidP_a, List.length_take, h2]
      by_cases h : 1 < N
      · simp [h, Pc.e]
      · simp [h, Pc.e]
  · by_cases h0 : ks.length - N = 0
    · simp [h0]
    · rw [if_neg h0, if_neg h0]
      by_cases h4 : ks.length - N = 1
      · rw [if_pos h4, if_pos h4]
        simp only [List.map_append, tellQ_e, kidP_a, List.length_drop, h3 h4]
        rfl
      · rw [if_neg h4, if_neg h4]
        simp only [List.map_append, tellQ_e, kidP_a, List.length_drop]
        rfl
end Go.Proofs.Ytifcikhgbafegab

/-
  A function's pieces say its text.
-/
namespace Go.Proofs.Ytifcikhgbafegab
open Go.RowKit
theorem dots_snoc (ks : List Int) (p : List Bs) (x : Bs) : dots ks (p ++ [x]) = p ++ [if ks[p.length]? = some 11 then [46, 46, 46] ++ ([46, 46, 46] ++ x).drop 5 else [46, 46, 46] ++ x] := by
  unfold dots
  rw [List.reverse_append]
  simp
theorem one_tx (k : Int) (hk : k = 10 ∨ k = 11 ∨ k = 12) (t el : Ty) (ht : t.kind = k) (he : t.kids = [el]) : t.txt = LB (if k = 10 then ⟨#[42]⟩ else if k = 11 then ⟨#[91, 93]⟩ else ⟨#[99, 104, 97, 110, 32]⟩) ++ el.txt := by
  obtain ⟨k', nm, n, f, ns, ms, ks⟩ := t
  simp only [Ty.kind, Ty.kids] at ht he
  subst ht he
  rcases hk with rfl | rfl | rfl <;> simp [Ty.txt, txK, txtL, joinF, LB]
theorem sgQ_tx {f : Bool} {N kb ko sb so : Nat} {ks : List Ty} {el : Ty} (hN : N ≤ ks.length) (hf : f = true → 1 ≤ N ∧ ∃ s, ks[N - 1]? = some s ∧ s.kind = 11 ∧ s.kids = [el]) : (sgQ f N kb ko ks sb so el).flatMap Pc.tx = sgB N f (kdL ks) (txtL ks) := by
  unfold sgQ sgB
  rw [List.flatMap_append, List.flatMap_append, List.flatMap_append, txtL_map]
  congr 1
  · congr 1
    congr 1
    cases f with
    | false => simp only [Bool.false_eq_true, if_false, tellQ_tx, kidP_txt, List.map_take]; rfl
    | true =>
      obtain ⟨h1, s, hs, h11, hk⟩ := hf rfl
      obtain ⟨M, rfl⟩ : ∃ M, N = M + 1 := ⟨N - 1, by omega⟩
      rw [Nat.add_sub_cancel] at hs
      simp only [if_true, Nat.add_sub_cancel, List.flatMap_append, tellQ_tx, kidP_txt]
      have e1 : (ks.map Ty.txt).take (M + 1) = (ks.take M).map Ty.txt ++ [s.txt] := by
        rw [List.take_add_one, List.getElem?_map, hs, List.map_take]; rfl
      have hl : ((ks.take M).map Ty.txt).length = M := by simp; omega
      rw [e1, dots_snoc, hl, kdL_get, hs, one_tx 11 (by decide) s el h11 hk, joinF_snoc]
      have e2 : LB (if (11 : Int) = 10 then ⟨#[42]⟩ else if (11 : Int) = 11 then ⟨#[91, 93]⟩ else ⟨#[99, 104, 97, 110, 32]⟩) = [91, 93] := by decide
      rw [e2]
      by_cases hM : M = 0
      · subst hM
        simp [Pc.tx, LB, h11, joinF]
      · simp [Pc.tx, LB, h11, show 0 < M by omega, hM, show ¬ ks = [] by rintro rfl; simp at hN]
  · by_cases h0 : ks.length - N = 0
    · rw [if_pos h0, List.drop_eq_nil_of_le (by simp; omega)]
      rfl
    · rw [if_neg h0]
      by_cases h4 : ks.length - N = 1
      · rw [if_pos h4]
        obtain ⟨x, hx⟩ := List.length_eq_one_iff.1 (show (ks.drop N).length = 1 by simp; omega)
        rw [← List.map_drop, hx]
        simp [kidP, tellQ, pq, Pc.tx, LB]
      · rw [if_neg h4]
        obtain ⟨x, y, r, hx⟩ : ∃ x y r, ks.drop N = x :: y :: r := by
          cases hd : ks.drop N with
          | nil => have := congrArg List.length hd; simp at this; omega
          | cons x r => cases r with
            | nil => have := congrArg List.length hd; simp at this; omega
            | cons y r => exact ⟨x, y, r, rfl⟩
        rw [← List.map_drop, hx]
        simp only [List.flatMap_append, tellQ_tx, kidP_txt]
        simp [Pc.tx, LB]
theorem cntL_split (ks : List Ty) (N : Nat) : cntL (ks.take N) + cntL (ks.drop N) = cntL ks := by rw [← cntL_append, List.take_append_drop]
theorem kidP_w (s : ByteArray) (kb : Nat) (l : List Ty) (o : Nat) : wgL wg2 (tellQ s (kidP kb l o)) ≤ 40 * cntL l := by
  have := tellQ_w s (kidP kb l o)
  rw [kidP_t] at this
  omega
theorem sgQ_w {f : Bool} {N kb ko sb so : Nat} {ks : List Ty} {el : Ty} (hf : f = true → 1 ≤ N ∧ ∃ s, ks[N - 1]? = some s ∧ s.kind = 11 ∧ s.kids = [el]) : wgL wg2 (sgQ f N kb ko ks sb so el) ≤ 40 * cntL ks + 8 := by
  unfold sgQ
  rw [wgL_append, wgL_append, wgL_append]
  have hsp := cntL_split ks N
  have h2 : wgL wg2 (if ks.length - N = 0 then [] else if ks.length - N = 1 then [.txt ⟨#[32]⟩] ++ tellQ ⟨#[]⟩ (kidP kb (ks.drop N) (ko + N * 7)) else [.txt ⟨#[32]⟩, .txt ⟨#[40]⟩] ++ tellQ ⟨#[44, 32]⟩ (kidP kb (ks.drop N) (ko + N * 7)) ++ [.txt ⟨#[41]⟩]) ≤ 40 * cntL (ks.drop N) + 3 := by
    have a1 := kidP_w ⟨#[]⟩ kb (ks.drop N) (ko + N * 7)
    have a2 := kidP_w ⟨#[44, 32]⟩ kb (ks.drop N) (ko + N * 7)
    split
    · simp [wgL]
    · split
      · rw [wgL_append]; simp only [wgL, Pc.wt]; omega
      · rw [wgL_append, wgL_append]; simp only [wgL, Pc.wt]; omega
  have h1 : wgL wg2 (if f then tellQ ⟨#[44, 32]⟩ (kidP kb (ks.take (N - 1)) ko) ++ (if 1 < N then [.txt ⟨#[44, 32]⟩] else []) ++ [.txt ⟨#[46, 46, 46]⟩] ++ [.typ sb so el] else tellQ ⟨#[44, 32]⟩ (kidP kb (ks.take N) ko)) ≤ 40 * cntL (ks.take N) + 2 := by
    cases f with
    | false => have := kidP_w ⟨#[44, 32]⟩ kb (ks.take N) ko; simp only [Bool.false_eq_true, if_false]; omega
    | true =>
      obtain ⟨h1, s, hs, _, hk⟩ := hf rfl
      obtain ⟨M, rfl⟩ : ∃ M, N = M + 1 := ⟨N - 1, by omega⟩
      rw [Nat.add_sub_cancel] at hs
      have a1 := kidP_w ⟨#[44, 32]⟩ kb (ks.take M) ko
      have a2 : cntL (ks.take (M + 1)) = cntL (ks.take M) + s.cnt := by rw [List.take_add_one, hs, cntL_append]; simp [cntL]
      have a3 : s.cnt = el.cnt + 1 := by rw [s.cnt_eq, hk]; simp [cntL]
      have a4 := wg2_eq el
      have a5 : wgL wg2 (if 1 < M + 1 then [Pc.txt ⟨#[44, 32]⟩] else []) ≤ 1 := by split <;> simp [wgL, Pc.wt]
      simp only [if_true, Nat.add_sub_cancel, wgL_append]
      have a6 : wgL wg2 [Pc.txt ⟨#[46, 46, 46]⟩] = 1 := rfl
      have a7 : wgL wg2 [Pc.typ sb so el] = wg2 el := by simp [wgL, Pc.wt]
      omega
  have e1 : wgL wg2 [Pc.txt ⟨#[40]⟩] = 1 := rfl
  have e2 : wgL wg2 [Pc.txt ⟨#[41]⟩] = 1 := rfl
  omega
theorem kidP_ok {G : Ty → Prop} {D : BQ} {W : World} {kb ko : Nat} {ks : List Ty} (hk : ∀ i (hi : i < ks.length), G ks[i] ∧ D kb ∧ (ks[i]).lies D W kb (ko + i * 7)) : ∀ p ∈ kidP kb ks ko, (pq p).ok G D W := by
  intro p hp
  obtain ⟨i, hi, rfl⟩ := kidP_mem _ _ hp
  exact hk i hi
theorem sgQ_ok {G : Ty → Prop} {D : BQ} {W : World} {f : Bool} {N kb ko sb so : Nat} {ks : List Ty} {el : Ty} (hk : ∀ i (hi : i < ks.length), G ks[i] ∧ D kb ∧ (ks[i]).lies D W kb (ko + i * 7)) (hf : f = true → (Pc.typ sb so el).ok G D W) : ∀ p ∈ sgQ f N kb ko ks sb so el, p.ok G D W := by
  have hT : ∀ m, ∀ p ∈ kidP kb (ks.take m) ko, (pq p).ok G D W := fun m => kidP_ok fun i hi => by
    have hi' : i < ks.length := by rw [List.length_take] at hi; omega
    rw [List.getElem_take]; exact hk i hi'
  have hD : ∀ p ∈ kidP kb (ks.drop N) (ko + N * 7), (pq p).ok G D W := kidP_ok fun i hi => by
    have hi' : N + i < ks.length := by rw [List.length_drop] at hi; omega
    rw [List.getElem_drop]
    have := hk (N + i) hi'
    rwa [show ko + N * 7 + i * 7 = ko + (N + i) * 7 by omega]
  have tk : ∀ (s : ByteArray), (Pc.txt s).ok G D W := fun _ => trivial
  intro p hp
  unfold sgQ at hp
  simp only [List.mem_append] at hp
  rcases hp with ((hp | hp) | hp) | hp
  · obtain rfl := List.mem_singleton.1 hp; trivial
  · cases f with
    | false => exact tellQ_ok (hT N) p (by simpa using hp)
    | true =>
      simp only [if_true, List.mem_append] at hp
      rcases hp with ((hp | hp) | hp) | hp
      · exact tellQ_ok (hT _) p hp
      · split at hp
        · obtain rfl := List.mem_singleton.1 hp; trivial
        · cases hp
      · obtain rfl := List.mem_singleton.1 hp; trivial
      · obtain rfl := List.mem_singleton.1 hp; exact hf rfl
  · obtain rfl := List.mem_singleton.1 hp; trivial
  · split at hp
    · cases hp
    · split at hp
      · rcases List.mem_append.1 hp with hp | hp
        · obtain rfl := List.mem_singleton.1 hp; trivial
        · exact tellQ_ok hD p hp
      · rcases List.mem_append.1 hp with hp | hp
        · rcases List.mem_append.1 hp with hp | hp
          · rcases List.mem_cons.1 hp with rfl | hp
            · trivial
            · obtain rfl := List.mem_singleton.1 hp; trivial
          · exact tellQ_ok hD p hp
        · obtain rfl := List.mem_singleton.1 hp; trivial
end Go.Proofs.Ytifcikhgbafegab

/-
  signature at a type in memory; the pieces of members.
-/
namespace Go.Proofs.Ytifcikhgbafegab
open Go.RowKit
theorem kids_row {B : BQ} {W : World} {v : Value} {ks : List Ty} (h : SlT B W v ks) : ∃ a c kb ko, v = .slice a ks.length c ∧ (0 < ks.length → a = some ⟨kb, ko, none⟩ ∧ B kb ∧ kb < W.heap.size) ∧ ∀ i (hi : i < ks.length), (ks[i]).lies B W kb (ko + i * 7) := by
  rcases h with ⟨a, c, rfl, rfl⟩ | ⟨b, o, c, rfl, hl, hb1, hb, hL⟩
  · exact ⟨a, c, 0, 0, rfl, fun h => absurd h (by simp), fun i hi => absurd hi (by simp)⟩
  · exact ⟨_, c, b, o, rfl, fun _ => ⟨rfl, hb, hb1⟩, fun i hi => liesT_get hL i hi⟩
/-- cells of old blocks while a line grows -/
theorem LQ.old {w w1 v : World} {L : Nat} {ps : List ElQ} (h : LQ w1 L none ps v) (hb : Below w.heap.size w w1) (hL : w.heap.size ≤ L) {a : Addr} {u : Value} (hu : w.cell? a = some u) : v.cell? a = some u :=
  h.cell (kept_cell hb hu) (by have := World.block_lt_of_cell? _ _ hu; omega) (by simp)
theorem sig_lay {D : BQ} {w : World} {b o : Nat} {t : Ty} (hs : Shp t) (h13 : t.kind = 13) (hl : t.lies D w b o) : ∃ pcs : List Pc, pcs.flatMap Pc.tx = t.sgt ∧ wgL wg2 pcs + 32 ≤ 40 * t.cnt ∧ (∀ p ∈ pcs, p.ok Shp D w) ∧
    ∀ (w1 : World) (L : Nat) (ps : List ElQ) (v : World), Below w.heap.size w w1 → w.heap.size ≤ L → LQ w1 L none ps v → ps.length + 2 * t.cnt + 20 ≤ 1000000 → Calls Try.prog 39 #[.pointer (some ⟨L, 0, none⟩), pv ⟨b, o, none⟩] v fun e w' => (∃ u, e = .returned u) ∧ LQ w1 L none (ps ++ pcs.map Pc.e) w' := by
  obtain ⟨c0, c1, c2, c3, vn, vm, vk, c4, c5, c6, hp⟩ := lies_iff.1 hl
  obtain ⟨n0, nk, nf⟩ := hs.hd.fn h13
  obtain ⟨N, hN⟩ : ∃ N : Nat, t.n = (N : Int) := ⟨t.n.toNat, by omega⟩
  rw [hN] at c2 nk nf
  obtain ⟨a, c, kb, ko, rfl, hka, hkl⟩ := kids_row hp.ks
  have hNk : N ≤ t.kids.length := by omega
  have hcn := t.cnt_eq
  have hkn := cntL_len t.kids
  have hex : ∃ sb so sc el, t.flag = true → (1 ≤ N ∧ ∃ s, t.kids[N - 1]? = some s ∧ s.kind = 11 ∧ s.kids = [el]) ∧ kb < w.heap.size ∧ w.cell? ⟨kb, ko + (N - 1) * 7, none⟩ = some (.int .i64 11) ∧ w.cell? ⟨kb, ko + (N - 1) * 7 + 6, none⟩ = some (.slice (some ⟨sb, so, none⟩) 1 sc) ∧ (Pc.typ sb so el).ok Shp D w := by
    by_cases hf : t.flag = true
    · obtain ⟨h1, x, hx, hx11⟩ := nf hf
      have hx' : t.kids[N - 1]? = some x := by rw [← hx]; congr 1; omega
      have hlt : N - 1 < t.kids.length := (List.getElem?_eq_some_iff.1 hx').1
      have hxe : t.kids[N - 1] = x := (List.getElem?_eq_some_iff.1 hx').2
      have hxl := hkl (N - 1) hlt
      rw [hxe] at hxl
      have hxs : Shp x := hs.kids x (by rw [← hxe]; exact List.getElem_mem _)
      obtain ⟨el, he⟩ := List.length_eq_one_iff.1 (hxs.hd.ptr (.inr (.inl hx11)))
      obtain ⟨d0, -, -, -, un, um, uk, -, -, d6, hq⟩ := lies_iff.1 hxl
      obtain ⟨a2, sc, sb, so, rfl, hka2, hkl2⟩ := kids_row hq.ks
      have hl1 : x.kids.length = 1 := by rw [he]; rfl
      obtain ⟨rfl, hDs, hsw⟩ := hka2 (by omega)
      rw [hx11] at d0
      rw [hl1] at d6
      have hel := hkl2 0 (by omega)
      simp only [he, List.getElem_cons_zero, Nat.zero_mul, Nat.add_zero] at hel
      exact ⟨sb, so, sc, el, fun _ => ⟨⟨by omega, x, hx', hx11, he⟩, (hka (by omega)).2.2, d0, d6, hxs.kids el (by rw [he]; simp), hDs, hel⟩⟩
    · exact ⟨0, 0, 0, t, fun h => absurd h hf⟩
  obtain ⟨sb, so, sc, el, hex⟩ := hex
  refine ⟨sgQ t.flag N kb ko t.kids sb so el, ?_, ?_, ?_, ?_⟩
  · rw [sgQ_tx hNk (fun h => (hex h).1)]
    cases t
    simp only [Ty.n, Ty.flag, Ty.kids] at hN ⊢
    rw [Ty.sgt, hN]
    rfl
  · have := sgQ_w (kb := kb) (ko := ko) (sb := sb) (so := so) (fun h => (hex h).1)
    omega
  · exact sgQ_ok (fun i hi => ⟨hs.kids _ (List.getElem_mem _), (hka (by omega)).2.1, hkl i hi⟩) (fun h => (hex h).2.2.2.2)
  · intro w1 L ps v hb hL hq hm
    obtain ⟨rb1, hln, hr⟩ := hq.ex
    have hz := hb.size
    have hne : ∀ c, c < w.heap.size → c ≠ L ∧ rb1 ≠ some c := fun c hc => ⟨by omega, fun e => by
      rcases hr c e with h | h
      · cases h
      · omega⟩
    have hbw : b < w.heap.size := World.block_lt_of_cell? _ _ c0
    refine (sig_any (kb := kb) (ko := ko) (sb := sb) (so := so) (sc := sc) hln (hne b hbw).1 (hne b hbw).2 (hq.old hb hL c2) (hq.old hb hL c3) (hq.old hb hL c6) (fun h => (hka h).1) hNk (by omega) (fun h => ?_)).mono ?_
    · obtain ⟨g1, g2, g3, g4, _⟩ := hex h
      exact ⟨g1.1, (hne kb g2).1, (hne kb g2).2, hq.old hb hL g3, hq.old hb hL g4⟩
    · rintro e w' ⟨he, hq'⟩
      refine ⟨he, ?_⟩
      rw [sgQ_e hNk]
      exact LQ.then hr hq.kx hq'
theorem pick {P : Nat → List Pc → Prop} {n : Nat} (H : ∀ j, j < n → ∃ l, P j l) : ∃ fq : Nat → List Pc, ∀ j, j < n → P j (fq j) :=
  ⟨fun j => if h : j < n then Classical.choose (H j h) else [], fun j hj => by
    have := Classical.choose_spec (H j hj)
    simpa [hj] using this⟩
/-- the pieces of members -/
def memQ (fq : Nat → List Pc) (i : Nat) : List Pc := (List.range i).flatMap fun j => (if j = 0 then [] else [.txt ⟨#[59]⟩]) ++ [.txt ⟨#[32]⟩] ++ fq j
theorem memQ_succ (fq : Nat → List Pc) (i : Nat) : memQ fq (i + 1) = memQ fq i ++ ((if i = 0 then [] else [.txt ⟨#[59]⟩]) ++ [.txt ⟨#[32]⟩] ++ fq i) := by simp [memQ, List.range_succ, List.flatMap_append]
theorem memQ_e (fq : Nat → List Pc) (n : Nat) : (memQ fq n).map Pc.e = memP (fun j => (fq j).map Pc.e) n := by
  induction n with
  | zero => rfl
  | succ n ih =>
    rw [memQ_succ, memP_succ, List.map_append, ih, List.map_append, List.map_append]
    congr 3
    split <;> rfl
theorem memQ_tx {fq : Nat → List Pc} {X : Nat → Bs} {n : Nat} (h : ∀ j, j < n → (fq j).flatMap Pc.tx = X j) : (memQ fq n).flatMap Pc.tx = if n = 0 then [] else [32] ++ joinF [59, 32] true ((List.range n).map X) := by
  induction n with
  | zero => rfl
  | succ n ih =>
    rw [memQ_succ, List.flatMap_append, ih (fun j hj => h j (by omega)), List.flatMap_append, List.flatMap_append, h n (by omega), List.range_succ, List.map_append, List.map_cons, List.map_nil, joinF_snoc]
    by_cases hn : n = 0
    · subst hn; simp [joinF, Pc.tx, LB]
    · simp [hn, Pc.tx, LB]
theorem memQ_w {fq : Nat → List Pc} {ks : List Ty} {n : Nat} (hn : n ≤ ks.length) (h : ∀ j (hj : j < n), wgL wg2 (fq j) + 12 ≤ 40 * (ks[j]'(by omega)).cnt) : wgL wg2 (memQ fq n) + 10 * n ≤ 40 * cntL (ks.take n) := by
  induction n with
  | zero => simp [memQ, wgL]
  | succ n ih =>
    have h1 := ih (by omega) (fun j hj => h j (by omega))
    have h2 := h n (by omega)
    have h3 : cntL (ks.take (n + 1)) = cntL (ks.take n) + (ks[n]'(by omega)).cnt := by rw [List.take_add_one, List.getElem?_eq_getElem (by omega), cntL_append]; simp [cntL]
    have h4 : wgL wg2 (if n = 0 then [] else [Pc.txt ⟨#[59]⟩]) ≤ 1 := by split <;> simp [wgL, Pc.wt]
    have h5 : wgL wg2 [Pc.txt ⟨#[32]⟩] = 1 := rfl
    rw [memQ_succ, wgL_append, wgL_append, wgL_append]
    omega
theorem memQ_ok {G : Ty → Prop} {D : BQ} {W : World} {fq : Nat → List Pc} {n : Nat} (h : ∀ j, j < n → ∀ p ∈ fq j, p.ok G D W) : ∀ p ∈ memQ fq n, p.ok G D W := by
  intro p hp
  obtain ⟨j, hj, hp⟩ := List.mem_flatMap.1 hp
  rcases List.mem_append.1 hp with hp | hp
  · rcases List.mem_append.1 hp with hp | hp
    · split at hp
      · cases hp
      · obtain rfl := List.mem_singleton.1 hp; trivial
    · obtain rfl := List.mem_singleton.1 hp; trivial
  · exact h j (List.mem_range.1 hj) p hp
theorem wg_len (l : List Pc) : l.length ≤ wgL wg2 l := by
  induction l with
  | nil => simp
  | cons p r ih =>
    have : 0 < p.wt wg2 := by
      cases p with
      | txt s => simp [Pc.wt]
      | typ b o t => have := wg2_eq t; have := t.cnt_eq; simp only [Pc.wt]; omega
    simp only [wgL, List.length_cons]; omega
end Go.Proofs.Ytifcikhgbafegab

/-
  Every shaped type can be laid.
-/
namespace Go.Proofs.Ytifcikhgbafegab
open Go.RowKit
attribute [local go_sem ↓] Go.wp_at_zero Go.wp_at_succ
set_option maxRecDepth 100000 in
set_option maxHeartbeats 4000000 in
theorem lay_wordX {w : World} {L : Nat} {rb : Option Nat} {ps : List ElQ} {b o : Nat} {k : Int} (h : Ln w L rb ps) (h0 : w.cell? ⟨b, o, none⟩ = some (.int .i64 k)) (hk : 17 < k) (hm : ps.length + 1 ≤ 1000000) :
    Calls Try.prog 19 #[.pointer (some ⟨L, 0, none⟩), pv ⟨b, o, none⟩] w fun e w' => (∃ u, e = .returned u) ∧ LQ w L rb (ps ++ [tx (wrd k)]) w' := by
  have n8 : (k == 8) = false := int_bne (by omega)
  have n9 : (k == 9) = false := int_bne (by omega)
  have n10 : (k == 10) = false := int_bne (by omega)
  have n11 : (k == 11) = false := int_bne (by omega)
  have n12 : (k == 12) = false := int_bne (by omega)
  have n13 : (k == 13) = false := int_bne (by omega)
  have n14 : (k == 14) = false := int_bne (by omega)
  have n15 : (k == 15) = false := int_bne (by omega)
  have n16 : (k == 16) = false := int_bne (by omega)
  have n17 : (k == 17) = false := int_bne (by omega)
  have hw := word_any k w
  have HQ : Hid (LQ w L rb ps w) := LQ.refl h
  clear h hk
  go_enter Try.func19, Try.ntmps19
  go_wp2_with fail
  refine hw.mono ?_
  rintro e w1 ⟨rfl, hw1⟩
  obtain rfl := hw1.symm
  clear hw hw1
  go_wp2_with fail
  refine (HQ.out.put (wrd k) hm).mono ?_
  rintro e w2 ⟨⟨u2, rfl⟩, hq⟩
  have HQ2 : Hid _ := hq
  clear hq
  go_wp2_with fail
  go_end0
  exact ⟨⟨_, rfl⟩, HQ2.out⟩
theorem fldS_range : ∀ (ns : List Bs) (ms : List Bool) (ts : List Bs), ns.length = ts.length → ms.length = ts.length → fldS ns ms ts = (List.range ts.length).map fun j => if ms.getD j false = true then ts.getD j [] else ns.getD j [] ++ [32] ++ ts.getD j []
  | [], [], [], _, _ => rfl
  | [], _ :: _, _, h1, h2 => absurd (h1.trans h2.symm) (by simp)
  | _ :: _, [], _, h1, h2 => absurd (h1.trans h2.symm) (by simp)
  | nm :: ns, m :: ms, t :: ts, h1, h2 => by
    rw [List.length_cons, List.range_succ_eq_map, List.map_cons, List.map_map, fldS, fldS_range ns ms ts (by simpa using h1) (by simpa using h2)]
    congr 1
theorem fldI_range : ∀ (ns ss : List Bs), ns.length = ss.length → fldI ns ss = (List.range ss.length).map fun j => ns.getD j [] ++ ss.getD j []
  | [], [], _ => rfl
  | nm :: ns, s :: ss, h1 => by
    rw [List.length_cons, List.range_succ_eq_map, List.map_cons, List.map_map, fldI, fldI_range ns ss (by simpa using h1)]
    congr 1
theorem txt_eq (t : Ty) : t.txt = txK t.kind (LB t.name) t.n t.flag (t.names.map LB) t.marks (kdL t.kids) (txtL t.kids) (sgL t.kids) := by cases t; rw [Ty.txt]; rfl
theorem sgt_eq (t : Ty) : t.sgt = sgB t.n.toNat t.flag (kdL t.kids) (txtL t.kids) := by cases t; rw [Ty.sgt]; rfl
theorem wg2_cnt (t : Ty) : wg2 t = 40 * cntL t.kids + 20 := by have := t.cnt_eq; unfold wg2; omega
/-- what is asked of one type -/
def Lay1 (t : Ty) : Prop := ∀ (D : BQ) (w : World) (b o : Nat), D b → t.lies D w b o → ∃ pcs : List Pc, pcs.flatMap Pc.tx = t.txt ∧ wgL wg2 pcs < wg2 t ∧ (∀ p ∈ pcs, p.ok Shp D w) ∧
    ∀ (w1 : World) (L : Nat), Below w.heap.size w w1 → w.heap.size ≤ L → Ln w1 L none [] → wg2 t ≤ 1000000 → Calls Try.prog 19 #[.pointer (some ⟨L, 0, none⟩), pv ⟨b, o, none⟩] w1 fun e w' => (∃ u, e = .returned u) ∧ LQ w1 L none (pcs.map Pc.e) w'
theorem lay1_txt {t : Ty} {s : ByteArray} (h : t.txt = LB s) (hl : ∀ (D : BQ) (w : World) (b o : Nat), t.lies D w b o → ∀ (w1 : World) (L : Nat), Below w.heap.size w w1 → Ln w1 L none [] → Calls Try.prog 19 #[.pointer (some ⟨L, 0, none⟩), pv ⟨b, o, none⟩] w1 fun e w' => (∃ u, e = .returned u) ∧ LQ w1 L none ([] ++ [tx s]) w') : Lay1 t := by
  intro D w b o hD hl'
  refine ⟨[.txt s], by simp [Pc.tx, h], by rw [wg2_cnt]; simp [wgL, Pc.wt], fun p hp => by obtain rfl := List.mem_singleton.1 hp; trivial, fun w1 L hb _ hln _ => ?_⟩
  exact hl D w b o hl' w1 L hb hln
theorem lay1_one {t el : Ty} {sg : ByteArray} (hs : Shp t) (he : t.kids = [el]) (h : t.txt = LB sg ++ el.txt) (hl : ∀ (w1 : World) (L b o kb ko c : Nat), Ln w1 L none [] → b ≠ L → w1.cell? ⟨b, o, none⟩ = some (.int .i64 t.kind) → w1.cell? ⟨b, o + 6, none⟩ = some (.slice (some ⟨kb, ko, none⟩) 1 c) → Calls Try.prog 19 #[.pointer (some ⟨L, 0, none⟩), pv ⟨b, o, none⟩] w1 fun e w' => (∃ u, e = .returned u) ∧ LQ w1 L none ([] ++ [tx sg, ty ⟨kb, ko, none⟩]) w') : Lay1 t := by
  intro D w b o hD hl'
  obtain ⟨c0, -, -, -, vn, vm, vk, -, -, c6, hp⟩ := lies_iff.1 hl'
  obtain ⟨a, c, kb, ko, rfl, hka, hkl⟩ := kids_row hp.ks
  have hl1 : t.kids.length = 1 := by rw [he]; rfl
  obtain ⟨rfl, hDk, hkw⟩ := hka (by omega)
  rw [hl1] at c6
  have hel := hkl 0 (by omega)
  simp only [he, List.getElem_cons_zero, Nat.zero_mul, Nat.add_zero] at hel
  have hcw := wg2_cnt t
  have hce := wg2_eq el
  rw [he] at hcw
  simp only [cntL] at hcw
  have hbw : b < w.heap.size := World.block_lt_of_cell? _ _ c0
  refine ⟨[.txt sg, .typ kb ko el], by simp [Pc.tx, h], by simp only [wgL, Pc.wt]; omega, fun p hp => ?_, fun w1 L hb hL hln _ => ?_⟩
  · simp only [List.mem_cons, List.not_mem_nil, or_false] at hp
    rcases hp with rfl | rfl
    · trivial
    · exact ⟨hs.kids el (by rw [he]; simp), hDk, hel⟩
  · exact hl w1 L b o kb ko c hln (by omega) (kept_cell hb c0) (kept_cell hb c6)
theorem lay1_func {t : Ty} (hs : Shp t) (h13 : t.kind = 13) : Lay1 t := by
  intro D w b o hD hl
  obtain ⟨pcs, h1, h2, h3, h4⟩ := sig_lay hs h13 hl
  have hcw := wg2_cnt t
  have hcn := t.cnt_eq
  have c0 := (lies_iff.1 hl).1
  rw [h13] at c0
  refine ⟨.txt ⟨#[102, 117, 110, 99]⟩ :: pcs, ?_, by simp only [wgL, Pc.wt]; omega, fun p hp => ?_, fun w1 L hb hL hln hw => ?_⟩
  · rw [List.flatMap_cons, h1, txt_eq, sgt_eq, h13]
    rfl
  · rcases List.mem_cons.1 hp with rfl | hp
    · trivial
    · exact h3 p hp
  · refine lay_func hln (kept_cell hb c0) (by simp) (fun w2 hq2 => ?_)
    refine (h4 w1 L _ w2 hb hL hq2 (by simp; omega)).mono ?_
    rintro e w' ⟨he, hq'⟩
    refine ⟨he, ?_⟩
    simpa [Pc.e] using hq'
theorem lay1_union {t : Ty} (hs : Shp t) (h16 : t.kind = 16) : Lay1 t := by
  intro D w b o hD hl
  obtain ⟨c0, -, c2, -, vn, vm, vk, -, -, c6, hp⟩ := lies_iff.1 hl
  obtain ⟨a, c, kb, ko, rfl, hka, hkl⟩ := kids_row hp.ks
  have hcw := wg2_cnt t
  have hkn := cntL_len t.kids
  rw [h16] at c0
  by_cases hn : t.n = 1
  · rw [hn] at c2
    refine ⟨[.txt ⟨#[99, 111, 109, 112, 97, 114, 97, 98, 108, 101]⟩], ?_, by simp only [wgL, Pc.wt]; omega, fun p hp => by obtain rfl := List.mem_singleton.1 hp; trivial, fun w1 L hb hL hln hw => ?_⟩
    · rw [txt_eq, h16, hn]; rfl
    · exact lay_union (kept_cell hb c0) (union_one hln (kept_cell hb c2) (by simp))
  · refine ⟨tellQ ⟨#[32, 124, 32]⟩ (kidP kb t.kids ko), ?_, ?_, ?_, fun w1 L hb hL hln hw => ?_⟩
    · rw [tellQ_tx, kidP_txt, txt_eq, h16, txtL_map]
      simp [txK, hn, LB]
    · have := kidP_w ⟨#[32, 124, 32]⟩ kb t.kids ko
      omega
    · exact tellQ_ok (kidP_ok fun i hi => ⟨hs.kids _ (List.getElem_mem _), (hka (by omega)).2.1, hkl i hi⟩)
    · have := lay_union (kept_cell hb c0) (union_all (kb := kb) (ko := ko) hln (kept_cell hb c2) hn (kept_cell hb c6) (fun h => (hka h).1) (by simp; omega))
      rw [tellQ_e, kidP_a]
      simpa using this
theorem lay1_tuple {t : Ty} (hs : Shp t) (h17 : t.kind = 17) : Lay1 t := by
  intro D w b o hD hl
  obtain ⟨c0, -, c2, -, vn, vm, vk, -, -, c6, hp⟩ := lies_iff.1 hl
  obtain ⟨a, c, kb, ko, rfl, hka, hkl⟩ := kids_row hp.ks
  have hcw := wg2_cnt t
  have hkn := cntL_len t.kids
  rw [h17] at c0
  refine ⟨[.txt ⟨#[40]⟩] ++ tellQ ⟨#[44, 32]⟩ (kidP kb t.kids ko) ++ [.txt ⟨#[41]⟩], ?_, ?_, ?_, fun w1 L hb hL hln hw => ?_⟩
  · rw [List.flatMap_append, List.flatMap_append, tellQ_tx, kidP_txt, txt_eq, h17, txtL_map]
    simp [txK, LB, Pc.tx]
  · have := kidP_w ⟨#[44, 32]⟩ kb t.kids ko
    rw [wgL_append, wgL_append]
    simp only [wgL, Pc.wt]
    omega
  · intro p hp
    rcases List.mem_append.1 hp with hp | hp
    · rcases List.mem_append.1 hp with hp | hp
      · obtain rfl := List.mem_singleton.1 hp; trivial
      · exact tellQ_ok (kidP_ok fun i hi => ⟨hs.kids _ (List.getElem_mem _), (hka (by omega)).2.1, hkl i hi⟩) p hp
    · obtain rfl := List.mem_singleton.1 hp; trivial
  · have := lay_tuple (kb := kb) (ko := ko) hln (kept_cell hb c0) (kept_cell hb c6) (fun h => (hka h).1) (by simp; omega)
    rw [List.map_append, List.map_append, tellQ_e, kidP_a]
    simpa [Pc.e] using this
end Go.Proofs.Ytifcikhgbafegab

/-
  Structs and interfaces can be laid; so every shaped type can.
-/
namespace Go.Proofs.Ytifcikhgbafegab
open Go.RowKit
theorem rowB_some (word : Bs) (l : List Bs) (h : l ≠ []) : rowB word l = word ++ [32, 123, 32] ++ joinF [59, 32] true l ++ [32, 125] := by simp [rowB, h]
/-- the bound while members are laid -/
theorem mem_bound {ks : List Ty} {fq : Nat → List Pc} {i : Nat} (hi : i < ks.length) (hw : wgL wg2 (memQ fq i) + 10 * i ≤ 40 * cntL (ks.take i)) (ht : 40 * cntL ks + 20 ≤ 1000000) : (memQ fq i).length + 4 + 2 * (ks[i]).cnt + 20 ≤ 1000000 := by
  have h1 := wg_len (memQ fq i)
  have h2 : cntL (ks.take (i + 1)) = cntL (ks.take i) + (ks[i]).cnt := by rw [List.take_add_one, List.getElem?_eq_getElem hi, cntL_append]; simp [cntL]
  have h3 := cntL_split ks (i + 1)
  have h4 := (ks[i]).cnt_eq
  omega
theorem memP_lenQ (fq : Nat → List Pc) (n : Nat) : (memP (fun j => (fq j).map Pc.e) n).length = (memQ fq n).length := by rw [← memQ_e, List.length_map]
theorem lay1_struct {t : Ty} (hs : Shp t) (h14 : t.kind = 14) : Lay1 t := by
  intro D w b o hD hl
  obtain ⟨c0, -, -, -, vn, vm, vk, c4, c5, c6, hp⟩ := lies_iff.1 hl
  obtain ⟨a, c, kb, ko, rfl, hka, hkl⟩ := kids_row hp.ks
  obtain ⟨hnn, hnm⟩ := hs.hd.str h14
  have hcw := wg2_cnt t
  have hbw : b < w.heap.size := World.block_lt_of_cell? _ _ c0
  rw [h14] at c0
  have hfs := fldS_range (t.names.map LB) t.marks (t.kids.map Ty.txt) (by simp [hnn]) (by simp [hnm])
  by_cases hn0 : t.kids.length = 0
  · have hk0 := List.length_eq_zero_iff.1 hn0
    rw [hn0] at c6
    refine ⟨[.txt ⟨#[115, 116, 114, 117, 99, 116, 32, 123, 125]⟩], ?_, by simp only [wgL, Pc.wt]; omega, fun p hp => by obtain rfl := List.mem_singleton.1 hp; trivial, fun w1 L hb hL hln hw => ?_⟩
    · rw [txt_eq, h14, txtL_map]
      simp only [txK, hfs]
      simp [hk0, rowB, Pc.tx, LB]
    · exact lay_struct (kept_cell hb c0) (mem_fld0 hln (kept_cell hb c6) (by simp))
  obtain ⟨rfl, hDk, hkw⟩ := hka (by omega)
  obtain ⟨an, cn, en, -⟩ := hp.ns.slice
  obtain ⟨am, cm, em, -⟩ := hp.ms.slice
  subst en em
  rw [hnn] at c4
  rw [hnm] at c5
  have H : ∀ j, j < t.kids.length → ∃ l : List Pc, l.flatMap Pc.tx = (if t.marks.getD j false = true then (t.kids.map Ty.txt).getD j [] else (t.names.map LB).getD j [] ++ [32] ++ (t.kids.map Ty.txt).getD j []) ∧ (∀ (hj : j < t.kids.length), wgL wg2 l + 12 ≤ 40 * (t.kids[j]).cnt) ∧ (∀ p ∈ l, p.ok Shp D w) ∧
      ∀ (w1 : World) (L : Nat) (ps : List ElQ) (v : World), Below w.heap.size w w1 → w.heap.size ≤ L → LQ w1 L none ps v → ps.length + 20 ≤ 1000000 → Calls Try.prog 41 #[.pointer (some ⟨L, 0, none⟩), pv ⟨b, o, none⟩, .int .i64 j] v fun e w' => (∃ u, e = .returned u) ∧ LQ w1 L none (ps ++ l.map Pc.e) w' := by
    intro j hj
    have hjn : j < t.names.length := by omega
    have hjm : j < t.marks.length := by omega
    obtain ⟨nb, no, rfl, hcn⟩ := hp.ns.get hjn
    obtain ⟨mb, mo, rfl, hcm⟩ := hp.ms.get hjm
    have hnw : nb < w.heap.size := World.block_lt_of_cell? _ _ hcn
    have hmw : mb < w.heap.size := World.block_lt_of_cell? _ _ hcm
    have hwe := wg2_eq t.kids[j]
    have e1 : (t.kids.map Ty.txt).getD j [] = (t.kids[j]).txt := by simp [List.getD, hj]
    have e2 : (t.names.map LB).getD j [] = LB t.names[j] := by simp [List.getD, hjn]
    have e3 : t.marks.getD j false = t.marks[j] := by simp [List.getD, hjm]
    rw [e1, e2, e3]
    cases hm : t.marks[j] with
    | true =>
      rw [hm] at hcm
      refine ⟨[.typ kb (ko + j * 7) t.kids[j]], by simp [Pc.tx], fun _ => by simp only [wgL, Pc.wt]; omega, fun p hp => ?_, fun w1 L ps v hb hL hq hm => ?_⟩
      · obtain rfl := List.mem_singleton.1 hp
        exact ⟨hs.kids _ (List.getElem_mem _), hDk, hkl j hj⟩
      · exact field_true hq (by omega) (by simp) (kept_cell hb c6) hj (by omega) (by simp) (kept_cell hb c5) hj (kept_cell hb hcm) (by omega)
    | false =>
      rw [hm] at hcm
      refine ⟨[.txt t.names[j], .txt ⟨#[32]⟩, .typ kb (ko + j * 7) t.kids[j]], by simp [Pc.tx, LB], fun _ => by simp only [wgL, Pc.wt]; omega, fun p hp => ?_, fun w1 L ps v hb hL hq hm => ?_⟩
      · simp only [List.mem_cons, List.not_mem_nil, or_false] at hp
        rcases hp with rfl | rfl | rfl
        · trivial
        · trivial
        · exact ⟨hs.kids _ (List.getElem_mem _), hDk, hkl j hj⟩
      · exact field_false hq (by omega) (by simp) (by omega) (by simp) (kept_cell hb c4) hj (kept_cell hb hcn) (kept_cell hb c6) hj (by omega) (by simp) (kept_cell hb c5) hj (kept_cell hb hcm) (by omega)
  obtain ⟨fq, hfq⟩ := pick H
  have hW : ∀ i, i ≤ t.kids.length → wgL wg2 (memQ fq i) + 10 * i ≤ 40 * cntL (t.kids.take i) := fun i hi => memQ_w hi fun j hj => (hfq j (by omega)).2.1 (by omega)
  have hWn := hW t.kids.length (Nat.le_refl _)
  rw [List.take_length] at hWn
  refine ⟨[.txt ⟨#[115, 116, 114, 117, 99, 116, 32, 123]⟩] ++ memQ fq t.kids.length ++ [.txt ⟨#[32, 125]⟩], ?_, ?_, ?_, fun w1 L hb hL hln hw => ?_⟩
  · rw [List.flatMap_append, List.flatMap_append, memQ_tx (fun j hj => (hfq j hj).1), if_neg hn0, txt_eq, h14, txtL_map]
    have hne : fldS (t.names.map LB) t.marks (t.kids.map Ty.txt) ≠ [] := by rw [hfs]; simp; intro e; simp [e] at hn0
    show _ = rowB [115, 116, 114, 117, 99, 116] _
    rw [rowB_some _ _ hne, hfs, List.length_map]
    simp [Pc.tx, LB]
  · rw [wgL_append, wgL_append]
    simp only [wgL, Pc.wt]
    omega
  · intro p hp
    rcases List.mem_append.1 hp with hp | hp
    · rcases List.mem_append.1 hp with hp | hp
      · obtain rfl := List.mem_singleton.1 hp; trivial
      · exact memQ_ok (fun j hj => (hfq j hj).2.2.1) p hp
    · obtain rfl := List.mem_singleton.1 hp; trivial
  · have hln' := wg_len (memQ fq t.kids.length)
    have hkn := cntL_len t.kids
    have := lay_struct (kept_cell hb c0) (mem_fld (fp := fun j => (fq j).map Pc.e) hln (by omega) (by simp) (kept_cell hb c6) (by omega) (by rw [memP_lenQ]; simp; omega) (by omega) (fun i hi v hq => by
      have hbd := mem_bound hi (hW i (by omega)) (by omega)
      refine ((hfq i hi).2.2.2 w1 L _ v hb hL hq (by rw [List.length_append, List.length_append, List.length_append, memP_lenQ]; split <;> simp <;> omega)).mono ?_
      rintro e w' ⟨he, hq'⟩
      refine ⟨he, ?_⟩
      rw [memP_succ]
      simpa [List.append_assoc] using hq'))
    rw [List.map_append, List.map_append, memQ_e]
    simpa [Pc.e] using this
theorem sgL_map (l : List Ty) : sgL l = l.map Ty.sgt := by induction l with | nil => rfl | cons x r ih => simp [sgL, ih]
theorem lay1_iface {t : Ty} (hs : Shp t) (h15 : t.kind = 15) : Lay1 t := by
  intro D w b o hD hl
  obtain ⟨c0, -, -, -, vn, vm, vk, c4, -, c6, hp⟩ := lies_iff.1 hl
  obtain ⟨a, c, kb, ko, rfl, hka, hkl⟩ := kids_row hp.ks
  obtain ⟨hnn, hk13⟩ := hs.hd.ifc h15
  have hcw := wg2_cnt t
  have hbw : b < w.heap.size := World.block_lt_of_cell? _ _ c0
  rw [h15] at c0
  have hfs := fldI_range (t.names.map LB) (t.kids.map Ty.sgt) (by simp [hnn])
  by_cases hn0 : t.kids.length = 0
  · have hk0 := List.length_eq_zero_iff.1 hn0
    rw [hn0] at c6
    refine ⟨[.txt ⟨#[97, 110, 121]⟩], ?_, by simp only [wgL, Pc.wt]; omega, fun p hp => by obtain rfl := List.mem_singleton.1 hp; trivial, fun w1 L hb hL hln hw => ?_⟩
    · rw [txt_eq, h15, sgL_map]
      simp only [txK, hfs]
      simp [hk0, Pc.tx, LB]
    · exact lay_iface (kept_cell hb c0) (mem_mth0 hln (kept_cell hb c6) (by simp))
  obtain ⟨rfl, hDk, hkw⟩ := hka (by omega)
  obtain ⟨an, cn, en, -⟩ := hp.ns.slice
  subst en
  rw [hnn] at c4
  have H : ∀ j, j < t.kids.length → ∃ l : List Pc, l.flatMap Pc.tx = (t.names.map LB).getD j [] ++ (t.kids.map Ty.sgt).getD j [] ∧ (∀ (hj : j < t.kids.length), wgL wg2 l + 12 ≤ 40 * (t.kids[j]).cnt) ∧ (∀ p ∈ l, p.ok Shp D w) ∧
      ∀ (w1 : World) (L : Nat) (ps : List ElQ) (v : World), Below w.heap.size w w1 → w.heap.size ≤ L → LQ w1 L none ps v → (∀ (hj : j < t.kids.length), ps.length + 1 + 2 * (t.kids[j]).cnt + 20 ≤ 1000000) → Calls Try.prog 42 #[.pointer (some ⟨L, 0, none⟩), pv ⟨b, o, none⟩, .int .i64 j] v fun e w' => (∃ u, e = .returned u) ∧ LQ w1 L none (ps ++ l.map Pc.e) w' := by
    intro j hj
    have hjn : j < t.names.length := by omega
    obtain ⟨nb, no, rfl, hcn⟩ := hp.ns.get hjn
    have hnw : nb < w.heap.size := World.block_lt_of_cell? _ _ hcn
    have e1 : (t.kids.map Ty.sgt).getD j [] = (t.kids[j]).sgt := by simp [List.getD, hj]
    have e2 : (t.names.map LB).getD j [] = LB t.names[j] := by simp [List.getD, hjn]
    rw [e1, e2]
    obtain ⟨pcs, h1, h2, h3, h4⟩ := sig_lay (hs.kids _ (List.getElem_mem _)) (hk13 _ (List.getElem_mem hj)) (hkl j hj)
    have d0 := (lies_iff.1 (hkl j hj)).1
    rw [hk13 _ (List.getElem_mem hj)] at d0
    refine ⟨.txt t.names[j] :: pcs, by simp [Pc.tx, h1], fun _ => by simp only [wgL, Pc.wt]; omega, fun p hp => ?_, fun w1 L ps v hb hL hq hm => ?_⟩
    · rcases List.mem_cons.1 hp with rfl | hp
      · trivial
      · exact h3 p hp
    · have hm' := hm hj
      refine method_any hq (by omega) (by simp) (by omega) (by simp) (kept_cell hb c4) hj (kept_cell hb hcn) (kept_cell hb c6) hj (by omega) (by simp) (kept_cell hb d0) (by omega) (fun v' hq' => ?_)
      refine (h4 w1 L _ v' hb hL hq' (by simp; omega)).mono ?_
      rintro e w' ⟨he, hq2⟩
      refine ⟨he, ?_⟩
      simpa [Pc.e] using hq2
  obtain ⟨fq, hfq⟩ := pick H
  have hW : ∀ i, i ≤ t.kids.length → wgL wg2 (memQ fq i) + 10 * i ≤ 40 * cntL (t.kids.take i) := fun i hi => memQ_w hi fun j hj => (hfq j (by omega)).2.1 (by omega)
  have hWn := hW t.kids.length (Nat.le_refl _)
  rw [List.take_length] at hWn
  refine ⟨[.txt ⟨#[105, 110, 116, 101, 114, 102, 97, 99, 101, 32, 123]⟩] ++ memQ fq t.kids.length ++ [.txt ⟨#[32, 125]⟩], ?_, ?_, ?_, fun w1 L hb hL hln hw => ?_⟩
  · rw [List.flatMap_append, List.flatMap_append, memQ_tx (fun j hj => (hfq j hj).1), if_neg hn0, txt_eq, h15, sgL_map]
    have hne : fldI (t.names.map LB) (t.kids.map Ty.sgt) ≠ [] := by rw [hfs]; simp; intro e; simp [e] at hn0
    show _ = (if fldI _ _ = [] then _ else rowB [105, 110, 116, 101, 114, 102, 97, 99, 101] _)
    rw [if_neg hne, rowB_some _ _ hne, hfs, List.length_map]
    simp [Pc.tx, LB]
  · rw [wgL_append, wgL_append]
    simp only [wgL, Pc.wt]
    omega
  · intro p hp
    rcases List.mem_append.1 hp with hp | hp
    · rcases List.mem_append.1 hp with hp | hp
      · obtain rfl := List.mem_singleton.1 hp; trivial
      · exact memQ_ok (fun j hj => (hfq j hj).2.2.1) p hp
    · obtain rfl := List.mem_singleton.1 hp; trivial
  · have hln' := wg_len (memQ fq t.kids.length)
    have hkn := cntL_len t.kids
    have := lay_iface (kept_cell hb c0) (mem_mth (fp := fun j => (fq j).map Pc.e) hln (by omega) (by simp) (kept_cell hb c6) (by omega) (by rw [memP_lenQ]; simp; omega) (by omega) (fun i hi v hq => by
      have hbd := mem_bound hi (hW i (by omega)) (by omega)
      refine ((hfq i hi).2.2.2 w1 L _ v hb hL hq (fun _ => by rw [List.length_append, List.length_append, List.length_append, memP_lenQ]; split <;> simp <;> omega)).mono ?_
      rintro e w' ⟨he, hq'⟩
      refine ⟨he, ?_⟩
      rw [memP_succ]
      simpa [List.append_assoc] using hq'))
    rw [List.map_append, List.map_append, memQ_e]
    simpa [Pc.e] using this
theorem lay1_all (t : Ty) (hs : Shp t) : Lay1 t := by
  by_cases h7 : t.kind ≤ 7
  · exact lay1_txt (txt_low t h7) fun D w b o hl w1 L hb hln => lay_word hln (kept_cell hb (lies_iff.1 hl).1) h7 (by simp)
  by_cases h8 : t.kind = 8
  · exact lay1_txt (s := t.name) (by rw [txt_eq, h8]; rfl) fun D w b o hl w1 L hb hln => lay_name8 hln (kept_cell hb (h8 ▸ (lies_iff.1 hl).1)) (kept_cell hb (lies_iff.1 hl).2.1) (by simp)
  by_cases h9 : t.kind = 9
  · exact lay1_txt (s := t.name) (by rw [txt_eq, h9]; rfl) fun D w b o hl w1 L hb hln => lay_name9 hln (kept_cell hb (h9 ▸ (lies_iff.1 hl).1)) (kept_cell hb (lies_iff.1 hl).2.1) (by simp)
  by_cases h10 : t.kind = 10
  · obtain ⟨el, he⟩ := List.length_eq_one_iff.1 (hs.hd.ptr (.inl h10))
    exact lay1_one hs he (one_tx 10 (by decide) t el h10 he) fun w1 L b o kb ko c hln hbL c0 c6 => lay_one10 hln hbL (by simp) (h10 ▸ c0) c6 (by simp)
  by_cases h11 : t.kind = 11
  · obtain ⟨el, he⟩ := List.length_eq_one_iff.1 (hs.hd.ptr (.inr (.inl h11)))
    exact lay1_one hs he (one_tx 11 (by decide) t el h11 he) fun w1 L b o kb ko c hln hbL c0 c6 => lay_one11 hln hbL (by simp) (h11 ▸ c0) c6 (by simp)
  by_cases h12 : t.kind = 12
  · obtain ⟨el, he⟩ := List.length_eq_one_iff.1 (hs.hd.ptr (.inr (.inr (.inl h12))))
    exact lay1_one hs he (one_tx 12 (by decide) t el h12 he) fun w1 L b o kb ko c hln hbL c0 c6 => lay_one12 hln hbL (by simp) (h12 ▸ c0) c6 (by simp)
  by_cases h13 : t.kind = 13
  · exact lay1_func hs h13
  by_cases h14 : t.kind = 14
  · exact lay1_struct hs h14
  by_cases h15 : t.kind = 15
  · exact lay1_iface hs h15
  by_cases h16 : t.kind = 16
  · exact lay1_union hs h16
  by_cases h17 : t.kind = 17
  · exact lay1_tuple hs h17
  have hb : 17 < t.kind := by omega
  refine lay1_txt (s := wrd t.kind) ?_ fun D w b o hl w1 L hb' hln => lay_wordX hln (kept_cell hb' (lies_iff.1 hl).1) hb (by simp)
  rw [txt_eq]
  simp only [txK, wrd, h8, h9, h10, h11, h12, h13, h14, h15, h16, h17, if_false, show ¬ t.kind = 1 by omega, show ¬ t.kind = 2 by omega, show ¬ t.kind = 3 by omega, show ¬ t.kind = 4 by omega, show ¬ t.kind = 5 by omega, show ¬ t.kind = 6 by omega, show ¬ t.kind = 7 by omega]
  rfl
theorem lays2 : Lays Shp wg2 := by
  intro t hs
  have hcw := wg2_cnt t
  refine ⟨by omega, fun D w b o hD hl => ?_⟩
  obtain ⟨pcs, h1, h2, h3, h4⟩ := lay1_all t hs D w b o hD hl
  have := wg_len pcs
  exact ⟨pcs, h1, h2, by omega, h3, h4⟩
end Go.Proofs.Ytifcikhgbafegab

