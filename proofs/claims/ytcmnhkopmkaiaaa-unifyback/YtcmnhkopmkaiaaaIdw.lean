/-
  types.Identical, walked.
-/
import Derived.Test.YtcmnhkopmkaiaaaIdn
import Derived.Test.YtcmnhkopmkaiaaaFrh
namespace Go.Proofs.Ytcmnhkopmkaiaaa
open Go.RowKit
attribute [local go_sem ↓] Go.wp_at_zero Go.wp_at_succ
/-- two types that are to be held against each other, and where they stand -/
structure Pr where
  x : Ty
  y : Ty
  b : Nat
  o : Nat
  b' : Nat
  o' : Nat
def Pr.e (p : Pr) : ElR := (⟨p.b, p.o, none⟩, ⟨p.b', p.o', none⟩)
theorem idn_alk (x y : Ty) : x.idn y = (x.alk y && (decide (x.kind = 9) || idnL x.kids y.kids)) := by
  obtain ⟨k, nm, n, f, ns, ms, ks⟩ := x
  obtain ⟨k', nm', n', f', ns', ms', ks'⟩ := y
  rw [Bool.eq_iff_iff, Bool.and_eq_true, Bool.or_eq_true]
  simp only [Ty.kind, Ty.kids]
  constructor
  · intro h
    simp only [Ty.idn, Bool.and_eq_true, Bool.or_eq_true, decide_eq_true_eq] at h
    obtain ⟨⟨⟨h1, h2⟩, h3⟩, h4⟩ := h
    rcases h4 with h4 | ⟨⟨⟨h5, h6⟩, h7⟩, h8⟩
    · exact ⟨decide_eq_true ⟨h1, h2, h3, .inl h4⟩, .inl (decide_eq_true h4)⟩
    · exact ⟨decide_eq_true ⟨h1, h2, h3, .inr ⟨h5, h6, h7, ((idnL_iff _ _).1 h8).1⟩⟩, .inr h8⟩
  · rintro ⟨h, h5⟩
    obtain ⟨h1, h2, h3, h4⟩ := of_decide_eq_true h
    simp only [Ty.idn, Bool.and_eq_true, Bool.or_eq_true, decide_eq_true_eq]
    refine ⟨⟨⟨h1, h2⟩, h3⟩, ?_⟩
    rcases h5 with h5 | h5
    · exact .inl (of_decide_eq_true h5)
    · rcases h4 with h4 | ⟨h6, h7, h8, _⟩
      · exact .inl h4
      · exact .inr ⟨⟨⟨h6, h7⟩, h8⟩, h5⟩
/-- the kids side by side -/
def kidQ (b b' : Nat) : List Ty → List Ty → Nat → Nat → List Pr
  | x :: r, y :: s, o, o' => ⟨x, y, b, o, b', o'⟩ :: kidQ b b' r s (o + 7) (o' + 7)
  | _, _, _, _ => []
theorem kidQ_all (b b' : Nat) : ∀ (l l' : List Ty) (o o' : Nat), l.length = l'.length → (kidQ b b' l l' o o').all (fun p => p.x.idn p.y) = idnL l l'
  | [], [], _, _, _ => by simp [kidQ, idnL]
  | [], _ :: _, _, _, h => by simp at h
  | _ :: _, [], _, _, h => by simp at h
  | x :: r, y :: s, o, o', h => by simp [kidQ, idnL, kidQ_all b b' r s _ _ (by simpa using h)]
theorem kidQ_x (b b' : Nat) : ∀ (l l' : List Ty) (o o' : Nat), l.length = l'.length → (kidQ b b' l l' o o').map Pr.x = l
  | [], [], _, _, _ => by simp [kidQ]
  | [], _ :: _, _, _, h => by simp at h
  | _ :: _, [], _, _, h => by simp at h
  | x :: r, y :: s, o, o', h => by simp [kidQ, kidQ_x b b' r s _ _ (by simpa using h)]
theorem kidR_cons (b o b' o' n : Nat) : kidR b o b' o' (n + 1) = (⟨b, o, none⟩, ⟨b', o', none⟩) :: kidR b (o + 7) b' (o' + 7) n := by
  simp only [kidR, List.range_succ_eq_map, List.map_cons, List.map_map, Nat.zero_mul, Nat.add_zero]
  congr 1
  apply List.map_congr_left
  intro i _
  simp only [Function.comp]
  rw [show o + (i + 1) * 7 = o + 7 + i * 7 by omega, show o' + (i + 1) * 7 = o' + 7 + i * 7 by omega]
theorem kidQ_e (b b' : Nat) : ∀ (l l' : List Ty) (o o' : Nat), l.length = l'.length → (kidQ b b' l l' o o').map Pr.e = kidR b o b' o' l.length
  | [], [], _, _, _ => by simp [kidQ, kidR]
  | [], _ :: _, _, _, h => by simp at h
  | _ :: _, [], _, _, h => by simp at h
  | x :: r, y :: s, o, o', h => by
    rw [List.length_cons, kidR_cons, ← kidQ_e b b' r s _ _ (by simpa using h)]
    simp [kidQ, Pr.e]
theorem kidQ_mem {b b' : Nat} {p : Pr} : ∀ (l l' : List Ty) (o o' : Nat), p ∈ kidQ b b' l l' o o' → ∃ i, ∃ h : i < l.length, ∃ h' : i < l'.length, p = ⟨l[i], l'[i], b, o + i * 7, b', o' + i * 7⟩
  | [], _, _, _, h => by simp [kidQ] at h
  | _ :: _, [], _, _, h => by simp [kidQ] at h
  | x :: r, y :: s, o, o', h => by
    rcases List.mem_cons.1 h with rfl | h
    · exact ⟨0, by simp, by simp, by simp⟩
    · obtain ⟨i, h1, h2, e⟩ := kidQ_mem r s _ _ h
      exact ⟨i + 1, by simpa using h1, by simpa using h2, by rw [e]; simp; omega⟩
/-- between two steps -/
structure IdI (w0 : World) (R : Bool) (g : Nat) (X : Nat → Prop) (l : List ElR) (W : World) : Prop where
  old : Below w0.heap.size w0 W
  all : ∀ b, b < w0.heap.size → X b
  lt : ∀ b, X b → b < W.heap.size
  gb : g ≤ 1000000
  ex : ∃ ps : List Pr, ps.map Pr.e = l ∧ cntL (ps.map Pr.x) = g ∧ (∀ p ∈ ps, p.x.lies (fun _ => True) w0 p.b p.o ∧ p.y.lies (fun _ => True) w0 p.b' p.o') ∧ R = ps.all (fun p => p.x.idn p.y)
/-- an end ahead of time -/
structure IdB (w0 : World) (R : Bool) (X : Nat → Prop) (W : World) : Prop where
  old : Below w0.heap.size w0 W
  all : ∀ b, b < w0.heap.size → X b
  no : R = false
section
variable {w0 : World} {R : Bool} {g : Nat} {X : Nat → Prop} {l : List ElR} {W W' : World}
theorem old_kx (h : Below w0.heap.size w0 W) (ha : ∀ b, b < w0.heap.size → X b) (hk : Kx (fun b => ¬ X b) W W') : Below w0.heap.size w0 W' :=
  h.trans (hk.below h.size (fun b hb hx => hx (ha b hb)))
theorem IdI.stable (h : IdI w0 R g X l W) (hk : Kx (fun b => ¬ X b) W W') : IdI w0 R g X l W' :=
  ⟨old_kx h.old h.all hk, h.all, fun b hb => Nat.lt_of_lt_of_le (h.lt b hb) hk.size, h.gb, h.ex⟩
theorem IdI.len (h : IdI w0 R g X l W) : l.length ≤ 1000000 := by
  obtain ⟨ps, e1, e2, _⟩ := h.ex
  have := h.gb
  have h1 := cntL_len (ps.map Pr.x)
  rw [e2, List.length_map] at h1
  rw [← e1, List.length_map]; omega
theorem kids_at {B : BQ} {v : Value} {ks : List Ty} (h : SlT B W v ks) : ∃ a c kb ko, v = .slice a ks.length c ∧ (0 < ks.length → a = some ⟨kb, ko, none⟩) ∧ ∀ i (hi : i < ks.length), (ks[i]).lies B W kb (ko + i * 7) := by
  rcases h with ⟨a, c, rfl, rfl⟩ | ⟨b, o, c, rfl, hl, hb1, hb, hL⟩
  · exact ⟨a, c, 0, 0, rfl, (fun h => by simp at h), fun i hi => by cases hi⟩
  · exact ⟨_, c, b, o, rfl, fun _ => rfl, fun i hi => liesT_get hL i hi⟩
theorem rwR_own {base n : Nat} {v : Value} {l : List ElR} {B : BQ} (h : W.ownsRow base 44 2 v n (l.flatMap ecR)) (hn : n = l.length) (hm : n ≤ 9223372036854775807) (hB : ∀ k, v.ownBlock = some k → B k) : RwR B W v l := by
  subst hn
  rcases h.2 with ⟨rfl, h0⟩ | ⟨g, cap, cur, rfl, _, hg, _⟩
  · exact .inl ⟨none, 0, rfl, List.length_eq_zero_iff.1 h0⟩
  · refine .inr ⟨g, 0, cap, rfl, by omega, (Array.getElem?_eq_some_iff.1 hg).1, hB g rfl, fun i x hx => ?_⟩
    have key : ∀ (l : List ElR) (i : Nat) (x : ElR), l[i]? = some x → (l.flatMap ecR)[i * 2]? = some (.pointer (some x.1)) ∧ (l.flatMap ecR)[i * 2 + 1]? = some (.pointer (some x.2)) := by
      intro l
      induction l with
      | nil => intro i x hx; simp at hx
      | cons y r ih =>
        intro i x hx
        cases i with
        | zero => obtain rfl : y = x := by simpa using hx
                  simp [ecR]
        | succ i =>
          obtain ⟨h1, h2⟩ := ih i x (by simpa using hx)
          rw [List.flatMap_cons, show (i + 1) * 2 = i * 2 + 2 by omega]
          simp [ecR, h1, h2]
    obtain ⟨h1, h2⟩ := key l i x hx
    have c1 := h.cells (g := g) rfl _ _ h1
    have c2 := h.cells (g := g) rfl _ _ h2
    rw [Addr.add_lit] at c1 c2
    exact ⟨c1, by rw [Nat.add_assoc]; exact c2⟩
theorem IdI.call {x : ElR} {r : List ElR} (h : IdI w0 R g X (x :: r) W) : Calls Try.prog 23 #[evR x] W (SpR (IdI w0 R) (IdB w0 R) g X r W) := by
  obtain ⟨ps, e1, e2, hp, hR⟩ := h.ex
  cases ps with
  | nil => simp at e1
  | cons p qs =>
    obtain ⟨rfl, rfl⟩ : p.e = x ∧ qs.map Pr.e = r := by simpa using e1
    obtain ⟨hx, hy⟩ := hp p (by simp)
    have hk0 : Kx (fun _ => False) w0 W := Kx.of_whole h.old
    have hx' := lies_to hk0 (fun _ _ h => h) (fun _ _ _ h => h) _ _ _ (fun h => h) hx
    have hy' := lies_to hk0 (fun _ _ h => h) (fun _ _ _ h => h) _ _ _ (fun h => h) hy
    obtain ⟨-, -, -, -, vn, vm, vk, -, -, c6, hpx⟩ := lies_iff.1 hx'
    obtain ⟨-, -, -, -, un, um, uk, -, -, d6, hpy⟩ := lies_iff.1 hy'
    obtain ⟨-, -, -, -, vn0, vm0, vk0, -, -, c60, hpx0⟩ := lies_iff.1 hx
    obtain ⟨-, -, -, -, un0, um0, uk0, -, -, d60, hpy0⟩ := lies_iff.1 hy
    obtain ⟨ak, ck, kb, ko, rfl, ha, hkx⟩ := kids_at hpx0.ks
    obtain ⟨bk, ek, kb', ko', rfl, hb, hky⟩ := kids_at hpy0.ks
    have hg := h.gb
    have hcp := p.x.cnt_eq
    rw [List.map_cons, cntL_cons] at e2
    have hkl := cntL_len p.x.kids
    have hst := idn1_any hx' hy' (kept_cell h.old c60) (kept_cell h.old d60) ha hb (by omega)
    refine hst.mono ?_
    intro e W5 hq
    have hold : Below w0.heap.size w0 W5 := h.old.trans (hq.bl.mono h.old.size)
    have hRp : R = (p.x.idn p.y && qs.all (fun p => p.x.idn p.y)) := by simpa using hR
    rw [idn_alk] at hRp
    cases hal : p.x.alk p.y with
    | false =>
      refine .inr ⟨_, _, _, X, hq.no hal, ⟨hold, h.all, by rw [hRp, hal]; rfl⟩, Kx.of_whole hq.bl, fun b _ h => h⟩
    | true =>
      obtain ⟨a, c, rfl, hrow⟩ := hq.yes hal
      have hlt : ∀ b, (X b ∨ (W.heap.size ≤ b ∧ b < W5.heap.size)) → b < W5.heap.size := fun b hb => by
        rcases hb with hb | hb
        · have := h.lt b hb; have := hq.bl.size; omega
        · exact hb.2
      by_cases h9 : p.x.kind = 9
      · rw [if_pos h9] at hrow ⊢
        refine .inl ⟨a, _, c, [], cntL (qs.map Pr.x), fun b => X b ∨ (W.heap.size ≤ b ∧ b < W5.heap.size), rfl, .inl ⟨a, c, rfl, rfl⟩, by omega, ⟨hold, fun b hb => .inl (h.all b hb), hlt, by omega, ?_⟩, Kx.of_whole hq.bl, fun b hb hx => hx.resolve_right (by omega)⟩
        exact ⟨qs, rfl, rfl, fun q hq' => hp q (by simp [hq']), by rw [hRp, hal]; simp [h9]⟩
      · rw [if_neg h9] at hrow ⊢
        rw [kidR_len] at hrow ⊢
        have hll : p.x.kids.length = p.y.kids.length := by
          unfold Ty.alk at hal
          exact ((of_decide_eq_true hal).2.2.2.resolve_left h9).2.2.2
        refine .inl ⟨a, _, c, kidR kb ko kb' ko' p.x.kids.length, g - 1, fun b => X b ∨ (W.heap.size ≤ b ∧ b < W5.heap.size), rfl, ?_, by omega, ⟨hold, fun b hb => .inl (h.all b hb), hlt, by omega, ?_⟩, Kx.of_whole hq.bl, fun b hb hx => hx.resolve_right (by omega)⟩
        · refine rwR_own hrow (by rw [kidR_len]) (by omega) (fun k hk => ?_)
          have := hrow.lt k hk
          exact .inr ⟨by omega, this.2⟩
        · refine ⟨kidQ kb kb' p.x.kids p.y.kids ko ko' ++ qs, by rw [List.map_append, kidQ_e _ _ _ _ _ _ hll], by rw [List.map_append, kidQ_x _ _ _ _ _ _ hll, cntL_append]; omega, fun q hq' => ?_, ?_⟩
          · rcases List.mem_append.1 hq' with hq' | hq'
            · obtain ⟨i, h1, h2, rfl⟩ := kidQ_mem _ _ _ _ hq'
              exact ⟨hkx i h1, hky i h2⟩
            · exact hp q (by simp [hq'])
          · rw [List.all_append, kidQ_all _ _ _ _ _ _ hll, hRp, hal]
            simp [h9]
end
theorem enterI : ∀ args w, (callFunc 23 args).run Try.prog w = .ok (.enter 23 args) w := enters_of Try.func23 (by kernel_rfl) rfl
theorem idnW {w0 : World} {fb fc : Nat} {x y : Ty} {b o b' o' : Nat} (hf : w0.cell? ⟨fb, 0, none⟩ = some (pv ⟨b, o, none⟩) ∧ w0.cell? ⟨fb, 1, none⟩ = some (pv ⟨b', o', none⟩)) (hx : x.lies (fun _ => True) w0 b o) (hy : y.lies (fun _ => True) w0 b' o') (hc : x.cnt ≤ 1000000) :
    Calls Try.prog 22 #[.func (.func 23) #[] #[], .slice (some ⟨fb, 0, none⟩) 1 fc] w0 fun e w' => e = .returned (.bool (x.idn y)) ∧ Below w0.heap.size w0 w' := by
  have h0 : IdI w0 (x.idn y) x.cnt (fun b => b < w0.heap.size) [(⟨b, o, none⟩, ⟨b', o', none⟩)] w0 :=
    ⟨Below.refl _ _, fun _ h => h, fun _ h => h, hc, [⟨x, y, b, o, b', o'⟩], rfl, by simp [cntL], fun p hp => by obtain rfl := List.mem_singleton.1 hp; exact ⟨hx, hy⟩, by simp⟩
  refine (walkR (I := IdI w0 (x.idn y)) (Bad := IdB w0 (x.idn y)) 23 #[] enterI (fun _ _ _ _ _ h hk => h.stable hk) (fun _ _ _ h hk => ⟨old_kx h.old h.all hk, h.all, h.no⟩) (fun _ _ _ _ h => h.lt) (fun _ _ _ _ h => h.len) (fun g X x r W h => by simpa using h.call) x.cnt (⟨b, o, none⟩, ⟨b', o', none⟩) fb 0 fc w0 hf h0).mono ?_
  rintro e w' (⟨rfl, g, X, h⟩ | ⟨rfl, X, h⟩)
  · obtain ⟨ps, e1, _, _, hR⟩ := h.ex
    obtain rfl : ps = [] := by simpa using e1
    exact ⟨by rw [hR]; rfl, h.old⟩
  · exact ⟨by rw [h.no], h.old⟩
set_option maxRecDepth 100000 in
set_option maxHeartbeats 2000000 in
theorem idn_any {B B' : BQ} {w : World} {x y : Ty} {vn vm vk un um uk : Value} (hx : Prt B w x vn vm vk) (hy : Prt B' w y un um uk) (hc : x.cnt ≤ 1000000) : Calls Try.prog 13 #[agT x vn vm vk, agT y un um uk] w fun e w' => e = .returned (.bool (x.idn y)) ∧ Below w.heap.size w w' := by
  obtain ⟨an, cn, am, cm, ak, ck, rfl, rfl, rfl⟩ := hx.form
  obtain ⟨bn, en, bm, em, bk, ek, rfl, rfl, rfl⟩ := hy.form
  have hb3 : Below w.heap.size w (((w.alloc (.cells #[.int .i64 x.kind, .string x.name, .int .i64 x.n, .bool x.flag, .slice an x.names.length cn, .slice am x.marks.length cm, .slice ak x.kids.length ck] 26)).alloc (.cells #[.int .i64 y.kind, .string y.name, .int .i64 y.n, .bool y.flag, .slice bn y.names.length en, .slice bm y.marks.length em, .slice bk y.kids.length ek] 26)).alloc (.cells #[pv ⟨w.heap.size, 0, none⟩, pv ⟨w.heap.size + 1, 0, none⟩] 44)) := bthen (bthen (below_alloc _ _) (below_alloc _ _)) (below_alloc _ _)
  have hA : (((w.alloc (.cells #[.int .i64 x.kind, .string x.name, .int .i64 x.n, .bool x.flag, .slice an x.names.length cn, .slice am x.marks.length cm, .slice ak x.kids.length ck] 26)).alloc (.cells #[.int .i64 y.kind, .string y.name, .int .i64 y.n, .bool y.flag, .slice bn y.names.length en, .slice bm y.marks.length em, .slice bk y.kids.length ek] 26)).alloc (.cells #[pv ⟨w.heap.size, 0, none⟩, pv ⟨w.heap.size + 1, 0, none⟩] 44)).heap[w.heap.size]? = some (.cells #[.int .i64 x.kind, .string x.name, .int .i64 x.n, .bool x.flag, .slice an x.names.length cn, .slice am x.marks.length cm, .slice ak x.kids.length ck] 26 (0, 0)) := blk_kept (bthen (below_alloc _ _) (below_alloc _ _)) (heap_new w _)
  have hB : (((w.alloc (.cells #[.int .i64 x.kind, .string x.name, .int .i64 x.n, .bool x.flag, .slice an x.names.length cn, .slice am x.marks.length cm, .slice ak x.kids.length ck] 26)).alloc (.cells #[.int .i64 y.kind, .string y.name, .int .i64 y.n, .bool y.flag, .slice bn y.names.length en, .slice bm y.marks.length em, .slice bk y.kids.length ek] 26)).alloc (.cells #[pv ⟨w.heap.size, 0, none⟩, pv ⟨w.heap.size + 1, 0, none⟩] 44)).heap[w.heap.size + 1]? = some (.cells #[.int .i64 y.kind, .string y.name, .int .i64 y.n, .bool y.flag, .slice bn y.names.length en, .slice bm y.marks.length em, .slice bk y.kids.length ek] 26 (0, 0)) := by
    have := blk_kept (below_alloc _ (.cells #[pv ⟨w.heap.size, 0, none⟩, pv ⟨w.heap.size + 1, 0, none⟩] 44)) (heap_new (w.alloc (.cells #[.int .i64 x.kind, .string x.name, .int .i64 x.n, .bool x.flag, .slice an x.names.length cn, .slice am x.marks.length cm, .slice ak x.kids.length ck] 26)) (.cells #[.int .i64 y.kind, .string y.name, .int .i64 y.n, .bool y.flag, .slice bn y.names.length en, .slice bm y.marks.length em, .slice bk y.kids.length ek] 26))
    rwa [World.size_alloc] at this
  have hP : (((w.alloc (.cells #[.int .i64 x.kind, .string x.name, .int .i64 x.n, .bool x.flag, .slice an x.names.length cn, .slice am x.marks.length cm, .slice ak x.kids.length ck] 26)).alloc (.cells #[.int .i64 y.kind, .string y.name, .int .i64 y.n, .bool y.flag, .slice bn y.names.length en, .slice bm y.marks.length em, .slice bk y.kids.length ek] 26)).alloc (.cells #[pv ⟨w.heap.size, 0, none⟩, pv ⟨w.heap.size + 1, 0, none⟩] 44)).heap[w.heap.size + 2]? = some (.cells #[pv ⟨w.heap.size, 0, none⟩, pv ⟨w.heap.size + 1, 0, none⟩] 44 (0, 0)) := by
    have := heap_new ((w.alloc (.cells #[.int .i64 x.kind, .string x.name, .int .i64 x.n, .bool x.flag, .slice an x.names.length cn, .slice am x.marks.length cm, .slice ak x.kids.length ck] 26)).alloc (.cells #[.int .i64 y.kind, .string y.name, .int .i64 y.n, .bool y.flag, .slice bn y.names.length en, .slice bm y.marks.length em, .slice bk y.kids.length ek] 26)) (.cells #[pv ⟨w.heap.size, 0, none⟩, pv ⟨w.heap.size + 1, 0, none⟩] 44)
    rwa [World.size_alloc, World.size_alloc] at this
  have hlx : x.lies (fun _ => True) (((w.alloc (.cells #[.int .i64 x.kind, .string x.name, .int .i64 x.n, .bool x.flag, .slice an x.names.length cn, .slice am x.marks.length cm, .slice ak x.kids.length ck] 26)).alloc (.cells #[.int .i64 y.kind, .string y.name, .int .i64 y.n, .bool y.flag, .slice bn y.names.length en, .slice bm y.marks.length em, .slice bk y.kids.length ek] 26)).alloc (.cells #[pv ⟨w.heap.size, 0, none⟩, pv ⟨w.heap.size + 1, 0, none⟩] 44)) w.heap.size 0 := by
    obtain ⟨c0, c1, c2, c3, c4, c5, c6⟩ := bx7 hA
    exact lies_iff.2 ⟨c0, by simpa using c1, by simpa using c2, by simpa using c3, _, _, _, by simpa using c4, by simpa using c5, by simpa using c6, (hx.kept hb3).with (fun _ _ _ => trivial)⟩
  have hly : y.lies (fun _ => True) (((w.alloc (.cells #[.int .i64 x.kind, .string x.name, .int .i64 x.n, .bool x.flag, .slice an x.names.length cn, .slice am x.marks.length cm, .slice ak x.kids.length ck] 26)).alloc (.cells #[.int .i64 y.kind, .string y.name, .int .i64 y.n, .bool y.flag, .slice bn y.names.length en, .slice bm y.marks.length em, .slice bk y.kids.length ek] 26)).alloc (.cells #[pv ⟨w.heap.size, 0, none⟩, pv ⟨w.heap.size + 1, 0, none⟩] 44)) (w.heap.size + 1) 0 := by
    obtain ⟨c0, c1, c2, c3, c4, c5, c6⟩ := bx7 hB
    exact lies_iff.2 ⟨c0, by simpa using c1, by simpa using c2, by simpa using c3, _, _, _, by simpa using c4, by simpa using c5, by simpa using c6, (hy.kept hb3).with (fun _ _ _ => trivial)⟩
  have hwk := idnW (fc := 1) ⟨by simpa using cell_of hP 0, by simpa using cell_of hP 1⟩ hlx hly hc
  have HB3 : Hid (Below w.heap.size w (((w.alloc (.cells #[.int .i64 x.kind, .string x.name, .int .i64 x.n, .bool x.flag, .slice an x.names.length cn, .slice am x.marks.length cm, .slice ak x.kids.length ck] 26)).alloc (.cells #[.int .i64 y.kind, .string y.name, .int .i64 y.n, .bool y.flag, .slice bn y.names.length en, .slice bm y.marks.length em, .slice bk y.kids.length ek] 26)).alloc (.cells #[pv ⟨w.heap.size, 0, none⟩, pv ⟨w.heap.size + 1, 0, none⟩] 44))) := hb3
  unfold agT
  clear hb3 hA hB hP hlx hly hx hy
  go_enter Try.func13, Try.ntmps13
  go_wp2_with (go_at_call 22; refine hwk.mono ?_; rintro e w4 ⟨rfl, hk⟩; have HK : Hid _ := hk; clear hk hwk)
  go_ret
  exact ⟨rfl, bthen HB3.out HK.out⟩
end Go.Proofs.Ytcmnhkopmkaiaaa

