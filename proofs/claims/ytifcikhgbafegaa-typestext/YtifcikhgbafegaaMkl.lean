/-
  The law TypesMake, walked.
-/
import Derived.Test.YtifcikhgbafegaaAwk
import Derived.Test.YtifcikhgbafegaaInn
import Derived.Test.YtifcikhgbafegaaTyt
import Derived.Deep.RegionHeld3
namespace Go.Proofs.Ytifcikhgbafegaa
open Go.RowKit
attribute [local go_sem ↓] Go.wp_at_zero Go.wp_at_succ
theorem lkd_cnt {x : Ty} (h : Lkd x) : x.cnt ≤ 120 := by
  have := tsz_cnt x 120 (by omega) h.1
  have := h.1
  omega
theorem lkd_cntL : ∀ (l : List Ty), (∀ x ∈ l, Lkd x) → cntL l ≤ 120 * l.length
  | [], _ => by simp [cntL]
  | x :: r, h => by
    have h1 := lkd_cnt (h x (by simp))
    have h2 := lkd_cntL r (fun y hy => h y (by simp [hy]))
    simp [cntL]; omega
/-- a plain block with so many cells -/
def NBz (W : World) (b m : Nat) : Prop := ∃ cs T, W.heap[b]? = some (.cells cs T (0, 0)) ∧ m ≤ cs.size
theorem NBz.cell {W : World} {b m : Nat} (h : NBz W b m) {o : Nat} (ho : o < m) : ∃ v, W.cell? ⟨b, o, none⟩ = some v := by
  obtain ⟨cs, T, hb, hs⟩ := h
  exact ⟨cs[o], by rw [cell_of hb, Array.getElem?_eq_getElem]⟩
theorem NBz.frozen {W : World} {b m : Nat} (h : NBz W b m) (o : Nat) : W.frozen? ⟨b, o, none⟩ = false := by
  obtain ⟨cs, T, hb, _⟩ := h
  simp [World.frozen?, hb]
theorem NBz.set {W : World} {b m o : Nat} {v : Value} (h : NBz W b m) : NBz (W.setCell ⟨b, o, none⟩ v) b m := by
  obtain ⟨cs, T, hb, hs⟩ := h
  obtain ⟨hlt, hk⟩ := Array.getElem?_eq_some_iff.1 hb
  refine ⟨cs.setIfInBounds o v, T, ?_, by simpa using hs⟩
  show (W.heap.modify b _)[b]? = _
  rw [Array.getElem?_eq_getElem (by rw [Array.size_modify]; exact hlt), Array.getElem_modify_self, hk]
  rfl
theorem types_same {B B' : BQ} {w : World} {x : Ty} {vn vm vk un um uk : Value} (hp : Prt B w x vn vm vk) (hq : Prt B' w x un um uk) :
    Calls Try.prog 15 #[agT x vn vm vk, agT x un um uk] w fun e w' => e = .returned (.bool true) ∧ Below w.heap.size w w' := by
  have h := types_any B B' x x w vn vm vk un um uk hp hq
  rw [tyEq_true rfl] at h
  exact h
theorem types_mk {B B' : BQ} {w : World} {kind m : Int} {ks : List Ty} {bn bm bk : Option Addr} {en em ek i : Nat} {un um uk : Value} (hm : (mkT kind ks).n = m) (hp : Prt B w (mkT kind ks) (.slice bn 0 en) (.slice bm 0 em) (.slice bk i ek)) (hq : Prt B' w (mkT kind ks) un um uk) :
    Calls Try.prog 15 #[.agg #[.int .i64 kind, .string ⟨#[]⟩, .int .i64 m, .bool false, .slice bn 0 en, .slice bm 0 em, .slice bk i ek], agT (mkT kind ks) un um uk] w fun e w' => e = .returned (.bool true) ∧ Below w.heap.size w w' := by
  subst hm
  exact types_same hp hq
set_option maxRecDepth 100000 in
set_option maxHeartbeats 8000000 in
theorem typesMake_any {W : World} (kind : Int) {a : Option Addr} {n c : Nat} {ks : List Ty} (name : ByteArray) (h : SlT (fun b => b < W.heap.size) W (.slice a n c) ks) (hf : ∀ x ∈ ks, Fit x) :
    Calls Try.prog 5 #[.int .i64 kind, .slice a n c, .string name] W fun e w' => e = .returned (.bool true) ∧ Below W.heap.size W w' := by
  obtain ⟨a0, c0, e0, hlen, _⟩ := h.open
  have hnk : n = ks.length := by simp at e0; exact e0.2.1
  clear e0
  have HNK : Hid (n = ks.length) := hnk
  have HF : Hid (∀ x ∈ ks, Fit x) := hf
  by_cases h8 : 8 < n
  · have z8 : (8 : Int) < (n : Int) := by omega
    have z8b : decide ((8 : Int) < (n : Int)) = true := by simp; omega
    clear h hlen hnk hf
    go_enter Try.func5, Try.ntmps5
    go_wp2_with fail
    refine (awake_any W).mono ?_
    rintro e x1 ⟨rfl, hb⟩
    have HB : Hid _ := hb
    clear hb
    go_wp2_with fail
    go_ret
    exact ⟨rfl, HB.out⟩
  have z8 : ¬ (8 : Int) < (n : Int) := by omega
  have z8b : decide ((8 : Int) < (n : Int)) = false := by simp; omega
  have hn112 : n * 112 ≤ 140737488355328 := by omega
  have hcall := in_any h
  have HSL0 : Hid (SlT (fun b => b < W.heap.size) W (.slice a n c) ks) := h
  clear h hlen hnk hf
  go_enter Try.func5, Try.ntmps5
  go_wp2_with fail
  refine hcall.mono ?_
  rintro e x1 ⟨hbl, b, rfl, hin⟩
  have HB1 : Hid (Below W.heap.size W x1) := hbl
  have hz1 := hbl.size
  clear hcall hbl
  cases b with
  | false =>
    go_wp2_with fail
    refine (awake_any x1).mono ?_
    rintro e x2 ⟨rfl, hb⟩
    have HB : Hid _ := hb
    clear hb
    go_wp2_with fail
    go_ret
    exact ⟨rfl, bthen HB1.out HB.out⟩
  | true =>
    have hcl : cntL ks + 1 ≤ 1000000 := by have := lkd_cntL ks (hin rfl); have := HNK.out; omega
    have HSL1 : Hid (SlT (fun b => b < W.heap.size) x1 (.slice a n c) ks) := HSL0.out.kept HB1.out
    clear hin HSL0
    go_wp2_with (at_builtin; refine wp_appT (by rfl) _ _ (by rfl) (fun b => b < W.heap.size) (a2 := a) (n2 := n) (c2 := c) (l2 := ks) (by rfl) (by rfl) HSL1.out hn112 ?_; intro a3 c3 w2 hr2 hb2; have HR2 : Hid (RowT x1.heap.size (fun b => b < W.heap.size ∧ b < x1.heap.size) w2 (.slice a3 n c3) ks) := hr2; have HB2 : Hid (Below x1.heap.size x1 w2) := hb2; clear hr2 hb2)
    have hmk := make_any kind (HR2.out.read (B := fun _ => True) (by have := HNK.out; omega) (fun _ _ _ => trivial) (fun _ _ _ => trivial)) HF.out hcl
    refine hmk.mono ?_
    intro e w3 hq
    obtain ⟨un, um, uk, rfl, p3⟩ := hq.ex
    obtain ⟨bn, en, bm, em, bk, ek, rfl, rfl, rfl⟩ := p3.form
    have HB3 : Hid (Below w2.heap.size w2 w3) := hq.bl
    have hz3 := hq.bl.size
    have hz2 := HB2.out.size
    obtain ⟨m, hm⟩ : ∃ m, (mkT kind ks).n = m := ⟨_, rfl⟩
    have HP3 : Hid (Prt (fun b => w2.heap.size ≤ b) w3 (mkT kind ks) (.slice bn 0 en) (.slice bm 0 em) (.slice bk n ek)) := by
      have := p3
      rw [show (mkT kind ks).kids.length = n from HNK.out.symm] at this
      exact this
    rw [show agT (mkT kind ks) (.slice bn (mkT kind ks).names.length en) (.slice bm (mkT kind ks).marks.length em) (.slice bk (mkT kind ks).kids.length ek) = .agg #[.int .i64 kind, .string ⟨#[]⟩, .int .i64 m, .bool false, .slice bn 0 en, .slice bm 0 em, .slice bk n ek] by
      unfold agT; rw [hm, show (mkT kind ks).kids.length = n from HNK.out.symm]; rfl]
    have HM : Hid ((mkT kind ks).n = m) := hm
    clear hq p3 hmk hm
    obtain ⟨g, hg⟩ : ∃ g, 0 < n → a3 = some ⟨g, 0, none⟩ ∧ x1.heap.size ≤ g ∧ g < w2.heap.size ∧ NBz w2 g (n * 7) := by
      obtain ⟨vs, hvl, hro, _⟩ := HR2.out.ex
      rcases hro.2 with ⟨h0, h1⟩ | ⟨g, cap, cur, h0, h1, h2, h3, h4, h5, h6⟩
      · exact ⟨0, fun h => by have := HNK.out; omega⟩
      · refine ⟨g, fun _ => ⟨by simp at h0; exact h0.1, h1, (Array.getElem?_eq_some_iff.1 h2).1, cur, _, h2, ?_⟩⟩
        rw [h5, HNK.out]
        exact Nat.mul_le_mul_right _ h3
    have hT8 := heap_new w3 (.cells #[.int .i64 kind, .string ⟨#[]⟩, .int .i64 m, .bool false, .slice bn 0 en, .slice bm 0 em, .slice bk n ek] 26)
    have HT8 : Hid ((w3.alloc (.cells #[.int .i64 kind, .string ⟨#[]⟩, .int .i64 m, .bool false, .slice bn 0 en, .slice bm 0 em, .slice bk n ek] 26)).heap[w3.heap.size]? = some (.cells #[.int .i64 kind, .string ⟨#[]⟩, .int .i64 m, .bool false, .slice bn 0 en, .slice bm 0 em, .slice bk n ek] 26 (0, 0))) := hT8
    have HB4 : Hid (Below w2.heap.size w2 (w3.alloc (.cells #[.int .i64 kind, .string ⟨#[]⟩, .int .i64 m, .bool false, .slice bn 0 en, .slice bm 0 em, .slice bk n ek] 26))) := bthen HB3.out (below_alloc _ _)
    have HG : Hid (0 < n → a3 = some ⟨g, 0, none⟩ ∧ x1.heap.size ≤ g ∧ g < w2.heap.size ∧ NBz w2 g (n * 7)) := hg
    have HNB : Hid (0 < n → NBz (w3.alloc (.cells #[.int .i64 kind, .string ⟨#[]⟩, .int .i64 m, .bool false, .slice bn 0 en, .slice bm 0 em, .slice bk n ek] 26)) g (n * 7)) := fun h => by
      obtain ⟨cs, T, hb, hs⟩ := (hg h).2.2.2
      exact ⟨cs, T, blk_kept HB4.out hb, hs⟩
    have HPW : Hid (Prt (fun b => w2.heap.size ≤ b ∧ b < w3.heap.size) (w3.alloc (.cells #[.int .i64 kind, .string ⟨#[]⟩, .int .i64 m, .bool false, .slice bn 0 en, .slice bm 0 em, .slice bk n ek] 26)) (mkT kind ks) (.slice bn 0 en) (.slice bm 0 em) (.slice bk n ek)) := (HP3.out.with (fun b h1 h2 => ⟨h2, h1⟩)).kept (below_alloc _ _)
    have HSW : Hid (SlT (fun b => b < W.heap.size) (w3.alloc (.cells #[.int .i64 kind, .string ⟨#[]⟩, .int .i64 m, .bool false, .slice bn 0 en, .slice bm 0 em, .slice bk n ek] 26)) (.slice a n c) ks) := (HSL1.out.kept HB2.out).kept HB4.out
    have HBW : Hid (Below W.heap.size W (w3.alloc (.cells #[.int .i64 kind, .string ⟨#[]⟩, .int .i64 m, .bool false, .slice bn 0 en, .slice bm 0 em, .slice bk n ek] 26))) := bthen HB1.out (bthen HB2.out HB4.out)
    obtain ⟨T8, hT⟩ : ∃ T8, w3.heap.size = T8 := ⟨_, rfl⟩
    go_wp2_with fail
    rw [hT] at HT8
    rw [hT] at HPW
    try rw [hT]
    have hT8w : w2.heap.size ≤ T8 := by omega
    clear hT
    generalize (w3.alloc (.cells #[.int .i64 kind, .string ⟨#[]⟩, .int .i64 m, .bool false, .slice bn 0 en, .slice bm 0 em, .slice bk n ek] 26)) = W4 at *
    clear hg hT8 HP3 HR2 HSL1 HB3
    go_loopg [9] n (fun gh u9 wr => ∃ i : Nat, i ≤ n ∧ n - i ≤ gh ∧ u9 = .int .i64 i ∧ Hid (Kx (fun b => 0 < n ∧ b = g) W4 wr) ∧ Hid (0 < n → NBz wr g (n * 7)))
    case atStart => exact ⟨0, Nat.zero_le _, Nat.le_refl _, rfl, Kx.refl _ _, HNB⟩
    case round =>
      obtain ⟨i, hi, hgh, rfl, HK, HN⟩ := hrel
      by_cases hlt : i < n
      · have z1 : (i : Int) < (n : Int) := by omega
        have z0 : (0 : Int) ≤ (i : Int) := by omega
        obtain ⟨rfl, _⟩ := HG.out (by omega)
        obtain ⟨v, hv⟩ := (HN.out (by omega)).cell (o := i * 7 + 1) (by omega)
        have hfz := (HN.out (by omega)).frozen (i * 7 + 1)
        go_wp2_with fail
        go_roundg (n - (i + 1))
        case measure => omega
        case rel =>
          refine ⟨i + 1, by omega, Nat.le_refl _, by go_num, ?_, fun h => (HN.out h).set⟩
          show Kx _ _ _
          exact HK.out.andThen kx_set (fun _ _ h => h) (fun b _ e => ⟨by omega, e⟩)
      · obtain rfl : i = n := by omega
        have z1 : ¬ (i : Int) < (i : Int) := by omega
        have hgT : ∀ b, (0 < i ∧ b = g) → W.heap.size ≤ b ∧ b < w2.heap.size := fun b hb => by
          have := HG.out hb.1
          exact ⟨by omega, by omega⟩
        have HSL : Hid (SlT (fun b => b < W.heap.size) wr (.slice a i c) ks) := HSW.out.to HK.out (fun _ _ h => h) (fun b _ h e => by have := hgT b e; omega)
        have HP8 : Hid (Prt (fun b => w2.heap.size ≤ b ∧ b < T8) wr (mkT kind ks) (.slice bn 0 en) (.slice bm 0 em) (.slice bk i ek)) := HPW.out.to HK.out (fun _ _ h => h) (fun b _ h e => by have := hgT b e; omega)
        have hT8 : wr.heap[T8]? = some (.cells #[.int .i64 kind, .string ⟨#[]⟩, .int .i64 m, .bool false, .slice bn 0 en, .slice bm 0 em, .slice bk i ek] 26 (0, 0)) := HK.out.keep _ _ HT8.out (fun e => by have := hgT T8 e; omega)
        have HBR : Hid (Below W.heap.size W wr) := HBW.out.trans (HK.out.below HBW.out.size (fun b hb e => by have := hgT b e; omega))
        have HKP : Hid (∀ W', Below wr.heap.size wr W' → W'.cell? ⟨T8, 0, none⟩ = some (.int .i64 kind) ∧ W'.cell? ⟨T8, 1, none⟩ = some (.string ⟨#[]⟩) ∧ W'.cell? ⟨T8, 2, none⟩ = some (.int .i64 m) ∧ W'.cell? ⟨T8, 3, none⟩ = some (.bool false) ∧ W'.cell? ⟨T8, 4, none⟩ = some (.slice bn 0 en) ∧ W'.cell? ⟨T8, 5, none⟩ = some (.slice bm 0 em) ∧ W'.cell? ⟨T8, 6, none⟩ = some (.slice bk i ek)) := fun W' hb => bx7 (blk_kept hb hT8)
        have kS := HKP.out wr (Below.refl _ _)
        go_wp2_with fail
        refine wp_region_held_drew (S := fun w' => w'.cell? ⟨T8, 0, none⟩ = some (.int .i64 kind) ∧ w'.cell? ⟨T8, 1, none⟩ = some (.string ⟨#[]⟩) ∧ w'.cell? ⟨T8, 2, none⟩ = some (.int .i64 m) ∧ w'.cell? ⟨T8, 3, none⟩ = some (.bool false) ∧ w'.cell? ⟨T8, 4, none⟩ = some (.slice bn 0 en) ∧ w'.cell? ⟨T8, 5, none⟩ = some (.slice bm 0 em) ∧ w'.cell? ⟨T8, 6, none⟩ = some (.slice bk i ek)) (by kernel_rfl) (by exact kS) (fun hHeld => ?_)
        clear hHeld
        refine wpAnyH_take (i := 0) (oi := { dst := some 35, op := Op.load 26 (Operand.tmp 8), type := 26, pos := "law.go:119", after := #[], guard := none }) (v := ?_) rfl (by kernel_rfl) (by kernel_rfl) (by kernel_rfl) (fun _ _ _ h => h) (Or.inl ⟨by rfl, ?_⟩) (by exact kS) ?_
        rotate_left
        · intro w hSw; (try dsimp only at hSw); (go_simp <;> with_reducible rfl)
        try simp only [Act.put, List.setIfInBounds_toArray, List.set_cons_zero, List.set_cons_succ]
        refine wpAnyH_take (i := 1) (oi := { dst := some 36, op := Op.move (Operand.tmp 0), type := 3, pos := "law.go:119", after := #[], guard := none }) (v := ?_) rfl (by kernel_rfl) (by kernel_rfl) (by kernel_rfl) (fun _ _ _ h => h) (Or.inl ⟨by rfl, ?_⟩) (by exact kS) ?_
        rotate_left
        · intro w hSw; (try dsimp only at hSw); (go_simp <;> with_reducible rfl)
        try simp only [Act.put, List.setIfInBounds_toArray, List.set_cons_zero, List.set_cons_succ]
        refine wpAnyH_take (i := 2) (oi := { dst := some 37, op := Op.move (Operand.tmp 1), type := 24, pos := "law.go:119", after := #[], guard := none }) (v := ?_) rfl (by kernel_rfl) (by kernel_rfl) (by kernel_rfl) (fun _ _ _ h => h) (Or.inl ⟨by rfl, ?_⟩) (by exact kS) ?_
        rotate_left
        · intro w hSw; (try dsimp only at hSw); (go_simp <;> with_reducible rfl)
        try simp only [Act.put, List.setIfInBounds_toArray, List.set_cons_zero, List.set_cons_succ]
        refine wpAnyH_ready (rs := [3]) (by kernel_rfl) (by simp) ?_
        refine AllReadyH.cons (o := { dst := some 38, op := Op.call { callee := Callee.value (Operand.func 21), args := #[Operand.tmp 36, Operand.tmp 37], argTypes := #[3, 24] }, type := 26, pos := "law.go:119", after := #[{ on := 1, ground := Ground.data }, { on := 2, ground := Ground.data }], guard := none }) rfl (fun K hK => ?_) AllReadyH.nil
        go_simp
        go_at_call 21; refine (rmake_any kind (HSL.out.kept (below_drew1 _)) hn112).mono ?_; intro e x1 hq; obtain ⟨r1n, r1m, r1k, rfl, q1⟩ := hq.ex; have HB1 : Hid (Below wr.heap.size wr x1) := bthen (below_drew1 _) hq.bl; have HQ1 : Hid _ := q1; have kS := HKP.out x1 HB1.out; clear hq q1
        go_wp2_with fail
        refine hK.out _ _ (by exact kS) (fun hHeld => ?_)
        clear hK K hHeld
        try simp only [Act.put, List.setIfInBounds_toArray, List.set_cons_zero, List.set_cons_succ]
        refine wpAnyH_ready (rs := [4]) (by kernel_rfl) (by simp) ?_
        refine AllReadyH.cons (o := { dst := some 39, op := Op.call { callee := Callee.value (Operand.func 15), args := #[Operand.tmp 35, Operand.tmp 38], argTypes := #[26, 26] }, type := 4, pos := "law.go:119", after := #[{ on := 0, ground := Ground.data }, { on := 3, ground := Ground.data }, { on := 3, ground := Ground.chain }], guard := none }) rfl (fun K hK => ?_) AllReadyH.nil
        go_simp
        go_at_call 15; refine (types_mk HM.out (HP8.out.kept HB1.out) HQ1.out).mono ?_; rintro e x2 ⟨rfl, hb⟩; have HB2 : Hid (Below wr.heap.size wr x2) := bthen HB1.out hb; have kS := HKP.out x2 HB2.out; clear hb
        go_wp2_with fail
        refine hK.out _ _ (by exact kS) (fun hHeld => ?_)
        clear hK K hHeld
        try simp only [Act.put, List.setIfInBounds_toArray, List.set_cons_zero, List.set_cons_succ]
        refine wpAnyH_take (i := 5) (oi := { dst := some 40, op := Op.move (Operand.tmp 39), type := 4, pos := "law.go:119", after := #[{ on := 4, ground := Ground.data }, { on := 4, ground := Ground.chain }], guard := none }) (v := ?_) rfl (by kernel_rfl) (by kernel_rfl) (by kernel_rfl) (fun _ _ _ h => h) (Or.inl ⟨by rfl, ?_⟩) (by exact kS) ?_
        rotate_left
        · intro w hSw; (try dsimp only at hSw); (go_simp <;> with_reducible rfl)
        try simp only [Act.put, List.setIfInBounds_toArray, List.set_cons_zero, List.set_cons_succ]
        refine wpAnyH_take (i := 6) (oi := { dst := some 41, op := Op.move (Operand.tmp 2), type := 9, pos := "law.go:119", after := #[{ on := 5, ground := Ground.guard }], guard := some (5, true) }) (v := ?_) rfl (by kernel_rfl) (by kernel_rfl) (by kernel_rfl) (fun _ _ _ h => h) (Or.inl ⟨by rfl, ?_⟩) (by exact kS) ?_
        rotate_left
        · intro w hSw; (try dsimp only at hSw); (go_simp <;> with_reducible rfl)
        try simp only [Act.put, List.setIfInBounds_toArray, List.set_cons_zero, List.set_cons_succ]
        refine wpAnyH_take (i := 8) (oi := { dst := some 43, op := Op.move (Operand.tmp 2), type := 9, pos := "law.go:119", after := #[{ on := 5, ground := Ground.guard }], guard := some (5, true) }) (v := ?_) rfl (by kernel_rfl) (by kernel_rfl) (by kernel_rfl) (fun _ _ _ h => h) (Or.inl ⟨by rfl, ?_⟩) (by exact kS) ?_
        rotate_left
        · intro w hSw; (try dsimp only at hSw); (go_simp <;> with_reducible rfl)
        try simp only [Act.put, List.setIfInBounds_toArray, List.set_cons_zero, List.set_cons_succ]
        refine wpAnyH_ready (rs := [7]) (by kernel_rfl) (by simp) ?_
        refine AllReadyH.cons (o := { dst := some 42, op := Op.call { callee := Callee.value (Operand.func 22), args := #[Operand.tmp 41], argTypes := #[9] }, type := 26, pos := "law.go:119", after := #[{ on := 6, ground := Ground.data }, { on := 5, ground := Ground.chain }, { on := 5, ground := Ground.guard }], guard := some (5, true) }) rfl (fun K hK => ?_) AllReadyH.nil
        go_simp
        go_at_call 22; refine (name_any name x2 (fun _ => True)).mono ?_; intro e x3 hq; obtain ⟨r3n, r3m, r3k, rfl, q3⟩ := hq.ex; have HB3 : Hid (Below wr.heap.size wr x3) := bthen HB2.out hq.bl; have HQ3 : Hid _ := q3; have kS := HKP.out x3 HB3.out; clear hq q3
        go_wp2_with fail
        refine hK.out _ _ (by exact kS) (fun hHeld => ?_)
        clear hK K hHeld
        try simp only [Act.put, List.setIfInBounds_toArray, List.set_cons_zero, List.set_cons_succ]
        refine wpAnyH_ready (rs := [9]) (by kernel_rfl) (by simp) ?_
        refine AllReadyH.cons (o := { dst := some 44, op := Op.call { callee := Callee.value (Operand.func 23), args := #[Operand.tmp 43], argTypes := #[9] }, type := 26, pos := "law.go:119", after := #[{ on := 8, ground := Ground.data }, { on := 7, ground := Ground.chain }, { on := 5, ground := Ground.guard }], guard := some (5, true) }) rfl (fun K hK => ?_) AllReadyH.nil
        go_simp
        go_at_call 23; refine (rname_any name x3 (fun _ => True)).mono ?_; intro e x4 hq; obtain ⟨r4n, r4m, r4k, rfl, q4⟩ := hq.ex; have HB34 : Hid (Below x3.heap.size x3 x4) := hq.bl; have HB4 : Hid (Below wr.heap.size wr x4) := bthen HB3.out hq.bl; have HQ4 : Hid _ := q4; have kS := HKP.out x4 HB4.out; clear hq q4
        go_wp2_with fail
        refine hK.out _ _ (by exact kS) (fun hHeld => ?_)
        clear hK K hHeld
        try simp only [Act.put, List.setIfInBounds_toArray, List.set_cons_zero, List.set_cons_succ]
        refine wpAnyH_ready (rs := [10]) (by kernel_rfl) (by simp) ?_
        refine AllReadyH.cons (o := { dst := some 45, op := Op.call { callee := Callee.value (Operand.func 15), args := #[Operand.tmp 42, Operand.tmp 44], argTypes := #[26, 26] }, type := 4, pos := "law.go:119", after := #[{ on := 7, ground := Ground.data }, { on := 9, ground := Ground.data }, { on := 9, ground := Ground.chain }, { on := 5, ground := Ground.guard }], guard := some (5, true) }) rfl (fun K hK => ?_) AllReadyH.nil
        go_simp
        go_at_call 15; refine (types_same (HQ3.out.kept HB34.out) HQ4.out).mono ?_; rintro e x5 ⟨rfl, hb⟩; have HB5 : Hid (Below wr.heap.size wr x5) := bthen HB4.out hb; have kS := HKP.out x5 HB5.out; clear hb
        go_wp2_with fail
        refine hK.out _ _ (by exact kS) (fun hHeld => ?_)
        clear hK K hHeld
        try simp only [Act.put, List.setIfInBounds_toArray, List.set_cons_zero, List.set_cons_succ]
        refine wpAnyH_take (i := 11) (oi := { dst := some 46, op := Op.pick (Operand.tmp 40) (Operand.tmp 45) (Operand.const (Value.bool false)), type := 4, pos := "law.go:119", after := #[{ on := 5, ground := Ground.data }, { on := 10, ground := Ground.data }], guard := none }) (v := ?_) rfl (by kernel_rfl) (by kernel_rfl) (by kernel_rfl) (fun _ _ _ h => h) (Or.inl ⟨by rfl, ?_⟩) (by exact kS) ?_
        rotate_left
        · intro w hSw; (try dsimp only at hSw); (go_simp <;> with_reducible rfl)
        try simp only [Act.put, List.setIfInBounds_toArray, List.set_cons_zero, List.set_cons_succ]
        refine wpAnyH_take (i := 12) (oi := { dst := some 47, op := Op.move (Operand.tmp 46), type := 4, pos := "law.go:119", after := #[{ on := 11, ground := Ground.data }, { on := 10, ground := Ground.chain }], guard := none }) (v := ?_) rfl (by kernel_rfl) (by kernel_rfl) (by kernel_rfl) (fun _ _ _ h => h) (Or.inl ⟨by rfl, ?_⟩) (by exact kS) ?_
        rotate_left
        · intro w hSw; (try dsimp only at hSw); (go_simp <;> with_reducible rfl)
        try simp only [Act.put, List.setIfInBounds_toArray, List.set_cons_zero, List.set_cons_succ]
        refine wpAnyH_ready (rs := [13]) (by kernel_rfl) (by simp) ?_
        refine AllReadyH.cons (o := { dst := some 48, op := Op.call { callee := Callee.value (Operand.func 10), args := #[], argTypes := #[] }, type := 4, pos := "law.go:119", after := #[{ on := 12, ground := Ground.chain }, { on := 12, ground := Ground.guard }], guard := some (12, true) }) rfl (fun K hK => ?_) AllReadyH.nil
        go_simp
        go_at_call 10; refine (awake_any x5).mono ?_; rintro e x6 ⟨rfl, hb⟩; have HB6 : Hid (Below wr.heap.size wr x6) := bthen HB5.out hb; have kS := HKP.out x6 HB6.out; clear hb
        go_wp2_with fail
        refine hK.out _ _ (by exact kS) (fun hHeld => ?_)
        clear hK K hHeld
        try simp only [Act.put, List.setIfInBounds_toArray, List.set_cons_zero, List.set_cons_succ]
        refine wpAnyH_take (i := 14) (oi := { dst := some 49, op := Op.pick (Operand.tmp 47) (Operand.tmp 48) (Operand.const (Value.bool false)), type := 4, pos := "law.go:119", after := #[{ on := 12, ground := Ground.data }, { on := 13, ground := Ground.data }], guard := none }) (v := ?_) rfl (by kernel_rfl) (by kernel_rfl) (by kernel_rfl) (fun _ _ _ h => h) (Or.inl ⟨by rfl, ?_⟩) (by exact kS) ?_
        rotate_left
        · intro w hSw; (try dsimp only at hSw); (go_simp <;> with_reducible rfl)
        try simp only [Act.put, List.setIfInBounds_toArray, List.set_cons_zero, List.set_cons_succ]
        refine wpAnyH_take (i := 15) (oi := { dst := some 6, op := Op.assign (Operand.tmp 49), type := 4, pos := "law.go:119", after := #[{ on := 14, ground := Ground.data }, { on := 13, ground := Ground.chain }, { on := 0, ground := Ground.phase }, { on := 1, ground := Ground.phase }, { on := 2, ground := Ground.phase }, { on := 3, ground := Ground.phase }, { on := 4, ground := Ground.phase }, { on := 5, ground := Ground.phase }, { on := 6, ground := Ground.phase }, { on := 7, ground := Ground.phase }, { on := 8, ground := Ground.phase }, { on := 9, ground := Ground.phase }, { on := 10, ground := Ground.phase }, { on := 11, ground := Ground.phase }, { on := 12, ground := Ground.phase }, { on := 13, ground := Ground.phase }, { on := 14, ground := Ground.phase }], guard := none }) (v := ?_) rfl (by kernel_rfl) (by kernel_rfl) (by kernel_rfl) (fun _ _ _ h => h) (Or.inl ⟨by rfl, ?_⟩) (by exact kS) ?_
        rotate_left
        · intro w hSw; (try dsimp only at hSw); (go_simp <;> with_reducible rfl)
        try simp only [Act.put, List.setIfInBounds_toArray, List.set_cons_zero, List.set_cons_succ]
        refine wpAnyH_done (by kernel_rfl) ?_ _
        go_wp2_with fail
        go_ret
        exact ⟨rfl, bthen HBR.out HB6.out⟩
end Go.Proofs.Ytifcikhgbafegaa
