/-
  types.Text, walked, for all types that can be laid.
-/
import Derived.Test.YtifcikhgbafegabTxt1
import Derived.Test.YtifcikhgbafegabTxp
namespace Go.Proofs.Ytifcikhgbafegab
open Go.RowKit
attribute [local go_sem ↓] Go.wp_at_zero Go.wp_at_succ
/-- a piece: a text, or a type where it stands -/
inductive Pc where
  | txt (s : ByteArray)
  | typ (b o : Nat) (t : Ty)
def Pc.e : Pc → ElQ
  | .txt s => tx s
  | .typ b o _ => ty ⟨b, o, none⟩
def Pc.tx : Pc → Bs
  | .txt s => LB s
  | .typ _ _ t => t.txt
/-- how much a piece weighs -/
def Pc.wt (wg : Ty → Nat) : Pc → Nat
  | .txt _ => 1
  | .typ _ _ t => wg t
def wgL (wg : Ty → Nat) : List Pc → Nat
  | [] => 0
  | p :: r => p.wt wg + wgL wg r
theorem wgL_append (wg : Ty → Nat) (a b : List Pc) : wgL wg (a ++ b) = wgL wg a + wgL wg b := by
  induction a with
  | nil => simp [wgL]
  | cons p r ih => simp [wgL, ih]; omega
/-- a type where it stands may be asked -/
def Pc.ok (G : Ty → Prop) (D : BQ) (W : World) : Pc → Prop
  | .txt _ => True
  | .typ b o t => G t ∧ D b ∧ t.lies D W b o
/-- types can be laid: their pieces say their text, and weigh less -/
def Lays (G : Ty → Prop) (wg : Ty → Nat) : Prop := ∀ t, G t → 0 < wg t ∧ ∀ (D : BQ) (w : World) (b o : Nat), D b → t.lies D w b o → ∃ pcs : List Pc, pcs.flatMap Pc.tx = t.txt ∧ wgL wg pcs < wg t ∧ pcs.length ≤ wg t ∧ (∀ p ∈ pcs, p.ok G D w) ∧
    ∀ (w1 : World) (L : Nat), Below w.heap.size w w1 → w.heap.size ≤ L → Ln w1 L none [] → wg t ≤ 1000000 → Calls Try.prog 19 #[.pointer (some ⟨L, 0, none⟩), pv ⟨b, o, none⟩] w1 fun e w' => (∃ u, e = .returned u) ∧ LQ w1 L none (pcs.map Pc.e) w'
theorem wg_pos {G : Ty → Prop} {wg : Ty → Nat} {D : BQ} {W : World} (hL : Lays G wg) {p : Pc} (h : p.ok G D W) : 0 < p.wt wg := by
  cases p with
  | txt s => simp [Pc.wt]
  | typ b o t => exact (hL t h.1).1
theorem wgL_len {G : Ty → Prop} {wg : Ty → Nat} {D : BQ} {W : World} (hL : Lays G wg) : ∀ (l : List Pc), (∀ p ∈ l, p.ok G D W) → l.length ≤ wgL wg l
  | [], _ => by simp
  | p :: r, h => by
    have h1 := wgL_len hL r (fun q hq => h q (by simp [hq]))
    have h2 := wg_pos hL (h p (by simp))
    simp [wgL]; omega
theorem Pc.ok.to {G : Ty → Prop} {D : BQ} {X : Nat → Prop} {W W' : World} {p : Pc} (h : p.ok G D W) (hk : Kx X W W') (hX : ∀ b, D b → ¬ X b) : p.ok G D W' := by
  cases p with
  | txt s => trivial
  | typ b o t => exact ⟨h.1, h.2.1, lies_to hk (fun _ _ h => h) (fun b _ h => hX b h) _ _ _ (hX b h.2.1) h.2.2⟩
/-- between two steps -/
structure TxI (G : Ty → Prop) (wg : Ty → Nat) (w0 : World) (Bb base : Nat) (F : Bs) (g : Nat) (X : Nat → Prop) (l : List ElQ) (W : World) : Prop where
  old : Kx (· = Bb) w0 W
  bb : Bb < w0.heap.size
  ba : base ≤ w0.heap.size
  all : ∀ b, b < w0.heap.size → X b
  lt : ∀ b, X b → b < W.heap.size
  gb : g ≤ 1000000
  ex : ∃ (pcs : List Pc) (acc : Bs) (v : Value), pcs.map Pc.e = l ∧ wgL wg pcs = g ∧ (∀ p ∈ pcs, p.ok G (fun b => b < w0.heap.size ∧ b ≠ Bb) W) ∧ Bd base W Bb v (Lib.byteCells acc) ∧ (∀ k, v.ownBlock = some k → X k) ∧ (∀ k, v.ownBlock = some k → w0.heap.size ≤ k) ∧ acc ++ pcs.flatMap Pc.tx = F
theorem byte_str (acc : Bs) (s : ByteArray) : Lib.byteCells (acc ++ LB s) = Lib.byteCells acc ++ Lib.strCells s := by simp [Lib.byteCells, Lib.strCells, LB]
theorem byte_len (acc : Bs) : (Lib.byteCells acc).length = acc.length := by simp [Lib.byteCells]
section
variable {G : Ty → Prop} {wg : Ty → Nat} {w0 : World} {Bb base : Nat} {F : Bs} {g : Nat} {X : Nat → Prop} {l : List ElQ} {W W' : World}
theorem TxI.stable (h : TxI G wg w0 Bb base F g X l W) (hk : Kx (fun b => ¬ X b) W W') : TxI G wg w0 Bb base F g X l W' := by
  obtain ⟨pcs, acc, v, e1, e2, hok, hbd, hv, hv0, hF⟩ := h.ex
  refine ⟨h.old.andThen hk (fun _ _ h => h) (fun b hb hx => absurd (h.all b hb) hx), h.bb, h.ba, h.all, fun b hb => Nat.lt_of_lt_of_le (h.lt b hb) hk.size, h.gb, pcs, acc, v, e1, e2, fun p hp => (hok p hp).to hk (fun b hb hx => hx (h.all b hb.1)), ⟨?_, ?_⟩, hv, hv0, hF⟩
  · exact hbd.blk.imp (fun hb => hk.keep _ _ hb (fun hx => hx (h.all _ h.bb))) (fun hb => hk.keep _ _ hb (fun hx => hx (h.all _ h.bb)))
  · exact ownsRow_kx hbd.row hk (fun k hk' hx => hx (hv k hk'))
theorem TxI.len (hL : Lays G wg) (h : TxI G wg w0 Bb base F g X l W) : l.length ≤ 1000000 := by
  obtain ⟨pcs, acc, v, e1, e2, hok, _⟩ := h.ex
  have h1 := wgL_len hL pcs hok
  have := h.gb
  rw [← e1, List.length_map]; omega
theorem rwQ_own {base n : Nat} {v : Value} {l : List ElQ} {B : BQ} (h : W.ownsRow base 49 2 v n (l.flatMap ecQ)) (hn : n = l.length) (hm : n ≤ 9223372036854775807) (hB : ∀ k, v.ownBlock = some k → B k) : RwQ B W v l := by
  subst hn
  rcases h.2 with ⟨rfl, h0⟩ | ⟨g, cap, cur, rfl, _, hg, _⟩
  · exact .inl ⟨none, 0, rfl, List.length_eq_zero_iff.1 h0⟩
  · refine .inr ⟨g, 0, cap, rfl, by omega, (Array.getElem?_eq_some_iff.1 hg).1, hB g rfl, fun i x hx => ?_⟩
    have key : ∀ (l : List ElQ) (i : Nat) (x : ElQ), l[i]? = some x → (l.flatMap ecQ)[i * 2]? = some (.string x.1) ∧ (l.flatMap ecQ)[i * 2 + 1]? = some (.pointer x.2) := by
      intro l
      induction l with
      | nil => intro i x hx; simp at hx
      | cons y r ih =>
        intro i x hx
        cases i with
        | zero => obtain rfl : y = x := by simpa using hx
                  simp [ecQ]
        | succ i =>
          obtain ⟨h1, h2⟩ := ih i x (by simpa using hx)
          rw [List.flatMap_cons, show (i + 1) * 2 = i * 2 + 2 by omega]
          simp [ecQ, h1, h2]
    obtain ⟨h1, h2⟩ := key l i x hx
    have c1 := h.cells (g := g) rfl _ _ h1
    have c2 := h.cells (g := g) rfl _ _ h2
    rw [Addr.add_lit] at c1 c2
    exact ⟨c1, by rw [Nat.add_assoc]; exact c2⟩
theorem TxI.call (hL : Lays G wg) (hFl : F.length ≤ 100000000) {x : ElQ} {r : List ElQ} (h : TxI G wg w0 Bb base F g X (x :: r) W) : Calls Try.prog 17 (#[evQ x] ++ #[pv ⟨Bb, 0, none⟩]) W (SpQ (TxI G wg w0 Bb base F) (fun _ _ => False) g X r W) := by
  obtain ⟨pcs, acc, v, e1, e2, hok, hbd, hv, hv0, hF⟩ := h.ex
  cases pcs with
  | nil => simp at e1
  | cons p qs =>
    obtain ⟨rfl, rfl⟩ : p.e = x ∧ qs.map Pc.e = r := by simpa using e1
    have hzs := h.old.size
    have hba := h.ba
    have hgb := h.gb
    have hqs := fun q hq => hok q (List.mem_cons.2 (.inr hq))
    have hacc : acc.length + (p.tx).length ≤ F.length := by rw [← hF]; simp
    cases p with
    | txt s =>
      have hst := text1_txt s hbd (by rw [byte_len]; simp [Pc.tx, LB] at hacc; have : s.size = s.data.size := rfl; omega) (by omega)
      refine hst.mono ?_
      rintro e W5 ⟨rfl, ⟨v', hbd', hv'⟩, hkx⟩
      have hz := hkx.size
      refine .inl ⟨none, 0, 0, [], g - 1, fun b => X b ∨ (W.heap.size ≤ b ∧ b < W5.heap.size), rfl, .inl ⟨_, _, rfl, rfl⟩, ?_, ⟨?_, h.bb, h.ba, fun b hb => .inl (h.all b hb), ?_, by omega, qs, acc ++ LB s, v', rfl, ?_, fun q hq => (hqs q hq).to hkx (fun c hc e => by rcases e with e | e; exact hc.2 e; have := hv0 c e; have := hc.1; omega), ?_, ?_, ?_, ?_⟩, ?_, fun b hb hx => hx.resolve_right (by omega)⟩
      · simp [wgL, Pc.wt] at e2; omega
      · exact h.old.andThen hkx (fun _ _ h => h) (fun b hb e => by rcases e with e | e; exact e; have := hv0 b e; omega)
      · rintro b (hb | hb)
        · have := h.lt b hb; omega
        · exact hb.2
      · simp [wgL, Pc.wt] at e2; omega
      · rw [byte_str]; exact hbd'
      · intro k hk
        rcases hv' k hk with h1 | h1
        · exact .inl (hv k h1)
        · exact .inr ⟨h1, (hbd'.row.lt k hk).2⟩
      · intro k hk
        rcases hv' k hk with h1 | h1
        · exact hv0 k h1
        · omega
      · rw [← hF]; simp [Pc.tx]
      · exact hkx.andThen (Kx.refl (fun _ => False) _) (fun b _ e => by rcases e with rfl | e; exact h.all _ h.bb; exact hv b e) (fun _ _ h => h.elim)
    | typ b o t =>
      obtain ⟨hG, hD, hlies⟩ := hok (.typ b o t) (by simp)
      obtain ⟨hpos, hlay⟩ := hL t hG
      obtain ⟨ns, hn1, hn2, hn3, hn4, hn5⟩ := hlay (fun c => c < w0.heap.size ∧ c ≠ Bb) W b o hD hlies
      have e2' : wg t + wgL wg qs = g := by simpa [wgL, Pc.wt] using e2
      have hst := text1_typ (w := W) (Bb := Bb) (b := b) (o := o) (P := ns.map Pc.e) (fun w1 hb L hL' hln => hn5 w1 L hb hL' hln (by omega))
      refine hst.mono ?_
      rintro e W5 ⟨a, c, rfl, hrow, hnew, hbl⟩
      have hz := hbl.size
      have hB : Bb < W.heap.size := by have := h.bb; omega
      refine .inl ⟨a, _, c, ns.map Pc.e, wgL wg (ns ++ qs), fun b => X b ∨ (W.heap.size ≤ b ∧ b < W5.heap.size), rfl, ?_, ?_, ⟨?_, h.bb, h.ba, fun b hb => .inl (h.all b hb), ?_, ?_, ns ++ qs, acc, v, by simp, rfl, ?_, ⟨?_, ?_⟩, fun k hk => .inl (hv k hk), hv0, ?_⟩, Kx.of_whole hbl, fun b hb hx => hx.resolve_right (by omega)⟩
      · refine rwQ_own hrow rfl ?_ (fun k hk => .inr ⟨hnew k hk, (hrow.lt k hk).2⟩)
        rw [List.length_map]; omega
      · rw [wgL_append]; omega
      · exact h.old.andThen (Kx.of_whole (X := fun _ => False) hbl) (fun _ _ h => h) (fun _ _ h => h.elim)
      · rintro b (hb | hb)
        · have := h.lt b hb; omega
        · exact hb.2
      · rw [wgL_append]; omega
      · intro q hq
        rcases List.mem_append.1 hq with hq | hq
        · exact (hn4 q hq).to (Kx.of_whole (X := fun _ => False) hbl) (fun _ _ h => h)
        · exact (hqs q hq).to (Kx.of_whole (X := fun _ => False) hbl) (fun _ _ h => h)
      · exact hbd.blk.imp (blk_kept hbl) (blk_kept hbl)
      · exact own_kept hbd.row hbl
      · rw [List.flatMap_append, hn1, ← hF]; simp [Pc.tx]
end
theorem enterT : ∀ args w, (callFunc 17 args).run Try.prog w = .ok (.enter 17 args) w := enters_of Try.func17 (by kernel_rfl) rfl
theorem textW {G : Ty → Prop} {wg : Ty → Nat} (hL : Lays G wg) {w0 : World} {Bb base fb fc b o : Nat} {t : Ty} (hf : w0.cell? ⟨fb, 0, none⟩ = some (.string ⟨#[]⟩) ∧ w0.cell? ⟨fb, 1, none⟩ = some (pv ⟨b, o, none⟩)) (hG : G t) (hb : b < w0.heap.size ∧ b ≠ Bb) (hl : t.lies (fun c => c < w0.heap.size ∧ c ≠ Bb) w0 b o)
    (hB : w0.heap[Bb]? = some (.cells #[.pointer none, .slice none 0 0] 46 (0, 0))) (hba : base ≤ w0.heap.size) (hw : wg t ≤ 1000000) (hF : t.txt.length ≤ 100000000) :
    Calls Try.prog 16 #[.func (.func 17) #[] #[pv ⟨Bb, 0, none⟩], .slice (some ⟨fb, 0, none⟩) 1 fc] w0 fun e w' => e = .returned (.bool true) ∧ (∃ v, Bd base w' Bb v (Lib.byteCells t.txt)) ∧ Kx (· = Bb) w0 w' := by
  have h0 : TxI G wg w0 Bb base t.txt (wg t) (fun b => b < w0.heap.size) [((⟨#[]⟩ : ByteArray), some ⟨b, o, none⟩)] w0 :=
    ⟨Kx.refl _ _, (Array.getElem?_eq_some_iff.1 hB).1, hba, fun _ h => h, fun _ h => h, hw, [.typ b o t], [], .slice none 0 0, rfl, by simp [wgL, Pc.wt], fun p hp => by obtain rfl := List.mem_singleton.1 hp; exact ⟨hG, hb, hl⟩, ⟨.inl hB, World.ownsRow_nil _ _ _ _⟩, fun k hk => by simp [Value.ownBlock] at hk, fun k hk => by simp [Value.ownBlock] at hk, by simp [Pc.tx]⟩
  refine (walkQ (I := TxI G wg w0 Bb base t.txt) (Bad := fun _ _ => False) 17 #[pv ⟨Bb, 0, none⟩] enterT (fun _ _ _ _ _ h hk => h.stable hk) (fun _ _ _ h _ => h) (fun _ _ _ _ h => h.lt) (fun _ _ _ _ h => h.len hL) (fun g X x r W h => h.call hL hF) (wg t) ((⟨#[]⟩ : ByteArray), some ⟨b, o, none⟩) fb 0 fc w0 hf h0).mono ?_
  rintro e w' (⟨rfl, g, X, h⟩ | ⟨_, X, h⟩)
  · obtain ⟨pcs, acc, v, e1, _, _, hbd, _, _, hFF⟩ := h.ex
    obtain rfl : pcs = [] := by simpa using e1
    refine ⟨rfl, ⟨v, ?_⟩, h.old⟩
    rw [← hFF]; simpa using hbd
  · exact h.elim
set_option maxRecDepth 100000 in
set_option maxHeartbeats 2000000 in
theorem text_any {G : Ty → Prop} {wg : Ty → Nat} (hL : Lays G wg) {B : BQ} {w : World} {t : Ty} {vn vm vk : Value} (hp : Prt B w t vn vm vk) (hG : G t) (hw : wg t ≤ 1000000) (hF : t.txt.length ≤ 100000000) : Calls Try.prog 7 #[agT t vn vm vk] w fun e w' => e = .returned (.string (bs t.txt)) ∧ Below w.heap.size w w' := by
  obtain ⟨an, cn, am, cm, ak, ck, rfl, rfl, rfl⟩ := hp.form
  have hb3 : Below w.heap.size w (((w.alloc (.cells #[.int .i64 t.kind, .string t.name, .int .i64 t.n, .bool t.flag, .slice an t.names.length cn, .slice am t.marks.length cm, .slice ak t.kids.length ck] 26)).alloc (.cells #[.pointer none, .slice none 0 0] 46)).alloc (.cells #[.string ⟨#[]⟩, pv ⟨w.heap.size, 0, none⟩] 49)) := bthen (bthen (below_alloc _ _) (below_alloc _ _)) (below_alloc _ _)
  have hA : (((w.alloc (.cells #[.int .i64 t.kind, .string t.name, .int .i64 t.n, .bool t.flag, .slice an t.names.length cn, .slice am t.marks.length cm, .slice ak t.kids.length ck] 26)).alloc (.cells #[.pointer none, .slice none 0 0] 46)).alloc (.cells #[.string ⟨#[]⟩, pv ⟨w.heap.size, 0, none⟩] 49)).heap[w.heap.size]? = some (.cells #[.int .i64 t.kind, .string t.name, .int .i64 t.n, .bool t.flag, .slice an t.names.length cn, .slice am t.marks.length cm, .slice ak t.kids.length ck] 26 (0, 0)) := blk_kept (bthen (below_alloc _ _) (below_alloc _ _)) (heap_new w _)
  have hBd : (((w.alloc (.cells #[.int .i64 t.kind, .string t.name, .int .i64 t.n, .bool t.flag, .slice an t.names.length cn, .slice am t.marks.length cm, .slice ak t.kids.length ck] 26)).alloc (.cells #[.pointer none, .slice none 0 0] 46)).alloc (.cells #[.string ⟨#[]⟩, pv ⟨w.heap.size, 0, none⟩] 49)).heap[w.heap.size + 1]? = some (.cells #[.pointer none, .slice none 0 0] 46 (0, 0)) := blk_kept (below_alloc _ _) (heap_new2 _ _ _)
  have hP : (((w.alloc (.cells #[.int .i64 t.kind, .string t.name, .int .i64 t.n, .bool t.flag, .slice an t.names.length cn, .slice am t.marks.length cm, .slice ak t.kids.length ck] 26)).alloc (.cells #[.pointer none, .slice none 0 0] 46)).alloc (.cells #[.string ⟨#[]⟩, pv ⟨w.heap.size, 0, none⟩] 49)).heap[w.heap.size + 2]? = some (.cells #[.string ⟨#[]⟩, pv ⟨w.heap.size, 0, none⟩] 49 (0, 0)) := by
    have := heap_new ((w.alloc (.cells #[.int .i64 t.kind, .string t.name, .int .i64 t.n, .bool t.flag, .slice an t.names.length cn, .slice am t.marks.length cm, .slice ak t.kids.length ck] 26)).alloc (.cells #[.pointer none, .slice none 0 0] 46)) (.cells #[.string ⟨#[]⟩, pv ⟨w.heap.size, 0, none⟩] 49)
    rwa [World.size_alloc, World.size_alloc] at this
  have hz : (((w.alloc (.cells #[.int .i64 t.kind, .string t.name, .int .i64 t.n, .bool t.flag, .slice an t.names.length cn, .slice am t.marks.length cm, .slice ak t.kids.length ck] 26)).alloc (.cells #[.pointer none, .slice none 0 0] 46)).alloc (.cells #[.string ⟨#[]⟩, pv ⟨w.heap.size, 0, none⟩] 49)).heap.size = w.heap.size + 3 := by simp
  have hlx : t.lies (fun c => c < (((w.alloc (.cells #[.int .i64 t.kind, .string t.name, .int .i64 t.n, .bool t.flag, .slice an t.names.length cn, .slice am t.marks.length cm, .slice ak t.kids.length ck] 26)).alloc (.cells #[.pointer none, .slice none 0 0] 46)).alloc (.cells #[.string ⟨#[]⟩, pv ⟨w.heap.size, 0, none⟩] 49)).heap.size ∧ c ≠ w.heap.size + 1) (((w.alloc (.cells #[.int .i64 t.kind, .string t.name, .int .i64 t.n, .bool t.flag, .slice an t.names.length cn, .slice am t.marks.length cm, .slice ak t.kids.length ck] 26)).alloc (.cells #[.pointer none, .slice none 0 0] 46)).alloc (.cells #[.string ⟨#[]⟩, pv ⟨w.heap.size, 0, none⟩] 49)) w.heap.size 0 := by
    obtain ⟨c0, c1, c2, c3, c4, c5, c6⟩ := bx7 hA
    refine lies_iff.2 ⟨c0, by simpa using c1, by simpa using c2, by simpa using c3, _, _, _, by simpa using c4, by simpa using c5, by simpa using c6, ?_⟩
    exact (hp.with (B' := fun c => c < (((w.alloc (.cells #[.int .i64 t.kind, .string t.name, .int .i64 t.n, .bool t.flag, .slice an t.names.length cn, .slice am t.marks.length cm, .slice ak t.kids.length ck] 26)).alloc (.cells #[.pointer none, .slice none 0 0] 46)).alloc (.cells #[.string ⟨#[]⟩, pv ⟨w.heap.size, 0, none⟩] 49)).heap.size ∧ c ≠ w.heap.size + 1) (fun b hb _ => ⟨by omega, by omega⟩)).kept hb3
  have hwk := textW hL (fc := 1) (base := w.heap.size) ⟨by simpa using cell_of hP 0, by simpa using cell_of hP 1⟩ hG ⟨by omega, by omega⟩ hlx hBd (by omega) hw hF
  have HB3 : Hid (Below w.heap.size w (((w.alloc (.cells #[.int .i64 t.kind, .string t.name, .int .i64 t.n, .bool t.flag, .slice an t.names.length cn, .slice am t.marks.length cm, .slice ak t.kids.length ck] 26)).alloc (.cells #[.pointer none, .slice none 0 0] 46)).alloc (.cells #[.string ⟨#[]⟩, pv ⟨w.heap.size, 0, none⟩] 49))) := hb3
  have hmf := mkf
  unfold agT
  clear hb3 hA hBd hP hlx hp hz
  go_enter Try.func7, Try.ntmps7
  go_wp2_with fail
  refine hwk.mono ?_
  rintro e w4 ⟨rfl, ⟨v, hbd⟩, hk⟩
  have hst := bstr_any hbd (by omega)
  have HK : Hid _ := hk
  clear hk hwk hbd
  go_wp2_with fail
  refine hst.mono ?_
  rintro e w5 ⟨rfl, hb5⟩
  have HB5 : Hid _ := hb5
  clear hst hb5
  go_wp2_with fail
  go_ret
  refine ⟨rfl, ?_⟩
  exact (HB3.out.trans (HK.out.below HB3.out.size (fun b hb e => by omega))).trans HB5.out
end Go.Proofs.Ytifcikhgbafegab

