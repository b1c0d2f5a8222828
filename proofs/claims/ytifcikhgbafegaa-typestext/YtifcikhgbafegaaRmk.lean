/-
  The document's Name, Basic, Default and Make, walked.
-/
import Derived.Test.YtifcikhgbafegaaTyr
import Derived.Test.YtifcikhgbafegaaTys
namespace Go.Proofs.Ytifcikhgbafegaa
open Go.RowKit
attribute [local go_sem ↓] Go.wp_at_zero Go.wp_at_succ
/-- a type is answered -/
structure TyQ (w : World) (K : BQ) (t : Ty) (e : Ending) (w' : World) : Prop where
  bl : Below w.heap.size w w'
  ex : ∃ vn vm vk, e = .returned (agT t vn vm vk) ∧ Prt K w' t vn vm vk
theorem results_cell {P : Program} {f : Func} {tmps : Array Value} {W : World} {a t : Nat} {ad : Addr} {v : Value} (hf : f.results = #[.cell a t]) (ha : tmps.getD a undef = .pointer (some ad)) (hl : (loadVar t ad).run P W = .ok v W) : (results f tmps).run P W = .ok v W := by
  unfold results
  rw [hf]
  have ha2 : tmps[a]?.getD undef = .pointer (some ad) := by rw [← ha]; simp
  simp [ha2, asAddr, hl]
set_option maxRecDepth 100000 in
theorem resT {w : World} {g : Nat} {a b c d x y z : Value} (hg : w.heap[g]? = some (.cells #[a, b, c, d, x, y, z] 26 (0, 0))) : (loadVar 26 ⟨g, 0, none⟩).run Try.prog w = .ok (.agg #[a, b, c, d, x, y, z]) w :=
  run_loadVar_row w g _ _ _ _ _ hg Try.underlying26 rfl rfl
theorem prt_nil {K : BQ} {W : World} (k : Int) (nm : ByteArray) (n : Int) (f : Bool) : Prt K W (.mk k nm n f [] [] []) (.slice none 0 0) (.slice none 0 0) (.slice none 0 0) :=
  ⟨.inl ⟨_, _, rfl, rfl⟩, .inl ⟨_, _, rfl, rfl⟩, .inl ⟨_, _, rfl, rfl⟩⟩
set_option maxRecDepth 100000 in
set_option maxHeartbeats 2000000 in
theorem rname_any (s : ByteArray) (w : World) (K : BQ) : Calls Try.prog 23 #[.string s] w (TyQ w K (.mk 8 s 0 false [] [] [])) := by
  have hn := heap_new w (.cells #[.int .i64 8, .string s, .int .i64 0, .bool false, .slice none 0 0, .slice none 0 0, .slice none 0 0] 26)
  go_enter Try.func23, Try.ntmps23
  go_wp2_with fail
  refine bodyPost_ret (v := .agg #[.int .i64 8, .string s, .int .i64 0, .bool false, .slice none 0 0, .slice none 0 0, .slice none 0 0]) (results_cell rfl rfl (resT hn)) rfl ?_
  exact ⟨below_alloc _ _, _, _, _, rfl, prt_nil _ _ _ _⟩
abbrev NIL : Value := .slice none 0 0
set_option maxRecDepth 100000 in
set_option maxHeartbeats 2000000 in
theorem rbasic_any (k : Int) (w : World) : Calls Try.prog 58 #[.int .i64 k] w fun e w' => e = .returned (.agg #[.int .i64 k, .string ⟨#[]⟩, .int .i64 0, .bool false, .slice none 0 0, .slice none 0 0, .slice none 0 0]) ∧ Below w.heap.size w w' := by
  have hn := heap_new w (.cells #[.int .i64 k, .string ⟨#[]⟩, .int .i64 0, .bool false, .slice none 0 0, .slice none 0 0, .slice none 0 0] 26)
  go_enter Try.func58, Try.ntmps58
  go_wp2_with fail
  refine bodyPost_ret (v := .agg #[.int .i64 k, .string ⟨#[]⟩, .int .i64 0, .bool false, .slice none 0 0, .slice none 0 0, .slice none 0 0]) (results_cell rfl rfl (resT hn)) rfl ?_
  exact ⟨rfl, below_alloc _ _⟩
theorem bx7f {w : World} {B : Nat} {a b c d e f g : Value} {T : TypeId} (h : w.heap[B]? = some (.cells #[a, b, c, d, e, f, g] T (0, 0))) : w.frozen? ⟨B, 0, none⟩ = false ∧ w.frozen? ⟨B, 1, none⟩ = false ∧ w.frozen? ⟨B, 2, none⟩ = false ∧ w.frozen? ⟨B, 3, none⟩ = false ∧ w.frozen? ⟨B, 4, none⟩ = false ∧ w.frozen? ⟨B, 5, none⟩ = false ∧ w.frozen? ⟨B, 6, none⟩ = false := by
  simp [World.frozen?, h]
/-- what a constant's type becomes -/
def Ty.dfl (t : Ty) : Ty := if t.kind = 4 then .mk 1 ⟨#[]⟩ 0 false [] [] [] else if t.kind = 5 then .mk 2 ⟨#[]⟩ 0 false [] [] [] else if t.kind = 6 then .mk 3 ⟨#[]⟩ 0 false [] [] [] else t
theorem bx7_set {w : World} {g : Nat} {a b c d x y z a' b' c' d' x' y' z' : Value} {T : TypeId} (h : w.heap[g]? = some (.cells #[a, b, c, d, x, y, z] T (0, 0))) : (((((((w.setCell ⟨g, 0, none⟩ a').setCell ⟨g, 1, none⟩ b').setCell ⟨g, 2, none⟩ c').setCell ⟨g, 3, none⟩ d').setCell ⟨g, 4, none⟩ x').setCell ⟨g, 5, none⟩ y').setCell ⟨g, 6, none⟩ z').heap[g]? = some (.cells #[a', b', c', d', x', y', z'] T (0, 0)) := by
  simp [World.setCell, Array.getElem?_modify, h]
theorem kx_set {w : World} {B o : Nat} {v : Value} : Kx (· = B) w (w.setCell ⟨B, o, none⟩ v) :=
  ⟨rfl, rfl, rfl, by simp [World.setCell], fun b _ h hb => (Below.heap_setCell w ⟨B, o, none⟩ v b hb).trans h⟩
theorem kx_set7 {w : World} {g : Nat} {a b c d x y z : Value} : Kx (· = g) w (((((((w.setCell ⟨g, 0, none⟩ a).setCell ⟨g, 1, none⟩ b).setCell ⟨g, 2, none⟩ c).setCell ⟨g, 3, none⟩ d).setCell ⟨g, 4, none⟩ x).setCell ⟨g, 5, none⟩ y).setCell ⟨g, 6, none⟩ z) :=
  (((((kx_set.trans kx_set).trans kx_set).trans kx_set).trans kx_set).trans kx_set).trans kx_set
theorem below_kx1 {w W W' : World} {X : Nat} (h : Below w.heap.size w W) (k : Kx (· = X) W W') (hX : w.heap.size ≤ X) : Below w.heap.size w W' :=
  ⟨k.os.trans h.os, k.tape.trans h.tape, k.output.trans h.output, Nat.le_trans h.size k.size, fun b hb => by
    have h1 := h.block b hb
    rw [Array.getElem?_eq_getElem hb] at h1 ⊢
    exact k.keep b _ h1 (by omega)⟩
set_option maxRecDepth 100000 in
set_option maxHeartbeats 4000000 in
theorem rdefault_any {K : BQ} {t : Ty} {w : World} {vn vm vk : Value} (hp : Prt K w t vn vm vk) : Calls Try.prog 19 #[agT t vn vm vk] w (TyQ w K t.dfl) := by
  obtain ⟨an, cn, am, cm, ak, ck, rfl, rfl, rfl⟩ := hp.form
  obtain ⟨k, nm, n, f, ns, ms, ks⟩ := t
  unfold agT
  simp only [Ty.kind, Ty.name, Ty.n, Ty.flag, Ty.names, Ty.marks, Ty.kids] at hp ⊢
  by_cases h4 : k = 4
  · subst h4
    rw [show Ty.dfl (.mk 4 nm n f ns ms ks) = .mk 1 ⟨#[]⟩ 0 false [] [] [] from rfl]
    have hn0 := heap_new (w.alloc (.cells #[.int .i64 4, .string nm, .int .i64 n, .bool f, .slice an ns.length cn, .slice am ms.length cm, .slice ak ks.length ck] 26)) (.cells #[.int .i64 0, .string ⟨#[]⟩, .int .i64 0, .bool false, .slice none 0 0, .slice none 0 0, .slice none 0 0] 26)
    rw [show (w.alloc (.cells #[.int .i64 4, .string nm, .int .i64 n, .bool f, .slice an ns.length cn, .slice am ms.length cm, .slice ak ks.length ck] 26)).heap.size = w.heap.size + 1 by simp] at hn0
    have hb0 : Below w.heap.size w ((w.alloc (.cells #[.int .i64 4, .string nm, .int .i64 n, .bool f, .slice an ns.length cn, .slice am ms.length cm, .slice ak ks.length ck] 26)).alloc (.cells #[.int .i64 0, .string ⟨#[]⟩, .int .i64 0, .bool false, .slice none 0 0, .slice none 0 0, .slice none 0 0] 26)) := bthen (below_alloc _ _) (below_alloc _ _)
    have HB0 : Hid (Below w.heap.size w ((w.alloc (.cells #[.int .i64 4, .string nm, .int .i64 n, .bool f, .slice an ns.length cn, .slice am ms.length cm, .slice ak ks.length ck] 26)).alloc (.cells #[.int .i64 0, .string ⟨#[]⟩, .int .i64 0, .bool false, .slice none 0 0, .slice none 0 0, .slice none 0 0] 26))) := hb0
    have HN0 : Hid (((w.alloc (.cells #[.int .i64 4, .string nm, .int .i64 n, .bool f, .slice an ns.length cn, .slice am ms.length cm, .slice ak ks.length ck] 26)).alloc (.cells #[.int .i64 0, .string ⟨#[]⟩, .int .i64 0, .bool false, .slice none 0 0, .slice none 0 0, .slice none 0 0] 26)).heap[w.heap.size + 1]? = some (.cells #[.int .i64 0, .string ⟨#[]⟩, .int .i64 0, .bool false, .slice none 0 0, .slice none 0 0, .slice none 0 0] 26 (0, 0))) := hn0
    have h1 := rbasic_any 1 ((w.alloc (.cells #[.int .i64 4, .string nm, .int .i64 n, .bool f, .slice an ns.length cn, .slice am ms.length cm, .slice ak ks.length ck] 26)).alloc (.cells #[.int .i64 0, .string ⟨#[]⟩, .int .i64 0, .bool false, .slice none 0 0, .slice none 0 0, .slice none 0 0] 26))
    clear hp hn0 hb0
    go_enter Try.func19, Try.ntmps19
    go_wp2_with (go_at_call 58; refine h1.mono ?_; rintro e w1 ⟨rfl, hb1⟩; have HB1 : Hid (Below w.heap.size w w1) := bthen HB0.out hb1; have HN1 : Hid (w1.heap[w.heap.size + 1]? = some (.cells #[.int .i64 0, .string ⟨#[]⟩, .int .i64 0, .bool false, .slice none 0 0, .slice none 0 0, .slice none 0 0] 26 (0, 0))) := blk_kept hb1 HN0.out; obtain ⟨s0, s1, s2, s3, s4, s5, s6⟩ := bx7 HN1.out; obtain ⟨f0, f1, f2, f3, f4, f5, f6⟩ := bx7f HN1.out; clear hb1 h1)
    refine bodyPost_ret (v := .agg #[.int .i64 1, .string ⟨#[]⟩, .int .i64 0, .bool false, .slice none 0 0, .slice none 0 0, .slice none 0 0]) (results_cell rfl rfl (resT (bx7_set HN1.out))) rfl ?_
    exact ⟨below_kx1 HB1.out kx_set7 (by omega), _, _, _, rfl, prt_nil _ _ _ _⟩
  by_cases h5 : k = 5
  · subst h5
    rw [show Ty.dfl (.mk 5 nm n f ns ms ks) = .mk 2 ⟨#[]⟩ 0 false [] [] [] from rfl]
    have hn0 := heap_new (w.alloc (.cells #[.int .i64 5, .string nm, .int .i64 n, .bool f, .slice an ns.length cn, .slice am ms.length cm, .slice ak ks.length ck] 26)) (.cells #[.int .i64 0, .string ⟨#[]⟩, .int .i64 0, .bool false, .slice none 0 0, .slice none 0 0, .slice none 0 0] 26)
    rw [show (w.alloc (.cells #[.int .i64 5, .string nm, .int .i64 n, .bool f, .slice an ns.length cn, .slice am ms.length cm, .slice ak ks.length ck] 26)).heap.size = w.heap.size + 1 by simp] at hn0
    have hb0 : Below w.heap.size w ((w.alloc (.cells #[.int .i64 5, .string nm, .int .i64 n, .bool f, .slice an ns.length cn, .slice am ms.length cm, .slice ak ks.length ck] 26)).alloc (.cells #[.int .i64 0, .string ⟨#[]⟩, .int .i64 0, .bool false, .slice none 0 0, .slice none 0 0, .slice none 0 0] 26)) := bthen (below_alloc _ _) (below_alloc _ _)
    have HB0 : Hid (Below w.heap.size w ((w.alloc (.cells #[.int .i64 5, .string nm, .int .i64 n, .bool f, .slice an ns.length cn, .slice am ms.length cm, .slice ak ks.length ck] 26)).alloc (.cells #[.int .i64 0, .string ⟨#[]⟩, .int .i64 0, .bool false, .slice none 0 0, .slice none 0 0, .slice none 0 0] 26))) := hb0
    have HN0 : Hid (((w.alloc (.cells #[.int .i64 5, .string nm, .int .i64 n, .bool f, .slice an ns.length cn, .slice am ms.length cm, .slice ak ks.length ck] 26)).alloc (.cells #[.int .i64 0, .string ⟨#[]⟩, .int .i64 0, .bool false, .slice none 0 0, .slice none 0 0, .slice none 0 0] 26)).heap[w.heap.size + 1]? = some (.cells #[.int .i64 0, .string ⟨#[]⟩, .int .i64 0, .bool false, .slice none 0 0, .slice none 0 0, .slice none 0 0] 26 (0, 0))) := hn0
    have h1 := rbasic_any 2 ((w.alloc (.cells #[.int .i64 5, .string nm, .int .i64 n, .bool f, .slice an ns.length cn, .slice am ms.length cm, .slice ak ks.length ck] 26)).alloc (.cells #[.int .i64 0, .string ⟨#[]⟩, .int .i64 0, .bool false, .slice none 0 0, .slice none 0 0, .slice none 0 0] 26))
    clear hp hn0 hb0
    go_enter Try.func19, Try.ntmps19
    go_wp2_with (go_at_call 58; refine h1.mono ?_; rintro e w1 ⟨rfl, hb1⟩; have HB1 : Hid (Below w.heap.size w w1) := bthen HB0.out hb1; have HN1 : Hid (w1.heap[w.heap.size + 1]? = some (.cells #[.int .i64 0, .string ⟨#[]⟩, .int .i64 0, .bool false, .slice none 0 0, .slice none 0 0, .slice none 0 0] 26 (0, 0))) := blk_kept hb1 HN0.out; obtain ⟨s0, s1, s2, s3, s4, s5, s6⟩ := bx7 HN1.out; obtain ⟨f0, f1, f2, f3, f4, f5, f6⟩ := bx7f HN1.out; clear hb1 h1)
    refine bodyPost_ret (v := .agg #[.int .i64 2, .string ⟨#[]⟩, .int .i64 0, .bool false, .slice none 0 0, .slice none 0 0, .slice none 0 0]) (results_cell rfl rfl (resT (bx7_set HN1.out))) rfl ?_
    exact ⟨below_kx1 HB1.out kx_set7 (by omega), _, _, _, rfl, prt_nil _ _ _ _⟩
  by_cases h6 : k = 6
  · subst h6
    rw [show Ty.dfl (.mk 6 nm n f ns ms ks) = .mk 3 ⟨#[]⟩ 0 false [] [] [] from rfl]
    have hn0 := heap_new (w.alloc (.cells #[.int .i64 6, .string nm, .int .i64 n, .bool f, .slice an ns.length cn, .slice am ms.length cm, .slice ak ks.length ck] 26)) (.cells #[.int .i64 0, .string ⟨#[]⟩, .int .i64 0, .bool false, .slice none 0 0, .slice none 0 0, .slice none 0 0] 26)
    rw [show (w.alloc (.cells #[.int .i64 6, .string nm, .int .i64 n, .bool f, .slice an ns.length cn, .slice am ms.length cm, .slice ak ks.length ck] 26)).heap.size = w.heap.size + 1 by simp] at hn0
    have hb0 : Below w.heap.size w ((w.alloc (.cells #[.int .i64 6, .string nm, .int .i64 n, .bool f, .slice an ns.length cn, .slice am ms.length cm, .slice ak ks.length ck] 26)).alloc (.cells #[.int .i64 0, .string ⟨#[]⟩, .int .i64 0, .bool false, .slice none 0 0, .slice none 0 0, .slice none 0 0] 26)) := bthen (below_alloc _ _) (below_alloc _ _)
    have HB0 : Hid (Below w.heap.size w ((w.alloc (.cells #[.int .i64 6, .string nm, .int .i64 n, .bool f, .slice an ns.length cn, .slice am ms.length cm, .slice ak ks.length ck] 26)).alloc (.cells #[.int .i64 0, .string ⟨#[]⟩, .int .i64 0, .bool false, .slice none 0 0, .slice none 0 0, .slice none 0 0] 26))) := hb0
    have HN0 : Hid (((w.alloc (.cells #[.int .i64 6, .string nm, .int .i64 n, .bool f, .slice an ns.length cn, .slice am ms.length cm, .slice ak ks.length ck] 26)).alloc (.cells #[.int .i64 0, .string ⟨#[]⟩, .int .i64 0, .bool false, .slice none 0 0, .slice none 0 0, .slice none 0 0] 26)).heap[w.heap.size + 1]? = some (.cells #[.int .i64 0, .string ⟨#[]⟩, .int .i64 0, .bool false, .slice none 0 0, .slice none 0 0, .slice none 0 0] 26 (0, 0))) := hn0
    have h1 := rbasic_any 3 ((w.alloc (.cells #[.int .i64 6, .string nm, .int .i64 n, .bool f, .slice an ns.length cn, .slice am ms.length cm, .slice ak ks.length ck] 26)).alloc (.cells #[.int .i64 0, .string ⟨#[]⟩, .int .i64 0, .bool false, .slice none 0 0, .slice none 0 0, .slice none 0 0] 26))
    clear hp hn0 hb0
    go_enter Try.func19, Try.ntmps19
    go_wp2_with (go_at_call 58; refine h1.mono ?_; rintro e w1 ⟨rfl, hb1⟩; have HB1 : Hid (Below w.heap.size w w1) := bthen HB0.out hb1; have HN1 : Hid (w1.heap[w.heap.size + 1]? = some (.cells #[.int .i64 0, .string ⟨#[]⟩, .int .i64 0, .bool false, .slice none 0 0, .slice none 0 0, .slice none 0 0] 26 (0, 0))) := blk_kept hb1 HN0.out; obtain ⟨s0, s1, s2, s3, s4, s5, s6⟩ := bx7 HN1.out; obtain ⟨f0, f1, f2, f3, f4, f5, f6⟩ := bx7f HN1.out; clear hb1 h1)
    refine bodyPost_ret (v := .agg #[.int .i64 3, .string ⟨#[]⟩, .int .i64 0, .bool false, .slice none 0 0, .slice none 0 0, .slice none 0 0]) (results_cell rfl rfl (resT (bx7_set HN1.out))) rfl ?_
    exact ⟨below_kx1 HB1.out kx_set7 (by omega), _, _, _, rfl, prt_nil _ _ _ _⟩
  rw [show Ty.dfl (.mk k nm n f ns ms ks) = .mk k nm n f ns ms ks by simp [Ty.dfl, Ty.kind, h4, h5, h6]]
  have hb0 : Below w.heap.size w ((w.alloc (.cells #[.int .i64 k, .string nm, .int .i64 n, .bool f, .slice an ns.length cn, .slice am ms.length cm, .slice ak ks.length ck] 26)).alloc (.cells #[.int .i64 k, .string nm, .int .i64 n, .bool f, .slice an ns.length cn, .slice am ms.length cm, .slice ak ks.length ck] 26)) := bthen (below_alloc _ _) (below_alloc _ _)
  have hn0 := heap_new (w.alloc (.cells #[.int .i64 k, .string nm, .int .i64 n, .bool f, .slice an ns.length cn, .slice am ms.length cm, .slice ak ks.length ck] 26)) (.cells #[.int .i64 k, .string nm, .int .i64 n, .bool f, .slice an ns.length cn, .slice am ms.length cm, .slice ak ks.length ck] 26)
  rw [show (w.alloc (.cells #[.int .i64 k, .string nm, .int .i64 n, .bool f, .slice an ns.length cn, .slice am ms.length cm, .slice ak ks.length ck] 26)).heap.size = w.heap.size + 1 by simp] at hn0
  go_enter Try.func19, Try.ntmps19
  go_wp2_with fail
  refine bodyPost_ret (v := .agg #[.int .i64 k, .string nm, .int .i64 n, .bool f, .slice an ns.length cn, .slice am ms.length cm, .slice ak ks.length ck]) (results_cell rfl rfl (resT hn0)) rfl ?_
  exact ⟨hb0, _, _, _, rfl, hp.kept hb0⟩
end Go.Proofs.Ytifcikhgbafegaa
