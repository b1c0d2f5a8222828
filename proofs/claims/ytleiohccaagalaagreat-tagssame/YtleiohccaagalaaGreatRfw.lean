/-
  The document's row, walked.
-/
import Derived.Test.YtleiohccaagalaaGreatRla
import Derived.Test.YtleiohccaagalaaGreatRfh
namespace Go.Proofs.YtleiohccaagalaaGreat
open Go.RowKit
attribute [local go_sem ↓] Go.wp_at_zero Go.wp_at_succ
/-- the reader's box -/
abbrev Rz (B : Nat) (a : Option Addr) (n c : Nat) (w : World) (i : Nat) (bad : Bool) : Prop := w.heap[B]? = some (.cells #[.slice a n c, .int .i64 i, .bool bad] 53 (0, 0))
/-- what the document's reader answers -/
structure RdR (B : Nat) (a : Option Addr) (n c i0 : Nat) (w : World) (ts : List Bs) (res : Option (Pt × List Bs)) (top : Nat) (e : Ending) (w' : World) : Prop where
  kp : Kx (· = B) w w'
  ex : ∃ (x : Rl) (v : Value) (i : Nat) (bad : Bool), e = .returned (.agg #[.int .i64 x.kind, .string (bs x.tag), v]) ∧ SlV (Bf w.heap.size) w' v x.kids ∧ Rz B a n c w' i bad ∧ i ≤ top ∧ i0 ≤ i ∧ (x.kind = 3 ∨ x.kind = 4 → 2 ≤ x.kids.length) ∧ x.kids.length + i0 ≤ i + 1 ∧
    (bad = false → ∃ p r, res = some (p, r) ∧ x = nf p ∧ ts.drop i = r ∧ i ≤ ts.length) ∧ (bad = true → res = none)
/-- what is read so far, and one rule more -/
def stF (jn : Pt → Pt → Pt) : Option Pt → Pt → Pt
  | none, p => p
  | some l, p => jn l p
def accF (k : Nat) : Option Pt → List Rl
  | none => []
  | some l => fl k (nf l)
/-- where the loop of row stands -/
structure LRw (B : Nat) (a : Option Addr) (n c : Nat) (w : World) (k : Nat) (bad : Bool) (j : Nat) (acc : List Rl) (u : Value) (wr : World) : Prop where
  kp : Kx (· = B) w wr
  rz : Rz B a n c wr j bad
  r0 : wr.heap[w.heap.size]? = some (.cells #[.int .i64 0, .string ⟨#[]⟩, .slice none 0 0] 31 (0, 0))
  rx : wr.heap[w.heap.size + 1]? = some (.cells #[.int .i64 k, .string ⟨#[]⟩, u] 31 (0, 0))
  row : RowN (w.heap.size + 2) (Bf (w.heap.size + 2)) wr u acc
/-- what is read, against what is to be read -/
structure LRp (ts : List Bs) (k : Nat) (sg : Bs) (op : Rd) (jn : Pt → Pt → Pt) (RES : Option (Pt × List Bs)) (j : Nat) (st : Option Pt) (acc : List Rl) : Prop where
  acc_ : acc = accF k st
  res : (op (ts.drop j)).bind (fun x => moreN sg op jn (stF jn st x.1) x.2) = RES
theorem heap_old (w : World) (o : Obj) {b : Nat} {x : Obj} (h : w.heap[b]? = some x) : (w.alloc o).heap[b]? = some x := blk_kept ((Below.refl _ w).alloc (Nat.le_refl _) _) h
theorem liesL_to' {B B' : BP} {X : Nat → Prop} {W W' : World} (hk : Kx X W W') (hB : ∀ b o ob, W.heap[b]? = some ob → B b o ob → B' b o ob) (hX : ∀ b o ob, W.heap[b]? = some ob → B b o ob → ¬ X b) {l : List Rl} {b o : Nat} (hb : ¬ X b) (h : liesL B W l b o) : liesL B' W' l b o :=
  liesL_of fun i hi => lies_to' hk hB hX _ b _ hb (liesL_get h i hi)
theorem LRw.whole {B n c : Nat} {a : Option Addr} {w : World} {k : Nat} {bad : Bool} {j : Nat} {acc : List Rl} {u : Value} {wr w2 : World} (h : LRw B a n c w k bad j acc u wr) (hb : Below wr.heap.size wr w2) : LRw B a n c w k bad j acc u w2 :=
  ⟨h.kp.trans (Kx.of_whole hb), blk_kept hb h.rz, blk_kept hb h.r0, blk_kept hb h.rx, h.row.kept hb⟩
theorem setBlk {w : World} {X o : Nat} {v : Value} {b : Nat} (h : b ≠ X) : (w.setCell ⟨X, o, none⟩ v).heap[b]? = w.heap[b]? := Below.heap_setCell w ⟨X, o, none⟩ v b h
theorem bx3_set2 {w : World} {X : Nat} {a b c v : Value} {T : TypeId} (h : w.heap[X]? = some (.cells #[a, b, c] T (0, 0))) : (w.setCell ⟨X, 2, none⟩ v).heap[X]? = some (.cells #[a, b, v] T (0, 0)) := by
  simp [World.setCell, Array.getElem?_modify, h]
theorem bx3_set1 {w : World} {X : Nat} {a b c v : Value} {T : TypeId} (h : w.heap[X]? = some (.cells #[a, b, c] T (0, 0))) : (w.setCell ⟨X, 1, none⟩ v).heap[X]? = some (.cells #[a, v, c] T (0, 0)) := by
  simp [World.setCell, Array.getElem?_modify, h]
/-- the row grown, and stored -/
theorem LRw.grown {B n c : Nat} {a : Option Addr} {w : World} {k : Nat} {bad bad' : Bool} {j j' : Nat} {acc acc' : List Rl} {u u' : Value} {wr w2 w9 : World} (h : LRw B a n c w k bad j acc u wr) (hB : B < w.heap.size)
    (h2 : Kx (fun b => b = B ∨ wr.heap.size ≤ b) wr w2) (hq : Rz B a n c w2 j' bad') (hg : w2.grownBy w9 u.ownBlock) (hr : RowN (w.heap.size + 2) (Bf (w.heap.size + 2)) w9 u' acc') :
    LRw B a n c w k bad' j' acc' u' (w9.setCell ⟨w.heap.size + 1, 2, none⟩ u') := by
  have hsz := h.kp.size
  have hxs : w.heap.size + 1 < wr.heap.size := (Array.getElem?_eq_some_iff.1 h.rx).1
  have hgk := grownBy_kx hg
  have hst : Kx (· = w.heap.size + 1) w9 (w9.setCell ⟨w.heap.size + 1, 2, none⟩ u') := kx_set
  have hown : ∀ b, u.ownBlock = some b → w.heap.size + 2 ≤ b := fun b hb => (h.row.lt b hb).1
  have go9 : ∀ b o, b < w.heap.size + 2 → b ≠ B → wr.heap[b]? = some o → w9.heap[b]? = some o := fun b o h3 h4 h5 =>
    hgk.keep b o (h2.keep b o h5 (fun e => by rcases e with e | e <;> omega)) (fun e => by have := hown b e; omega)
  have goB : w9.heap[B]? = some (.cells #[.slice a n c, .int .i64 j', .bool bad'] 53 (0, 0)) := hgk.keep _ _ hq (fun e => by have := hown B e; omega)
  refine ⟨⟨?_, ?_, ?_, ?_, ?_⟩, ?_, ?_, ?_, ?_⟩
  · rw [hst.os, hgk.os, h2.os, h.kp.os]
  · rw [hst.tape, hgk.tape, h2.tape, h.kp.tape]
  · rw [hst.output, hgk.output, h2.output, h.kp.output]
  · exact Nat.le_trans h.kp.size (Nat.le_trans h2.size (Nat.le_trans hgk.size hst.size))
  · intro b o h3 h4
    have hb := (Array.getElem?_eq_some_iff.1 h3).1
    exact hst.keep b o (go9 b o (by omega) h4 (h.kp.keep b o h3 h4)) (by omega)
  · exact hst.keep _ _ goB (by omega)
  · exact hst.keep _ _ (go9 _ _ (by omega) (by omega) h.r0) (by omega)
  · exact bx3_set2 (go9 _ _ (by omega) (by omega) h.rx)
  · exact hr.to hst (fun b hb e => by have := (hr.lt b hb).1; omega) (fun b o ob _ hb e => by have := hb.1; omega)
theorem LRw.grown9 {B n c : Nat} {a : Option Addr} {w : World} {k : Nat} {bad bad' : Bool} {j j' : Nat} {acc : List Rl} {u : Value} {wr w2 w9 : World} (h : LRw B a n c w k bad j acc u wr) (hB : B < w.heap.size)
    (h2 : Kx (fun b => b = B ∨ wr.heap.size ≤ b) wr w2) (hq : Rz B a n c w2 j' bad') (hg : w2.grownBy w9 u.ownBlock) :
    w9.heap[w.heap.size + 1]? = some (.cells #[.int .i64 k, .string ⟨#[]⟩, u] 31 (0, 0)) ∧ Rz B a n c w9 j' bad' ∧ w9.heap[w.heap.size]? = some (.cells #[.int .i64 0, .string ⟨#[]⟩, .slice none 0 0] 31 (0, 0)) := by
  have hxs : w.heap.size + 1 < wr.heap.size := (Array.getElem?_eq_some_iff.1 h.rx).1
  have hgk := grownBy_kx hg
  have hown : ∀ b, u.ownBlock = some b → w.heap.size + 2 ≤ b := fun b hb => (h.row.lt b hb).1
  have go9 : ∀ b o, b < w.heap.size + 2 → b ≠ B → wr.heap[b]? = some o → w9.heap[b]? = some o := fun b o h3 h4 h5 =>
    hgk.keep b o (h2.keep b o h5 (fun e => by rcases e with e | e <;> omega)) (fun e => by have := hown b e; omega)
  exact ⟨go9 _ _ (by omega) (by omega) h.rx, hgk.keep _ _ hq (fun e => by have := hown B e; omega), go9 _ _ (by omega) (by omega) h.r0⟩
theorem results_cell {P : Program} {f : Func} {tmps : Array Value} {W : World} {a t : Nat} {ad : Addr} {v : Value} (hf : f.results = #[.cell a t]) (ha : tmps.getD a undef = .pointer (some ad)) (hl : (loadVar t ad).run P W = .ok v W) : (results f tmps).run P W = .ok v W := by
  unfold results
  rw [hf]
  have ha2 : tmps[a]?.getD undef = .pointer (some ad) := by rw [← ha]; simp
  simp [ha2, asAddr, hl]
theorem bx3_set3 {w : World} {g : Nat} {a b c x y z : Value} {T : TypeId} (h : w.heap[g]? = some (.cells #[a, b, c] T (0, 0))) : (((w.setCell ⟨g, 0, none⟩ x).setCell ⟨g, 1, none⟩ y).setCell ⟨g, 2, none⟩ z).heap[g]? = some (.cells #[x, y, z] T (0, 0)) := by
  simp [World.setCell, Array.getElem?_modify, h]
theorem kx_set3 {w : World} {g : Nat} {x y z : Value} : Kx (· = g) w (((w.setCell ⟨g, 0, none⟩ x).setCell ⟨g, 1, none⟩ y).setCell ⟨g, 2, none⟩ z) := (kx_set.trans kx_set).trans kx_set
set_option maxRecDepth 100000 in
theorem resR {w : World} {g : Nat} {x y z : Value} (hg : w.heap[g]? = some (.cells #[x, y, z] 31 (0, 0))) : (loadVar 31 ⟨g, 0, none⟩).run Tryz.prog w = .ok (.agg #[x, y, z]) w :=
  run_loadVar_row w g _ _ _ _ _ hg Tryz.underlying31 rfl rfl
theorem acc3 (st : Option Pt) (p : Pt) : accF 3 st ++ fl 3 (nf p) = accF 3 (some (stF .both st p)) := by
  cases st with
  | none => simp [accF, stF]
  | some l => simp [accF, stF, fl_both]
theorem acc4 (st : Option Pt) (p : Pt) : accF 4 st ++ fl 4 (nf p) = accF 4 (some (stF .either st p)) := by
  cases st with
  | none => simp [accF, stF]
  | some l => simp [accF, stF, fl_either]
/-- what the end of row answers -/
theorem row_end {B n c i0 : Nat} {a : Option Addr} {w : World} {ts : List Bs} {RES : Option (Pt × List Bs)} {top k j : Nat} {bad : Bool} {acc : List Rl} {u v : Value} {we : World} {x : Rl} (h : LRw B a n c w k bad j acc u we) (hB : B < w.heap.size) (hx : x = wrp k acc) (hv : SlV (Bf (w.heap.size + 2)) we v x.kids) (hj : j ≤ top) (h0 : i0 ≤ j) (h2 : x.kind = 3 ∨ x.kind = 4 → 2 ≤ x.kids.length) (h3 : x.kids.length + i0 ≤ j + 1)
    (hy : bad = false → ∃ p, RES = some (p, ts.drop j) ∧ acc = fl k (nf p) ∧ j ≤ ts.length) (hk : k = 3 ∨ k = 4) (hn : bad = true → RES = none) (s1 s2 s3 : Value) :
    RdR B a n c i0 w ts RES top (.returned (.agg #[.int .i64 x.kind, .string (bs x.tag), v])) (((we.setCell ⟨w.heap.size, 0, none⟩ s1).setCell ⟨w.heap.size, 1, none⟩ s2).setCell ⟨w.heap.size, 2, none⟩ s3) := by
  have hs : Kx (· = w.heap.size) we (((we.setCell ⟨w.heap.size, 0, none⟩ s1).setCell ⟨w.heap.size, 1, none⟩ s2).setCell ⟨w.heap.size, 2, none⟩ s3) := kx_set3
  have hr0 : w.heap.size < we.heap.size := (Array.getElem?_eq_some_iff.1 h.r0).1
  refine ⟨h.kp.andThen hs (fun _ _ h => h) (fun b hb e => by omega), x, v, j, bad, rfl, ?_, hs.keep _ _ h.rz (by omega), hj, h0, h2, h3, ?_, hn⟩
  · exact hv.to' hs (fun b o ob _ hb => Bf.mono (by omega) b o ob hb) (fun b o ob _ hb e => by have := hb.1; omega)
  · intro hb
    obtain ⟨p, e1, e2, e3⟩ := hy hb
    exact ⟨p, _, e1, by rw [hx, e2, wrp_fl k hk], rfl, e3⟩
theorem LRw.stepB {B n c : Nat} {a : Option Addr} {w : World} {k : Nat} {bad : Bool} {j j' : Nat} {acc : List Rl} {u : Value} {wr : World} (h : LRw B a n c w k bad j acc u wr) (hB : B < w.heap.size) {z : Int} (hz : z = (j' : Int)) : LRw B a n c w k bad j' acc u (wr.setCell ⟨B, 1, none⟩ (.int .i64 z)) := by
  subst hz
  have hs : Kx (· = B) wr (wr.setCell ⟨B, 1, none⟩ (.int .i64 j')) := kx_set
  exact ⟨h.kp.trans hs, bx3_set1 h.rz, hs.keep _ _ h.r0 (by omega), hs.keep _ _ h.rx (by omega), h.row.to hs (fun b hb e => by have := (h.row.lt b hb).1; omega) (fun b o ob _ hb e => by have := hb.1; omega)⟩
theorem LRw.slv {B n c : Nat} {a : Option Addr} {w : World} {k : Nat} {bad : Bool} {j : Nat} {acc : List Rl} {u : Value} {wr : World} (h : LRw B a n c w k bad j acc u wr) (hm : (acc.length : Int) ≤ 9223372036854775807) : SlV (Bf (w.heap.size + 2)) wr u acc :=
  h.row.read hm (fun _ _ _ _ h => h) (fun _ cur _ hbb _ => ⟨hbb, rfl, cur, rfl⟩)
/-- how the reading goes on -/
theorem LRp.next {ts : List Bs} {k : Nat} {sg : Bs} {op : Rd} {jn : Pt → Pt → Pt} {RES : Option (Pt × List Bs)} {j i1 : Nat} {st : Option Pt} {acc : List Rl} {p : Pt} (h : LRp ts k sg op jn RES j st acc) (hk : ∀ st p, accF k st ++ fl k (nf p) = accF k (some (stF jn st p))) (hs : Shr op) (e : op (ts.drop j) = some (p, ts.drop i1)) :
    acc ++ fl k (nf p) = fl k (nf (stF jn st p)) ∧ (isB ts i1 sg = true → i1 < ts.length ∧ LRp ts k sg op jn RES (i1 + 1) (some (stF jn st p)) (acc ++ fl k (nf p))) ∧ (isB ts i1 sg = false → RES = some (stF jn st p, ts.drop i1)) := by
  have hr : RES = moreN sg op jn (stF jn st p) (ts.drop i1) := by rw [← h.res, e]; rfl
  have ha : acc ++ fl k (nf p) = fl k (nf (stF jn st p)) := by rw [h.acc_, hk]; rfl
  refine ⟨ha, fun hb => ?_, fun hb => ?_⟩
  · have hb : ts[i1]? = some sg := by simpa [isB] using hb
    obtain ⟨hi, he⟩ := List.getElem?_eq_some_iff.1 hb
    refine ⟨hi, ha, ?_⟩
    rw [hr, List.drop_eq_getElem_cons hi, he, moreN_step hs]; rfl
  · rw [hr]
    apply moreN_end
    intro t ht e2
    subst e2
    have : ts[i1]? = some t := by rw [← ht, List.head?_drop]
    simp [isB, this] at hb
theorem wrp_many {k : Nat} {l : List Rl} (h : 2 ≤ l.length) : wrp k l = .mk k [] l := by
  match l, h with
  | a :: b :: r, _ => rfl
theorem RowN.first {base : Nat} {W : World} {gg m cap : Nat} {acc : List Rl} {x : Rl} (h : RowN base (Bf base) W (.slice (some ⟨gg, 0, none⟩) m cap) (acc ++ [x])) (h0 : acc.length = 0) :
    ∃ az cz, W.cell? ⟨gg, 0, none⟩ = some (.int .i64 x.kind) ∧ W.cell? ⟨gg, 1, none⟩ = some (.string (bs x.tag)) ∧ W.cell? ⟨gg, 2, none⟩ = some (.slice az x.kids.length cz) ∧ SlV (Bf base) W (.slice az x.kids.length cz) x.kids := by
  have ha : acc = [] := List.length_eq_zero_iff.1 h0
  subst ha
  have hs : SlV (Bf base) W (.slice (some ⟨gg, 0, none⟩) m cap) [x] := h.read (by simp) (fun _ _ _ _ h => h) (fun _ cur _ hbb _ => ⟨hbb, rfl, cur, rfl⟩)
  rcases hs with ⟨_, _, _, e⟩ | ⟨b, o, c, ob, e, _, _, _, hL⟩
  · cases e
  · simp at e
    obtain ⟨⟨rfl, rfl⟩, rfl, rfl⟩ := e
    obtain ⟨k0, k1, v, k2, hv⟩ := lies_iff.1 (liesL_cons.1 hL).1
    obtain ⟨az, cz, rfl⟩ := hv.slice
    exact ⟨az, cz, k0, k1, k2, hv⟩
set_option maxRecDepth 100000 in
/-- one rule more -/
theorem wp_appR1 {w : World} {ops : Array Oper} {rest : List Oper} {o : Oper} {a : Act} {Q : Exit → Act → World → Prop} (hgd : o.guard = none) (s x : Operand)
    (ho : o.op = .call { callee := .builtin .append, args := #[s, x], argTypes := #[29, 29] }) (base : Nat) (K : BP) (v : Value) (l : List Rl) (y : Rl) (b0 o0 c0 : Nat)
    (hs : a.eval s = v) (hown : RowN base K w v l) (hx : a.eval x = .slice (some ⟨b0, o0, none⟩) 1 c0) (hb0 : liesL (fun b o ob => K b o ob ∧ v.ownBlock ≠ some b) w [y] b0 o0) (hl : l.length + 1 ≤ 1000000) (hbase : base ≤ w.heap.size)
    (h : ∀ g cap m w', Hid (m = l.length + 1) → RowN base K w' (.slice (some ⟨g, 0, none⟩) m cap) (l ++ [y]) → w.grownBy w' v.ownBlock → g < w'.heap.size → wpList Tryz.prog ops Q rest (a.put o.dst (.slice (some ⟨g, 0, none⟩) m cap)) w') : wpList Tryz.prog ops Q (o :: rest) a w :=
  wp_appR hgd s x ho base K v l [y] b0 o0 c0 hs hown hx hb0 (by simp) hl hbase _ rfl fun g cap w' h1 h2 _ h4 => h g cap (l.length + 1) w' rfl h1 h2 h4
set_option maxRecDepth 100000 in
set_option maxHeartbeats 8000000 in
theorem row3_any {B n c : Nat} {a : Option Addr} {ts : List Bs} {op : Rd} {top k : Nat} (hs : Shr op) (htop : top ≤ 100000) (hl : ts.length ≤ top) (hop : ∀ i w, (ts.drop i).length ≤ k → i ≤ ts.length → RestV B w a n c ts → Rz B a n c w i false → Calls Tryz.prog 29 #[.pointer (some ⟨B, 0, none⟩)] w (RdR B a n c i w ts (op (ts.drop i)) top)) (i : Nat) (w : World) (hk : (ts.drop i).length ≤ k) (hi : i ≤ ts.length) (hrv : RestV B w a n c ts) (h : Rz B a n c w i false) :
    Calls Tryz.prog 17 #[.pointer (some ⟨B, 0, none⟩), .int .i64 3, .string (bs sAnd)] w (RdR B a n c i w ts (rowF sAnd op .both (ts.drop i)) top) := by
  have hlt : B < w.heap.size := (Array.getElem?_eq_some_iff.1 h).1
  obtain ⟨RES, hRES⟩ : ∃ R, R = rowF sAnd op .both (ts.drop i) := ⟨_, rfl⟩
  rw [← hRES]
  have HR : Hid (RES = (op (ts.drop i)).bind fun x => moreN sAnd op .both x.1 x.2) := hRES
  have HOP : Hid (∀ i w, (ts.drop i).length ≤ k → i ≤ ts.length → RestV B w a n c ts → Rz B a n c w i false → Calls Tryz.prog 29 #[.pointer (some ⟨B, 0, none⟩)] w (RdR B a n c i w ts (op (ts.drop i)) top)) := hop
  have HS : Hid (Shr op) := hs
  have HKI : Hid ((ts.drop i).length ≤ k) := hk
  have HRV : Hid (RestV B w a n c ts) := hrv
  have hb2 : Below w.heap.size w ((w.alloc (.cells #[.int .i64 0, .string ⟨#[]⟩, .slice none 0 0] 31)).alloc (.cells #[.int .i64 3, .string ⟨#[]⟩, .slice none 0 0] 31)) := ((Below.refl _ w).alloc (Nat.le_refl _) _).alloc (by simp) _
  have HL : Hid (LRw B a n c w 3 false i [] (.slice none 0 0) ((w.alloc (.cells #[.int .i64 0, .string ⟨#[]⟩, .slice none 0 0] 31)).alloc (.cells #[.int .i64 3, .string ⟨#[]⟩, .slice none 0 0] 31))) :=
    ⟨Kx.of_whole hb2, blk_kept hb2 h, heap_old _ _ (heap_new _ _), by have := heap_new (w.alloc (.cells #[.int .i64 0, .string ⟨#[]⟩, .slice none 0 0] 31)) (.cells #[.int .i64 3, .string ⟨#[]⟩, .slice none 0 0] 31); simpa using this, RowN.nil _ _ _⟩
  have HP : Hid (LRp ts 3 sAnd op .both RES i none []) := ⟨rfl, HR.out.symm⟩
  clear hop hs hRES h HR hb2 hk hrv
  go_enter Tryz.func17, Tryz.ntmps17
  go_wp2_with fail
  go_loopg [8] (ts.length - i + 1) (fun g u8 wr => ∃ (j : Nat) (st : Option Pt) (acc : List Rl) (ua : Option Addr) (uc : Nat), ts.length - j + 1 ≤ g ∧ i ≤ j ∧ j ≤ ts.length ∧ acc.length + i ≤ j ∧ Hid (LRw B a n c w 3 false j acc (.slice ua acc.length uc) wr ∧ LRp ts 3 sAnd op .both RES j st acc))
  case atStart => exact ⟨i, none, [], none, 0, by omega, by omega, by omega, by simp, HL.out, HP.out⟩
  case round =>
    obtain ⟨j, st, acc, ua, uc, hg, hij, hj, hac, HX⟩ := hrel
    clear HL HP
    have hsz := HX.out.1.kp.size
    have hxs : w.heap.size + 1 < wr.heap.size := (Array.getElem?_eq_some_iff.1 HX.out.1.rx).1
    have hba : Below wr.heap.size wr (wr.alloc (.cells #[.int .i64 0, .string ⟨#[]⟩, .slice none 0 0] 31)) := (Below.refl _ _).alloc (Nat.le_refl _) _
    have h1 := HOP.out j (wr.alloc (.cells #[.int .i64 0, .string ⟨#[]⟩, .slice none 0 0] 31)) (by have := HKI.out; rw [List.length_drop] at this ⊢; omega) hj ((HRV.out.kept HX.out.1.kp).kept (Kx.of_whole hba)) (blk_kept hba HX.out.1.rz)
    clear hba
    go_wp2_with fail
    go_at_call 29
    refine h1.mono ?_
    intro e w1 hq
    obtain ⟨x, v, i1, bad, rfl, hsl, hrz, htp, hi01, hne, hlen, hyes, hno⟩ := hq.ex
    obtain ⟨va, vc, rfl⟩ := hsl.slice
    have hz1 : wr.heap.size + 1 ≤ w1.heap.size := by have := hq.kp.size; simpa using this
    have HY1 : Hid (w1.heap[wr.heap.size]? = some (.cells #[.int .i64 0, .string ⟨#[]⟩, .slice none 0 0] 31 (0, 0))) := (hq.kp.keep _ _ (heap_new wr _) (by omega))
    have HK1 : Hid (Kx (· = B) wr w1) := (Kx.of_whole ((Below.refl _ _).alloc (Nat.le_refl _) _)).trans hq.kp
    have hsl' : SlV (Bf (wr.heap.size + 1)) w1 (.slice va x.kids.length vc) x.kids := by simpa using hsl
    have HSL : Hid (SlV (Bf (wr.heap.size + 1)) w1 (.slice va x.kids.length vc) x.kids) := hsl'
    clear hsl'
    have HRZ : Hid (Rz B a n c w1 i1 bad) := hrz
    have HNE : Hid (x.kind = 3 ∨ x.kind = 4 → 2 ≤ x.kids.length) := hne
    have HLEN : Hid (x.kids.length + j ≤ i1 + 1) := hlen
    have HYS : Hid (bad = false → ∃ p r, op (ts.drop j) = some (p, r) ∧ x = nf p ∧ ts.drop i1 = r ∧ i1 ≤ ts.length) := hyes
    have HNO : Hid (bad = true → op (ts.drop j) = none) := hno
    clear hq h1 hsl hrz hne hlen hyes hno
    obtain ⟨y0, y1, y2, fy0, fy1, fy2⟩ := bx3 HY1.out
    obtain ⟨x0, x1, x2, fx0, fx1, fx2⟩ := bx3 (HK1.out.keep _ _ HX.out.1.rx (by omega))
    obtain ⟨WY, hWY⟩ : ∃ W, W = (((w1.setCell ⟨wr.heap.size, 0, none⟩ (.int .i64 x.kind)).setCell ⟨wr.heap.size, 1, none⟩ (.string (bs x.tag))).setCell ⟨wr.heap.size, 2, none⟩ (.slice va x.kids.length vc)) := ⟨_, rfl⟩
    have HKY : Hid (Kx (· = wr.heap.size) w1 WY) := by rw [hWY]; exact kx_set3
    have HKW : Hid (Kx (fun b => b = B ∨ wr.heap.size ≤ b) wr WY) := HK1.out.andThen HKY.out (fun b _ e => .inl e) (fun b _ e => .inr (by omega))
    have HZW : Hid (Rz B a n c WY i1 bad) := HKY.out.keep _ _ HRZ.out (by omega)
    have HROW : Hid (RowN (w.heap.size + 2) (Bf (w.heap.size + 2)) WY (.slice ua acc.length uc) acc) := HX.out.1.row.to HKW.out (fun b hb e => by have := HX.out.1.row.lt b hb; omega) (fun b o ob hb h e => by have := (Array.getElem?_eq_some_iff.1 hb).1; have := h.1; omega)
    have HOWN : Hid (∀ b, (Value.slice ua acc.length uc).ownBlock = some b → b < wr.heap.size) := fun b hb => (HX.out.1.row.lt b hb).2
    by_cases hkd : x.kind = 3
    · have q3 : ((x.kind : Int) == 3) = true := nat_beq (b := 3) hkd
      have hqn := HNE.out (by omega)
      rcases HSL.out with ⟨_, _, _, h0⟩ | ⟨b, o', c', ob, e1, _, e2, e3, e4⟩
      · rw [h0] at hqn; simp at hqn
      · obtain ⟨rfl, rfl⟩ : va = some ⟨b, o', none⟩ ∧ vc = c' := by simpa using e1
        have HL2 : Hid (x.kids ≠ []) := fun h => by rw [h] at hqn; simp at hqn
        have HLN : Hid (acc.length + x.kids.length ≤ 1000000) := by have := HLEN.out; show _ ≤ _; omega
        have HLB : Hid (acc.length + x.kids.length + i ≤ i1 + 1) := by have := HLEN.out; show _ ≤ _; omega
        have HQL : Hid (2 ≤ acc.length + x.kids.length) := by show _ ≤ _; omega
        have HLIE : Hid (liesL (fun b o ob => Bf (w.heap.size + 2) b o ob ∧ (Value.slice ua acc.length uc).ownBlock ≠ some b) WY x.kids b o') := liesL_to' HKY.out (fun b o ob _ h => ⟨Bf.mono (by omega) b o ob h, fun e => by have := HOWN.out b e; have := h.1; omega⟩) (fun b o ob _ h e => by have := h.1; omega) (by have := e3.1; omega) e4
        have HFL : Hid (fl 3 x = x.kids) := by show _ = _; unfold fl; rw [if_pos hkd]
        have hzy := HKY.out.size
        have HKD : Hid (x.kind = 3) := hkd
        clear e1 e2 e3 e4 hqn hkd
        subst hWY
        have hBX : B ≠ w.heap.size + 1 := by omega
        have hXB : w.heap.size + 1 ≠ B := by omega
        have ql1 : ((acc.length : Int) + (x.kids.length : Int) == 1) = false := by have := HQL.out; have := nat_bne (a := acc.length + x.kids.length) (b := 1) (by omega); simpa using this
        have ql2 : (((acc.length + x.kids.length : Nat) : Int) == 1) = false := by have := HQL.out; exact nat_bne (b := 1) (by omega)
        cases bad with
        | true =>
          have HFN : Hid (RES = none) := by show _ = _; rw [← HX.out.2.res, HNO.out rfl]; rfl
          go_wp2_with (at_builtin; refine wp_appR (by rfl) _ _ (by rfl) (w.heap.size + 2) (Bf (w.heap.size + 2)) (.slice ua acc.length uc) acc (x.kids) b o' vc (by rfl) HROW.out (by rfl) HLIE.out HL2.out HLN.out (by first | omega | (simp; omega)) _ rfl ?_; intro gg cap w9 hrow9 hgrow _ hlt9; have HL9 : Hid (LRw B a n c w 3 true i1 (acc ++ x.kids) (.slice (some ⟨gg, 0, none⟩) (acc.length + x.kids.length) cap) (w9.setCell ⟨w.heap.size + 1, 2, none⟩ (.slice (some ⟨gg, 0, none⟩) (acc.length + x.kids.length) cap))) := LRw.grown HX.out.1 hlt HKW.out HZW.out hgrow hrow9; obtain ⟨gx, gz, gr⟩ := LRw.grown9 HX.out.1 hlt HKW.out HZW.out hgrow; obtain ⟨xx0, xx1, xx2, fxx0, fxx1, fxx2⟩ := bx3 gx; obtain ⟨bb0, bb1, bb2, fbb0, fbb1, fbb2⟩ := bx3 gz; obtain ⟨rr0, rr1, rr2, frr0, frr1, frr2⟩ := bx3 gr; clear hrow9 hgrow gx gz gr)
          refine bodyPost_ret (v := .agg #[.int .i64 3, .string ⟨#[]⟩, .slice (some ⟨gg, 0, none⟩) (acc.length + x.kids.length) cap]) (results_cell rfl rfl (resR (bx3_set3 HL9.out.r0))) rfl ?_
          exact row_end (x := .mk 3 [] (acc ++ x.kids)) HL9.out hlt (wrp_many (by have := HQL.out; simp at this ⊢; omega)).symm (HL9.out.slv (by have := HLN.out; simp at this ⊢; omega)) htp (by omega) (fun _ => by have := HQL.out; simp [Rl.kids] at this ⊢; omega) (by have := HLB.out; simp [Rl.kids] at this ⊢; omega) (fun h => by cases h) (by omega) (fun _ => HFN.out) _ _ _
        | false =>
          obtain ⟨p, r, ep, ex, er, hle⟩ := HYS.out rfl
          subst er
          obtain ⟨ha, hgo, hst⟩ := HX.out.2.next acc3 HS.out ep
          rw [← ex, HFL.out] at ha hgo
          have HGO : Hid (isB ts i1 sAnd = true → i1 < ts.length ∧ LRp ts 3 sAnd op .both RES (i1 + 1) (some (stF .both st p)) (acc ++ x.kids)) := hgo
          have HFY : Hid (isB ts i1 sAnd = false → (∃ p, RES = some (p, ts.drop i1) ∧ acc ++ x.kids = fl 3 (nf p) ∧ i1 ≤ ts.length)) := fun h => ⟨_, hst h, ha, hle⟩
          clear ep ex ha hgo hst HYS HNO
          cases hsb : isB ts i1 sAnd with
          | true =>
            obtain ⟨hi1, hlp⟩ := HGO.out hsb
            have HLP : Hid (LRp ts 3 sAnd op .both RES (i1 + 1) (some (stF .both st p)) (acc ++ x.kids)) := hlp
            clear hlp
            go_wp2_with (first
              | (go_at_call 30; refine his.mono ?_; rintro e w4 ⟨rfl, hb4⟩; have HL4 : Hid (LRw B a n c w 3 false i1 (acc ++ x.kids) (.slice (some ⟨gg, 0, none⟩) (acc.length + x.kids.length) cap) w4) := HL9.out.whole hb4; obtain ⟨v0, v1, v2, fv0, fv1, fv2⟩ := bx3 HL4.out.rz; clear hb4 his)
              | (at_builtin; refine wp_appR (by rfl) _ _ (by rfl) (w.heap.size + 2) (Bf (w.heap.size + 2)) (.slice ua acc.length uc) acc (x.kids) b o' vc (by rfl) HROW.out (by rfl) HLIE.out HL2.out HLN.out (by first | omega | (simp; omega)) _ rfl ?_; intro gg cap w9 hrow9 hgrow _ hlt9; have HL9 : Hid (LRw B a n c w 3 false i1 (acc ++ x.kids) (.slice (some ⟨gg, 0, none⟩) (acc.length + x.kids.length) cap) (w9.setCell ⟨w.heap.size + 1, 2, none⟩ (.slice (some ⟨gg, 0, none⟩) (acc.length + x.kids.length) cap))) := LRw.grown HX.out.1 hlt HKW.out HZW.out hgrow hrow9; obtain ⟨gx, gz, gr⟩ := LRw.grown9 HX.out.1 hlt HKW.out HZW.out hgrow; obtain ⟨xx0, xx1, xx2, fxx0, fxx1, fxx2⟩ := bx3 gx; obtain ⟨bb0, bb1, bb2, fbb0, fbb1, fbb2⟩ := bx3 gz; obtain ⟨rr0, rr1, rr2, frr0, frr1, frr2⟩ := bx3 gr; have hrq : Rq B (w9.setCell ⟨w.heap.size + 1, 2, none⟩ (.slice (some ⟨gg, 0, none⟩) (acc.length + x.kids.length) cap)) ts i1 false := ⟨a, n, c, HL9.out.rz, HRV.out.kept HL9.out.kp⟩; have his := is_any hrq sAnd; rw [hsb] at his; clear hrow9 hgrow gx gz gr hrq))
            go_roundg (ts.length - (i1 + 1) + 1)
            case measure => omega
            case rel => exact ⟨i1 + 1, _, acc ++ x.kids, some ⟨gg, 0, none⟩, cap, by omega, by omega, by omega, by have := HLB.out; simp; omega, by simp only [List.length_append]; exact HL4.out.stepB hlt (by go_num), HLP.out⟩
          | false =>
            have HFZ : Hid (∃ p, RES = some (p, ts.drop i1) ∧ acc ++ x.kids = fl 3 (nf p) ∧ i1 ≤ ts.length) := HFY.out hsb
            go_wp2_with (first
              | (go_at_call 30; refine his.mono ?_; rintro e w4 ⟨rfl, hb4⟩; have HL4 : Hid (LRw B a n c w 3 false i1 (acc ++ x.kids) (.slice (some ⟨gg, 0, none⟩) (acc.length + x.kids.length) cap) w4) := HL9.out.whole hb4; obtain ⟨v0, v1, v2, fv0, fv1, fv2⟩ := bx3 HL4.out.rx; obtain ⟨t0, t1, t2, ft0, ft1, ft2⟩ := bx3 HL4.out.r0; clear hb4 his)
              | (at_builtin; refine wp_appR (by rfl) _ _ (by rfl) (w.heap.size + 2) (Bf (w.heap.size + 2)) (.slice ua acc.length uc) acc (x.kids) b o' vc (by rfl) HROW.out (by rfl) HLIE.out HL2.out HLN.out (by first | omega | (simp; omega)) _ rfl ?_; intro gg cap w9 hrow9 hgrow _ hlt9; have HL9 : Hid (LRw B a n c w 3 false i1 (acc ++ x.kids) (.slice (some ⟨gg, 0, none⟩) (acc.length + x.kids.length) cap) (w9.setCell ⟨w.heap.size + 1, 2, none⟩ (.slice (some ⟨gg, 0, none⟩) (acc.length + x.kids.length) cap))) := LRw.grown HX.out.1 hlt HKW.out HZW.out hgrow hrow9; obtain ⟨gx, gz, gr⟩ := LRw.grown9 HX.out.1 hlt HKW.out HZW.out hgrow; obtain ⟨xx0, xx1, xx2, fxx0, fxx1, fxx2⟩ := bx3 gx; obtain ⟨bb0, bb1, bb2, fbb0, fbb1, fbb2⟩ := bx3 gz; obtain ⟨rr0, rr1, rr2, frr0, frr1, frr2⟩ := bx3 gr; have hrq : Rq B (w9.setCell ⟨w.heap.size + 1, 2, none⟩ (.slice (some ⟨gg, 0, none⟩) (acc.length + x.kids.length) cap)) ts i1 false := ⟨a, n, c, HL9.out.rz, HRV.out.kept HL9.out.kp⟩; have his := is_any hrq sAnd; rw [hsb] at his; clear hrow9 hgrow gx gz gr hrq))
            refine bodyPost_ret (v := .agg #[.int .i64 3, .string ⟨#[]⟩, .slice (some ⟨gg, 0, none⟩) (acc.length + x.kids.length) cap]) (results_cell rfl rfl (resR (bx3_set3 HL4.out.r0))) rfl ?_
            exact row_end (x := .mk 3 [] (acc ++ x.kids)) HL4.out hlt (wrp_many (by have := HQL.out; simp at this ⊢; omega)).symm (HL4.out.slv (by have := HLN.out; simp at this ⊢; omega)) htp (by omega) (fun _ => by have := HQL.out; simp [Rl.kids] at this ⊢; omega) (by have := HLB.out; simp [Rl.kids] at this ⊢; omega) (fun _ => HFZ.out) (by omega) (fun h => by cases h) _ _ _
    · have q3 : ((x.kind : Int) == 3) = false := nat_bne (b := 3) hkd
      have hws : WY.heap.size = w1.heap.size := by rw [hWY]; simp [World.setCell]
      have hbA : Below WY.heap.size WY (WY.alloc (.cells #[.int .i64 x.kind, .string (bs x.tag), .slice va x.kids.length vc] 31)) := (Below.refl _ _).alloc (Nat.le_refl _) _
      have HKWA : Hid (Kx (fun b => b = B ∨ wr.heap.size ≤ b) wr (WY.alloc (.cells #[.int .i64 x.kind, .string (bs x.tag), .slice va x.kids.length vc] 31))) := HKW.out.trans (Kx.of_whole hbA)
      have HZWA : Hid (Rz B a n c (WY.alloc (.cells #[.int .i64 x.kind, .string (bs x.tag), .slice va x.kids.length vc] 31)) i1 bad) := blk_kept hbA HZW.out
      have HROWA : Hid (RowN (w.heap.size + 2) (Bf (w.heap.size + 2)) (WY.alloc (.cells #[.int .i64 x.kind, .string (bs x.tag), .slice va x.kids.length vc] 31)) (.slice ua acc.length uc) acc) := HROW.out.kept hbA
      have hnew := heap_new WY (.cells #[.int .i64 x.kind, .string (bs x.tag), .slice va x.kids.length vc] 31)
      rw [hws] at hnew
      obtain ⟨n0, n1, n2, _, _, _⟩ := bx3 hnew
      have HLIE : Hid (liesL (fun b o ob => Bf (w.heap.size + 2) b o ob ∧ (Value.slice ua acc.length uc).ownBlock ≠ some b) (WY.alloc (.cells #[.int .i64 x.kind, .string (bs x.tag), .slice va x.kids.length vc] 31)) [x] w1.heap.size 0) :=
        liesL_cons.2 ⟨lies_iff.2 ⟨n0, n1, _, n2, HSL.out.to' (HKY.out.trans (Kx.of_whole hbA)) (fun b o ob _ h => ⟨Bf.mono (by omega) b o ob h, fun e => by have := HOWN.out b e; have := h.1; omega⟩) (fun b o ob _ h e => by have := h.1; omega)⟩, liesL_nil⟩
      have HLN : Hid (acc.length + 1 ≤ 1000000) := by show _ ≤ _; simp; omega
      have HLB : Hid (acc.length + 1 + i ≤ i1 + 1) := by show _ ≤ _; omega
      have HFL : Hid (fl 3 x = [x]) := by show _ = _; unfold fl; rw [if_neg hkd]
      have hzy := HKWA.out.size
      have HKD : Hid (x.kind ≠ 3) := hkd
      clear hnew n0 n1 n2 hbA hws hkd
      subst hWY
      have hBX : B ≠ w.heap.size + 1 := by omega
      have hXB : w.heap.size + 1 ≠ B := by omega
      cases bad with
      | true =>
        have HFN : Hid (RES = none) := by show _ = _; rw [← HX.out.2.res, HNO.out rfl]; rfl
        by_cases ha0 : acc.length = 0
        · have HA0 : Hid (acc.length = 0) := ha0
          clear ha0
          go_wp2_with (at_builtin; refine wp_appR1 (by rfl) _ _ (by rfl) (w.heap.size + 2) (Bf (w.heap.size + 2)) (.slice ua acc.length uc) acc x w1.heap.size 0 1 (by rfl) HROWA.out (by rfl) HLIE.out HLN.out (by first | omega | (simp; omega)) ?_; intro gg cap m w9 HM hrow9 hgrow hlt9; have HL9 : Hid (LRw B a n c w 3 true i1 (acc ++ [x]) (.slice (some ⟨gg, 0, none⟩) m cap) (w9.setCell ⟨w.heap.size + 1, 2, none⟩ (.slice (some ⟨gg, 0, none⟩) m cap))) := LRw.grown HX.out.1 hlt HKWA.out HZWA.out hgrow hrow9; have hgl : w.heap.size + 2 ≤ gg := (hrow9.lt gg rfl).1; have hgX : gg ≠ w.heap.size + 1 := (by omega); have hXg : w.heap.size + 1 ≠ gg := (by omega); obtain ⟨gx, gz, gr⟩ := LRw.grown9 HX.out.1 hlt HKWA.out HZWA.out hgrow; obtain ⟨xx0, xx1, xx2, fxx0, fxx1, fxx2⟩ := bx3 gx; obtain ⟨bb0, bb1, bb2, fbb0, fbb1, fbb2⟩ := bx3 gz; obtain ⟨rr0, rr1, rr2, frr0, frr1, frr2⟩ := bx3 gr; obtain ⟨az, cz, z0, z1, z2, hvz⟩ := hrow9.first HA0.out; have HVZ : Hid (SlV (Bf (w.heap.size + 2)) (w9.setCell ⟨w.heap.size + 1, 2, none⟩ (.slice (some ⟨gg, 0, none⟩) m cap)) (.slice az x.kids.length cz) x.kids) := hvz.to' (kx_set (B := w.heap.size + 1)) (fun _ _ _ _ h => h) (fun b o ob _ hb e => by have := hb.1; omega); clear hvz; obtain rfl : m = 1 := (by have := HM.out; have := HA0.out; omega); clear hrow9 hgrow gx gz gr)
          refine bodyPost_ret (v := .agg #[.int .i64 x.kind, .string (bs x.tag), .slice az x.kids.length cz]) (results_cell rfl rfl (resR (bx3_set3 HL9.out.r0))) rfl ?_
          exact row_end (x := x) HL9.out hlt (by have h9 := List.length_eq_zero_iff.1 HA0.out; rw [h9]; rfl) HVZ.out htp (by omega) HNE.out (by have := HLEN.out; omega) (fun h => by cases h) (by omega) (fun _ => HFN.out) _ _ _
        · have HQL : Hid (2 ≤ acc.length + 1) := (by show _ ≤ _; omega)
          clear ha0
          go_wp2_with (at_builtin; refine wp_appR1 (by rfl) _ _ (by rfl) (w.heap.size + 2) (Bf (w.heap.size + 2)) (.slice ua acc.length uc) acc x w1.heap.size 0 1 (by rfl) HROWA.out (by rfl) HLIE.out HLN.out (by first | omega | (simp; omega)) ?_; intro gg cap m w9 HM hrow9 hgrow hlt9; have HL9 : Hid (LRw B a n c w 3 true i1 (acc ++ [x]) (.slice (some ⟨gg, 0, none⟩) m cap) (w9.setCell ⟨w.heap.size + 1, 2, none⟩ (.slice (some ⟨gg, 0, none⟩) m cap))) := LRw.grown HX.out.1 hlt HKWA.out HZWA.out hgrow hrow9; have hgl : w.heap.size + 2 ≤ gg := (hrow9.lt gg rfl).1; have hgX : gg ≠ w.heap.size + 1 := (by omega); have hXg : w.heap.size + 1 ≠ gg := (by omega); obtain ⟨gx, gz, gr⟩ := LRw.grown9 HX.out.1 hlt HKWA.out HZWA.out hgrow; obtain ⟨xx0, xx1, xx2, fxx0, fxx1, fxx2⟩ := bx3 gx; obtain ⟨bb0, bb1, bb2, fbb0, fbb1, fbb2⟩ := bx3 gz; obtain ⟨rr0, rr1, rr2, frr0, frr1, frr2⟩ := bx3 gr; have qm : ((m : Int) == 1) = false := nat_bne (b := 1) (by have := HM.out; have := HQL.out; omega); clear hrow9 hgrow gx gz gr)
          refine bodyPost_ret (v := .agg #[.int .i64 3, .string ⟨#[]⟩, .slice (some ⟨gg, 0, none⟩) m cap]) (results_cell rfl rfl (resR (bx3_set3 HL9.out.r0))) rfl ?_
          exact row_end (x := .mk 3 [] (acc ++ [x])) HL9.out hlt (wrp_many (by have := HQL.out; simp at this ⊢; omega)).symm (HL9.out.slv (by have := HLN.out; simp at this ⊢; omega)) htp (by omega) (fun _ => by have := HQL.out; simp [Rl.kids] at this ⊢; omega) (by have := HLB.out; simp [Rl.kids] at this ⊢; omega) (fun h => by cases h) (by omega) (fun _ => HFN.out) _ _ _
      | false =>
        obtain ⟨p, r, ep, ex, er, hle⟩ := HYS.out rfl
        subst er
        obtain ⟨ha, hgo, hst⟩ := HX.out.2.next acc3 HS.out ep
        rw [← ex, HFL.out] at ha hgo
        have HGO : Hid (isB ts i1 sAnd = true → i1 < ts.length ∧ LRp ts 3 sAnd op .both RES (i1 + 1) (some (stF .both st p)) (acc ++ [x])) := hgo
        have HFY : Hid (isB ts i1 sAnd = false → (∃ p, RES = some (p, ts.drop i1) ∧ acc ++ [x] = fl 3 (nf p) ∧ i1 ≤ ts.length)) := fun h => ⟨_, hst h, ha, hle⟩
        clear ep ex ha hgo hst HYS HNO
        cases hsb : isB ts i1 sAnd with
        | true =>
          obtain ⟨hi1, hlp⟩ := HGO.out hsb
          have HLP : Hid (LRp ts 3 sAnd op .both RES (i1 + 1) (some (stF .both st p)) (acc ++ [x])) := hlp
          clear hlp
          go_wp2_with (first
            | (go_at_call 30; refine his.mono ?_; rintro e w4 ⟨rfl, hb4⟩; have HL4 : Hid (LRw B a n c w 3 false i1 (acc ++ [x]) (.slice (some ⟨gg, 0, none⟩) m cap) w4) := HL9.out.whole hb4; obtain ⟨v0, v1, v2, fv0, fv1, fv2⟩ := bx3 HL4.out.rz; clear hb4 his)
            | (at_builtin; refine wp_appR1 (by rfl) _ _ (by rfl) (w.heap.size + 2) (Bf (w.heap.size + 2)) (.slice ua acc.length uc) acc x w1.heap.size 0 1 (by rfl) HROWA.out (by rfl) HLIE.out HLN.out (by first | omega | (simp; omega)) ?_; intro gg cap m w9 HM hrow9 hgrow hlt9; have HL9 : Hid (LRw B a n c w 3 false i1 (acc ++ [x]) (.slice (some ⟨gg, 0, none⟩) m cap) (w9.setCell ⟨w.heap.size + 1, 2, none⟩ (.slice (some ⟨gg, 0, none⟩) m cap))) := LRw.grown HX.out.1 hlt HKWA.out HZWA.out hgrow hrow9; have hgl : w.heap.size + 2 ≤ gg := (hrow9.lt gg rfl).1; have hgX : gg ≠ w.heap.size + 1 := (by omega); have hXg : w.heap.size + 1 ≠ gg := (by omega); obtain ⟨gx, gz, gr⟩ := LRw.grown9 HX.out.1 hlt HKWA.out HZWA.out hgrow; obtain ⟨xx0, xx1, xx2, fxx0, fxx1, fxx2⟩ := bx3 gx; obtain ⟨bb0, bb1, bb2, fbb0, fbb1, fbb2⟩ := bx3 gz; obtain ⟨rr0, rr1, rr2, frr0, frr1, frr2⟩ := bx3 gr; have hrq : Rq B (w9.setCell ⟨w.heap.size + 1, 2, none⟩ (.slice (some ⟨gg, 0, none⟩) m cap)) ts i1 false := ⟨a, n, c, HL9.out.rz, HRV.out.kept HL9.out.kp⟩; have his := is_any hrq sAnd; rw [hsb] at his; clear hrq; clear hrow9 hgrow gx gz gr))
          go_roundg (ts.length - (i1 + 1) + 1)
          case measure => omega
          case rel => exact ⟨i1 + 1, _, acc ++ [x], some ⟨gg, 0, none⟩, cap, by omega, by omega, by omega, by have := HLB.out; simp; omega, by rw [show (acc ++ [x]).length = m by rw [HM.out]; simp]; exact HL4.out.stepB hlt (by go_num), HLP.out⟩
        | false =>
          have HFZ : Hid (∃ p, RES = some (p, ts.drop i1) ∧ acc ++ [x] = fl 3 (nf p) ∧ i1 ≤ ts.length) := HFY.out hsb
          by_cases ha0 : acc.length = 0
          · have HA0 : Hid (acc.length = 0) := ha0
            clear ha0
            go_wp2_with (first
              | (go_at_call 30; refine his.mono ?_; rintro e w4 ⟨rfl, hb4⟩; have HL4 : Hid (LRw B a n c w 3 false i1 (acc ++ [x]) (.slice (some ⟨gg, 0, none⟩) 1 cap) w4) := HL9.out.whole hb4; obtain ⟨v0, v1, v2, fv0, fv1, fv2⟩ := bx3 HL4.out.rx; obtain ⟨t0, t1, t2, ft0, ft1, ft2⟩ := bx3 HL4.out.r0; obtain ⟨az, cz, z0, z1, z2, hvz⟩ := HL4.out.row.first HA0.out; have HVZ : Hid (SlV (Bf (w.heap.size + 2)) w4 (.slice az x.kids.length cz) x.kids) := hvz; clear hvz; clear hb4 his)
              | (at_builtin; refine wp_appR1 (by rfl) _ _ (by rfl) (w.heap.size + 2) (Bf (w.heap.size + 2)) (.slice ua acc.length uc) acc x w1.heap.size 0 1 (by rfl) HROWA.out (by rfl) HLIE.out HLN.out (by first | omega | (simp; omega)) ?_; intro gg cap m w9 HM hrow9 hgrow hlt9; have HL9 : Hid (LRw B a n c w 3 false i1 (acc ++ [x]) (.slice (some ⟨gg, 0, none⟩) m cap) (w9.setCell ⟨w.heap.size + 1, 2, none⟩ (.slice (some ⟨gg, 0, none⟩) m cap))) := LRw.grown HX.out.1 hlt HKWA.out HZWA.out hgrow hrow9; have hgl : w.heap.size + 2 ≤ gg := (hrow9.lt gg rfl).1; have hgX : gg ≠ w.heap.size + 1 := (by omega); have hXg : w.heap.size + 1 ≠ gg := (by omega); obtain ⟨gx, gz, gr⟩ := LRw.grown9 HX.out.1 hlt HKWA.out HZWA.out hgrow; obtain ⟨xx0, xx1, xx2, fxx0, fxx1, fxx2⟩ := bx3 gx; obtain ⟨bb0, bb1, bb2, fbb0, fbb1, fbb2⟩ := bx3 gz; obtain ⟨rr0, rr1, rr2, frr0, frr1, frr2⟩ := bx3 gr; obtain rfl : m = 1 := (by have := HM.out; have := HA0.out; omega); have hrq : Rq B (w9.setCell ⟨w.heap.size + 1, 2, none⟩ (.slice (some ⟨gg, 0, none⟩) 1 cap)) ts i1 false := ⟨a, n, c, HL9.out.rz, HRV.out.kept HL9.out.kp⟩; have his := is_any hrq sAnd; rw [hsb] at his; clear hrq; clear hrow9 hgrow gx gz gr))
            refine bodyPost_ret (v := .agg #[.int .i64 x.kind, .string (bs x.tag), .slice az x.kids.length cz]) (results_cell rfl rfl (resR (bx3_set3 HL4.out.r0))) rfl ?_
            exact row_end (x := x) HL4.out hlt (by have h9 := List.length_eq_zero_iff.1 HA0.out; rw [h9]; rfl) HVZ.out htp (by omega) HNE.out (by have := HLEN.out; omega) (fun _ => HFZ.out) (by omega) (fun h => by cases h) _ _ _
          · have HQL : Hid (2 ≤ acc.length + 1) := (by show _ ≤ _; omega)
            clear ha0
            go_wp2_with (first
              | (go_at_call 30; refine his.mono ?_; rintro e w4 ⟨rfl, hb4⟩; have HL4 : Hid (LRw B a n c w 3 false i1 (acc ++ [x]) (.slice (some ⟨gg, 0, none⟩) m cap) w4) := HL9.out.whole hb4; obtain ⟨v0, v1, v2, fv0, fv1, fv2⟩ := bx3 HL4.out.rx; obtain ⟨t0, t1, t2, ft0, ft1, ft2⟩ := bx3 HL4.out.r0; clear hb4 his)
              | (at_builtin; refine wp_appR1 (by rfl) _ _ (by rfl) (w.heap.size + 2) (Bf (w.heap.size + 2)) (.slice ua acc.length uc) acc x w1.heap.size 0 1 (by rfl) HROWA.out (by rfl) HLIE.out HLN.out (by first | omega | (simp; omega)) ?_; intro gg cap m w9 HM hrow9 hgrow hlt9; have HL9 : Hid (LRw B a n c w 3 false i1 (acc ++ [x]) (.slice (some ⟨gg, 0, none⟩) m cap) (w9.setCell ⟨w.heap.size + 1, 2, none⟩ (.slice (some ⟨gg, 0, none⟩) m cap))) := LRw.grown HX.out.1 hlt HKWA.out HZWA.out hgrow hrow9; have hgl : w.heap.size + 2 ≤ gg := (hrow9.lt gg rfl).1; have hgX : gg ≠ w.heap.size + 1 := (by omega); have hXg : w.heap.size + 1 ≠ gg := (by omega); obtain ⟨gx, gz, gr⟩ := LRw.grown9 HX.out.1 hlt HKWA.out HZWA.out hgrow; obtain ⟨xx0, xx1, xx2, fxx0, fxx1, fxx2⟩ := bx3 gx; obtain ⟨bb0, bb1, bb2, fbb0, fbb1, fbb2⟩ := bx3 gz; obtain ⟨rr0, rr1, rr2, frr0, frr1, frr2⟩ := bx3 gr; have qm : ((m : Int) == 1) = false := nat_bne (b := 1) (by have := HM.out; have := HQL.out; omega); have hrq : Rq B (w9.setCell ⟨w.heap.size + 1, 2, none⟩ (.slice (some ⟨gg, 0, none⟩) m cap)) ts i1 false := ⟨a, n, c, HL9.out.rz, HRV.out.kept HL9.out.kp⟩; have his := is_any hrq sAnd; rw [hsb] at his; clear hrq; clear hrow9 hgrow gx gz gr))
            refine bodyPost_ret (v := .agg #[.int .i64 3, .string ⟨#[]⟩, .slice (some ⟨gg, 0, none⟩) m cap]) (results_cell rfl rfl (resR (bx3_set3 HL4.out.r0))) rfl ?_
            exact row_end (x := .mk 3 [] (acc ++ [x])) HL4.out hlt (wrp_many (by have := HQL.out; simp at this ⊢; omega)).symm (HL4.out.slv (by have := HLN.out; simp at this ⊢; omega)) htp (by omega) (fun _ => by have := HQL.out; simp [Rl.kids] at this ⊢; omega) (by have := HLB.out; simp [Rl.kids] at this ⊢; omega) (fun _ => HFZ.out) (by omega) (fun h => by cases h) _ _ _
end Go.Proofs.YtleiohccaagalaaGreat
