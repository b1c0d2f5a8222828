/-
  (types.table).knows, walked: are all declared types of a type there?
-/
import Derived.Test.YtdofhlmffponoaaJdD
namespace Go.Proofs.Ytdofhlmffponoaa
open Go.RowKit
attribute [local go_sem ↓] Go.wp_at_zero Go.wp_at_succ
mutual
/-- are all declared types of a type among these? -/
def Ty.kno (ks : List ByteArray) : Ty → Bool
  | .mk k nm _ _ _ _ l => (memB nm ks || decide (k ≠ 8)) && knoL ks l
def knoL (ks : List ByteArray) : List Ty → Bool
  | [] => true
  | x :: r => x.kno ks && knoL ks r
end
theorem Ty.kno_eq (ks : List ByteArray) (t : Ty) : t.kno ks = ((memB t.name ks || decide (t.kind ≠ 8)) && knoL ks t.kids) := by cases t; simp only [Ty.kno]; rfl
theorem knoL_append (ks : List ByteArray) (a b : List Ty) : knoL ks (a ++ b) = (knoL ks a && knoL ks b) := by
  induction a with
  | nil => simp [knoL]
  | cons x r ih => simp [knoL, ih, Bool.and_assoc]
mutual
/-- each name is a text that there can be -/
def Ty.nsz : Ty → Bool
  | .mk _ nm _ _ _ _ l => decide (nm.size ≤ maxLen) && nszL l
def nszL : List Ty → Bool
  | [] => true
  | x :: r => x.nsz && nszL r
end
theorem Ty.nsz_name {t : Ty} (h : t.nsz = true) : t.name.size ≤ maxLen := by
  cases t
  simp only [Ty.nsz, Bool.and_eq_true, decide_eq_true_eq] at h
  exact h.1
theorem nszL_mem {l : List Ty} (h : nszL l = true) : ∀ x ∈ l, x.nsz = true := by
  induction l with
  | nil => intro x hx; cases hx
  | cons y r ih =>
    simp only [nszL, Bool.and_eq_true] at h
    intro x hx
    rcases List.mem_cons.1 hx with rfl | hx
    · exact h.1
    · exact ih h.2 x hx
theorem Ty.nsz_kids {t : Ty} (h : t.nsz = true) : ∀ x ∈ t.kids, x.nsz = true := by
  cases t
  simp only [Ty.nsz, Bool.and_eq_true] at h
  exact nszL_mem h.2
/-- what stands under a name, written out -/
theorem TbS.val {K : BQ} {W : World} {b0 n : Nat} {l : List Nmd} (h : TbS K W b0 n l) (s : ByteArray) : ∃ f, MpS W b0 n f (l.map Nmd.name) ∧ (f s).isSome = memB s (l.map Nmd.name) ∧ ∃ (s0 s1 : ByteArray) (k m : Int) (fl : Bool) (a1 : Option Addr) (n1 c1 : Nat) (a2 : Option Addr) (n2 c2 : Nat) (a3 : Option Addr) (n3 c3 : Nat) (a4 : Option Addr) (n4 c4 : Nat), (f s).getD zN = .agg #[.string s0, .int .i64 k, .string s1, .int .i64 m, .bool fl, .slice a1 n1 c1, .slice a2 n2 c2, .slice a3 n3 c3, .slice a4 n4 c4] := by
  obtain ⟨f, h1, h2⟩ := h.ex
  refine ⟨f, h1, ?_, ?_⟩
  · obtain ⟨D, _, hD⟩ := h1.ex
    unfold memB
    by_cases e : s ∈ l.map Nmd.name
    · rw [(hD.mem s).1 e]; simp only [e, decide_true]
    · have : ¬ (f s).isSome = true := fun h => e ((hD.mem s).2 h)
      simp only [e, decide_false]
      simpa using this
  · obtain ⟨D, _, hD⟩ := h1.ex
    by_cases e : s ∈ l.map Nmd.name
    · obtain ⟨t, ht, rfl⟩ := List.mem_map.1 e
      obtain ⟨vn, vm, vk, vs, ef, hp⟩ := h2 t ht
      obtain ⟨an, cn, am, cm, ak, ck, sa, sc, rfl, rfl, rfl, rfl⟩ := hp.form
      rw [ef]
      exact ⟨_, _, _, _, _, _, _, _, _, _, _, _, _, _, _, _, _, rfl⟩
    · have : ¬ (f s).isSome = true := fun h => e ((hD.mem s).2 h)
      have e2 : f s = none := by cases e3 : f s with | none => rfl | some v => rw [e3] at this; exact absurd rfl this
      rw [e2]
      exact ⟨_, _, _, _, _, _, _, _, _, _, _, _, _, _, _, _, _, rfl⟩
theorem bx9f {w : World} {B : Nat} {cs : Array Value} {T : TypeId} (k : w.heap[B]? = some (.cells cs T (0, 0))) : w.frozen? ⟨B, 0, none⟩ = false ∧ w.frozen? ⟨B, 1, none⟩ = false ∧ w.frozen? ⟨B, 2, none⟩ = false ∧ w.frozen? ⟨B, 3, none⟩ = false ∧ w.frozen? ⟨B, 4, none⟩ = false ∧ w.frozen? ⟨B, 5, none⟩ = false ∧ w.frozen? ⟨B, 6, none⟩ = false ∧ w.frozen? ⟨B, 7, none⟩ = false ∧ w.frozen? ⟨B, 8, none⟩ = false := by
  simp [World.frozen?, k]
theorem kx_set9 {w : World} {g : Nat} {a b c d e f x y z : Value} : Kx (· = g) w (((((((((w.setCell ⟨g, 0, none⟩ a).setCell ⟨g, 1, none⟩ b).setCell ⟨g, 2, none⟩ c).setCell ⟨g, 3, none⟩ d).setCell ⟨g, 4, none⟩ e).setCell ⟨g, 5, none⟩ f).setCell ⟨g, 6, none⟩ x).setCell ⟨g, 7, none⟩ y).setCell ⟨g, 8, none⟩ z) :=
  (((((((kx_set.trans kx_set).trans kx_set).trans kx_set).trans kx_set).trans kx_set).trans kx_set).trans kx_set).trans kx_set
/-- what a step of knows answers -/
structure KnQ (w : World) (q : Bool) (l : List Addr) (e : Ending) (w' : World) : Prop where
  ex : ∃ a c N, w.heap.size ≤ N ∧ e = .returned (.tuple #[.slice a l.length c, .bool q]) ∧ w'.ownsRow N 80 1 (.slice a l.length c) l.length (l.map pv)
  bl : Below w.heap.size w w'
theorem results_duo {P : Program} {f : Func} {tmps : Array Value} {W : World} {a b : Nat} {u v : Value} (hf : f.results = #[.tmp a, .tmp b]) (ha : tmps.getD a undef = u) (hb : tmps.getD b undef = v) : (results f tmps).run P W = .ok (.tuple #[u, v]) W := by
  unfold results
  rw [hf]
  have ha2 : tmps[a]?.getD undef = u := by rw [← ha]; simp
  have hb2 : tmps[b]?.getD undef = v := by rw [← hb]; simp
  simp [ha2, hb2]
set_option maxRecDepth 100000 in
set_option maxHeartbeats 8000000 in
theorem kn_step {KB : BQ} {w : World} {l : List Nmd} {b o kb ko n c AB b0 nn : Nat} {K : Int} {nm : ByteArray} {a : Option Addr} (h0 : w.cell? ⟨b, o, none⟩ = some (.int .i64 K)) (h1 : w.cell? ⟨b, o + 1, none⟩ = some (.string nm)) (h6 : w.cell? ⟨b, o + 6, none⟩ = some (.slice a n c)) (ha : 0 < n → a = some ⟨kb, ko, none⟩) (hn : n ≤ 1000000) (hA : w.cell? ⟨AB, 0, none⟩ = some (.map (some b0))) (hT : TbS KB w b0 nn l) (hs : nm.size ≤ maxLen) :
    Calls Try.prog 58 #[pv ⟨b, o, none⟩, .pointer (some ⟨AB, 0, none⟩)] w (KnQ w (memB nm (l.map Nmd.name) || decide (K ≠ 8)) (kidA kb ko n)) := by
  obtain ⟨f, hm, hq, s0, s1, k, m, fl, a1, n1, c1, a2, n2, c2, a3, n3, c3, a4, n4, c4, hv⟩ := hT.val nm
  have HFD : Hid (∀ W, Below w.heap.size w W → Calls Try.prog 55 #[.map (some b0), .string nm] W fun r w' => r = .returned (.tuple #[.agg #[.string s0, .int .i64 k, .string s1, .int .i64 m, .bool fl, .slice a1 n1 c1, .slice a2 n2 c2, .slice a3 n3 c3, .slice a4 n4 c4], .bool (memB nm (l.map Nmd.name))]) ∧ Below W.heap.size W w') := fun W hb => by
    rw [← hq]
    exact find_any (hm.kept hb) nm hs hv
  have HKD : Hid (∀ W, Below w.heap.size w W → Calls Try.prog 34 #[pv ⟨b, o, none⟩] W (KdQ W (kidA kb ko n))) := fun W hb => kids_any (kept_cell hb h6) ha hn
  have HKP : Hid (∀ W, Below w.heap.size w W → W.cell? ⟨AB, 0, none⟩ = some (.map (some b0)) ∧ W.cell? ⟨b, o, none⟩ = some (.int .i64 K) ∧ W.cell? ⟨b, o + 1, none⟩ = some (.string nm)) := fun W h => ⟨kept_cell h hA, kept_cell h h0, kept_cell h h1⟩
  generalize memB nm (l.map Nmd.name) = q at *
  clear hm hq hv hT hs ha hn h6
  have kS := HKP.out w (Below.refl _ _)
  clear h0 h1 hA
  cases q with
  | true =>
    go_enter Try.func58, Try.ntmps58
    go_wp2_with fail
    obtain ⟨hA, h0, h1⟩ := kS
    have v1 : b < w.heap.size := World.block_lt_of_cell? _ _ h0
    have v2 : AB < w.heap.size := World.block_lt_of_cell? _ _ hA
    have hf1 := HFD.out w.drew (below_drew1 _)
    have hf2 := HFD.out (w.alloc (.cells #[.string ⟨#[]⟩, .int .i64 0, .string ⟨#[]⟩, .int .i64 0, .bool false, .slice none 0 0, .slice none 0 0, .slice none 0 0, .slice none 0 0] 33)).drew (bthen (below_alloc _ _) (below_drew1 _))
    go_region_law
      (go_simp; go_wp2_with (first
        | (go_at_call 55; refine hf1.mono ?_; rintro e w1 ⟨rfl, hb1⟩; have HB1 : Hid (Below w.heap.size w w1) := bthen (below_drew1 _) hb1; clear hb1 hf1 hf2)
        | (go_at_call 55; refine hf2.mono ?_; rintro e w1 ⟨rfl, hb1⟩; have HB1 : Hid (Below w.heap.size w w1) := bthen (bthen (below_alloc _ _) (below_drew1 _)) hb1; have hk9 : w1.heap[w.heap.size]? = some (.cells #[.string ⟨#[]⟩, .int .i64 0, .string ⟨#[]⟩, .int .i64 0, .bool false, .slice none 0 0, .slice none 0 0, .slice none 0 0, .slice none 0 0] 33 (0, 0)) := blk_kept hb1 (heap_new w _); obtain ⟨y0, y1, y2, y3, y4, y5, y6, y7, y8⟩ := bx9 hk9; obtain ⟨z0, z1, z2, z3, z4, z5, z6, z7, z8⟩ := bx9f hk9; clear hb1 hf1 hf2 hk9)))
    all_goals
      go_simp
      go_wp2_with fail
      first
        | (obtain ⟨x2, hx2⟩ : ∃ x2, x2 = w1.alloc (.cells #[.string s0, .int .i64 k, .string s1, .int .i64 m, .bool fl, .slice a1 n1 c1, .slice a2 n2 c2, .slice a3 n3 c3, .slice a4 n4 c4] 33) := ⟨_, rfl⟩; rw [← hx2]; have HB2 : Hid (Below w.heap.size w x2) := (by rw [hx2]; exact bthen HB1.out (below_alloc _ _)); clear hx2)
        | (obtain ⟨x2, hx2⟩ : ∃ x2, x2 = (((((((((w1.setCell ⟨w.heap.size, 0, none⟩ (.string s0)).setCell ⟨w.heap.size, 1, none⟩ (.int .i64 k)).setCell ⟨w.heap.size, 2, none⟩ (.string s1)).setCell ⟨w.heap.size, 3, none⟩ (.int .i64 m)).setCell ⟨w.heap.size, 4, none⟩ (.bool fl)).setCell ⟨w.heap.size, 5, none⟩ (.slice a1 n1 c1)).setCell ⟨w.heap.size, 6, none⟩ (.slice a2 n2 c2)).setCell ⟨w.heap.size, 7, none⟩ (.slice a3 n3 c3)).setCell ⟨w.heap.size, 8, none⟩ (.slice a4 n4 c4)) := ⟨_, rfl⟩; rw [← hx2]; have HB2 : Hid (Below w.heap.size w x2) := (by rw [hx2]; exact below_kx1 HB1.out kx_set9 (Nat.le_refl _)); clear hx2)
      have kS := HKP.out x2 HB2.out
      refine wp_region_held_drew (S := fun w' => w'.cell? ⟨AB, 0, none⟩ = some (.map (some b0)) ∧ w'.cell? ⟨b, o, none⟩ = some (.int .i64 K) ∧ w'.cell? ⟨b, o + 1, none⟩ = some (.string nm)) (by kernel_rfl) (by exact kS) (fun hHeld => ?_)
      clear hHeld
      refine wpAnyH_take (i := 0) (oi := { dst := some 16, op := Op.move (Operand.tmp 0), type := 80, pos := "table.go:101", after := #[], guard := none }) (v := ?_) rfl (by kernel_rfl) (by kernel_rfl) (by kernel_rfl) (fun _ _ _ h => h) (Or.inl ⟨by rfl, ?_⟩) (by exact kS) ?_
      rotate_left
      · intro w hSw; (try dsimp only at hSw); (go_simp <;> with_reducible rfl)
      try simp only [Act.put, List.setIfInBounds_toArray, List.set_cons_zero, List.set_cons_succ]
      refine wpAnyH_take (i := 2) (oi := { dst := some 18, op := Op.move (Operand.tmp 6), type := 4, pos := "table.go:101", after := #[], guard := none }) (v := ?_) rfl (by kernel_rfl) (by kernel_rfl) (by kernel_rfl) (fun _ _ _ h => h) (Or.inl ⟨by rfl, ?_⟩) (by exact kS) ?_
      rotate_left
      · intro w hSw; (try dsimp only at hSw); (go_simp <;> with_reducible rfl)
      try simp only [Act.put, List.setIfInBounds_toArray, List.set_cons_zero, List.set_cons_succ]
      refine wpAnyH_ready (rs := [1]) (by kernel_rfl) (by simp) ?_
      refine AllReadyH.cons (o := { dst := some 17, op := Op.call { callee := Callee.value (Operand.func 34), args := #[Operand.tmp 16], argTypes := #[80] }, type := 81, pos := "table.go:101", after := #[{ on := 0, ground := Ground.data }], guard := none }) rfl (fun K hK => ?_) AllReadyH.nil
      go_simp
      go_at_call 34; refine (HKD.out _ (bthen HB2.out (below_drew1 _))).mono ?_; intro e x3 hq; obtain ⟨d1, e1, rfl, ho⟩ := hq.ex; have HB3 : Hid (Below w.heap.size w x3) := bthen (bthen HB2.out (below_drew1 _)) hq.bl; have HO : Hid (∃ N, w.heap.size ≤ N ∧ x3.ownsRow N 80 1 (.slice d1 (kidA kb ko n).length e1) (kidA kb ko n).length ((kidA kb ko n).map pv)) := ⟨_, (bthen HB2.out (below_drew1 _)).size, ho⟩; have kS := HKP.out x3 HB3.out; clear hq ho
      go_wp2_with fail
      refine hK.out _ _ (by exact kS) (fun hHeld => ?_)
      clear hK K hHeld
      try simp only [Act.put, List.setIfInBounds_toArray, List.set_cons_zero, List.set_cons_succ]
      refine wpAnyH_take (i := 3) (oi := { dst := some 19, op := Op.move (Operand.tmp 18), type := 4, pos := "table.go:101", after := #[{ on := 2, ground := Ground.data }, { on := 1, ground := Ground.chain }], guard := none }) (v := ?_) rfl (by kernel_rfl) (by kernel_rfl) (by kernel_rfl) (fun _ _ _ h => h) (Or.inl ⟨by rfl, ?_⟩) (by exact kS) ?_
      rotate_left
      · intro w hSw; (try dsimp only at hSw); (go_simp <;> with_reducible rfl)
      try simp only [Act.put, List.setIfInBounds_toArray, List.set_cons_zero, List.set_cons_succ]
      refine wpAnyH_take (i := 4) (oi := { dst := some 20, op := Op.move (Operand.tmp 0), type := 80, pos := "table.go:101", after := #[{ on := 3, ground := Ground.guard }, { on := 10, ground := Ground.gcOnly Departure.lateStores }], guard := some (3, false) }) (v := undef) rfl (by kernel_rfl) (by kernel_rfl) (by kernel_rfl) (fun _ _ _ h => h) (Or.inr ⟨by rfl, rfl⟩) (by exact kS) ?_
      try simp only [Act.put, List.setIfInBounds_toArray, List.set_cons_zero, List.set_cons_succ]
      refine wpAnyH_take (i := 5) (oi := { dst := some 21, op := Op.nilCheck (Operand.tmp 20), type := 0, pos := "table.go:101", after := #[{ on := 4, ground := Ground.data }, { on := 3, ground := Ground.guard }, { on := 10, ground := Ground.gcOnly Departure.lateStores }], guard := some (3, false) }) (v := undef) rfl (by kernel_rfl) (by kernel_rfl) (by kernel_rfl) (fun _ _ _ h => h) (Or.inr ⟨by rfl, rfl⟩) (by exact kS) ?_
      try simp only [Act.put, List.setIfInBounds_toArray, List.set_cons_zero, List.set_cons_succ]
      refine wpAnyH_take (i := 6) (oi := { dst := some 22, op := Op.fieldAddr 29 (Operand.tmp 21) 0, type := 0, pos := "table.go:101", after := #[{ on := 5, ground := Ground.data }, { on := 3, ground := Ground.guard }, { on := 10, ground := Ground.gcOnly Departure.lateStores }], guard := some (3, false) }) (v := undef) rfl (by kernel_rfl) (by kernel_rfl) (by kernel_rfl) (fun _ _ _ h => h) (Or.inr ⟨by rfl, rfl⟩) (by exact kS) ?_
      try simp only [Act.put, List.setIfInBounds_toArray, List.set_cons_zero, List.set_cons_succ]
      refine wpAnyH_take (i := 7) (oi := { dst := some 23, op := Op.load 3 (Operand.tmp 22), type := 3, pos := "table.go:101", after := #[{ on := 6, ground := Ground.data }, { on := 3, ground := Ground.guard }, { on := 10, ground := Ground.gcOnly Departure.lateStores }], guard := some (3, false) }) (v := undef) rfl (by kernel_rfl) (by kernel_rfl) (by kernel_rfl) (fun _ _ _ h => h) (Or.inr ⟨by rfl, rfl⟩) (by exact kS) ?_
      try simp only [Act.put, List.setIfInBounds_toArray, List.set_cons_zero, List.set_cons_succ]
      refine wpAnyH_take (i := 8) (oi := { dst := some 24, op := Op.binOp BinOp.neq 3 (Operand.tmp 23) (Operand.const (Value.int IntKind.i64 8)) 3, type := 4, pos := "table.go:101", after := #[{ on := 7, ground := Ground.data }, { on := 3, ground := Ground.guard }, { on := 10, ground := Ground.gcOnly Departure.lateStores }], guard := some (3, false) }) (v := undef) rfl (by kernel_rfl) (by kernel_rfl) (by kernel_rfl) (fun _ _ _ h => h) (Or.inr ⟨by rfl, rfl⟩) (by exact kS) ?_
      try simp only [Act.put, List.setIfInBounds_toArray, List.set_cons_zero, List.set_cons_succ]
      refine wpAnyH_take (i := 9) (oi := { dst := some 25, op := Op.pick (Operand.tmp 19) (Operand.const (Value.bool true)) (Operand.tmp 24), type := 4, pos := "table.go:101", after := #[{ on := 3, ground := Ground.data }, { on := 8, ground := Ground.data }, { on := 10, ground := Ground.gcOnly Departure.lateStores }], guard := none }) (v := ?_) rfl (by kernel_rfl) (by kernel_rfl) (by kernel_rfl) (fun _ _ _ h => h) (Or.inl ⟨by rfl, ?_⟩) (by exact kS) ?_
      rotate_left
      · intro w hSw; (try dsimp only at hSw); (go_simp <;> with_reducible rfl)
      try simp only [Act.put, List.setIfInBounds_toArray, List.set_cons_zero, List.set_cons_succ]
      refine wpAnyH_take (i := 10) (oi := { dst := some 3, op := Op.assign (Operand.tmp 17), type := 81, pos := "table.go:101", after := #[{ on := 1, ground := Ground.data }, { on := 3, ground := Ground.chain }, { on := 0, ground := Ground.phase }, { on := 1, ground := Ground.phase }, { on := 2, ground := Ground.textOnly Departure.lateStores }, { on := 3, ground := Ground.textOnly Departure.lateStores }, { on := 4, ground := Ground.textOnly Departure.lateStores }, { on := 5, ground := Ground.textOnly Departure.lateStores }, { on := 6, ground := Ground.textOnly Departure.lateStores }, { on := 7, ground := Ground.textOnly Departure.lateStores }, { on := 8, ground := Ground.textOnly Departure.lateStores }, { on := 9, ground := Ground.textOnly Departure.lateStores }], guard := none }) (v := ?_) rfl (by kernel_rfl) (by kernel_rfl) (by kernel_rfl) (fun _ _ _ h => h) (Or.inl ⟨by rfl, ?_⟩) (by exact kS) ?_
      rotate_left
      · intro w hSw; (try dsimp only at hSw); (go_simp <;> with_reducible rfl)
      try simp only [Act.put, List.setIfInBounds_toArray, List.set_cons_zero, List.set_cons_succ]
      refine wpAnyH_take (i := 11) (oi := { dst := some 4, op := Op.assign (Operand.tmp 25), type := 4, pos := "table.go:101", after := #[{ on := 9, ground := Ground.data }, { on := 10, ground := Ground.chain }, { on := 0, ground := Ground.phase }, { on := 1, ground := Ground.phase }, { on := 2, ground := Ground.phase }, { on := 3, ground := Ground.phase }, { on := 4, ground := Ground.phase }, { on := 5, ground := Ground.phase }, { on := 6, ground := Ground.phase }, { on := 7, ground := Ground.phase }, { on := 8, ground := Ground.phase }, { on := 9, ground := Ground.phase }, { on := 10, ground := Ground.phase }], guard := none }) (v := ?_) rfl (by kernel_rfl) (by kernel_rfl) (by kernel_rfl) (fun _ _ _ h => h) (Or.inl ⟨by rfl, ?_⟩) (by exact kS) ?_
      rotate_left
      · intro w hSw; (try dsimp only at hSw); (go_simp <;> with_reducible rfl)
      try simp only [Act.put, List.setIfInBounds_toArray, List.set_cons_zero, List.set_cons_succ]
      refine wpAnyH_done (by kernel_rfl) ?_ _
      go_wp2_with fail
      obtain ⟨N, hN1, hN2⟩ := HO.out
      exact bodyPost_ret (results_duo rfl rfl rfl) rfl ⟨⟨_, _, N, hN1, rfl, hN2⟩, HB3.out⟩
  | false =>
    by_cases h8 : K = 8
    · subst h8
      go_enter Try.func58, Try.ntmps58
      go_wp2_with fail
      obtain ⟨hA, h0, h1⟩ := kS
      have v1 : b < w.heap.size := World.block_lt_of_cell? _ _ h0
      have v2 : AB < w.heap.size := World.block_lt_of_cell? _ _ hA
      have hf1 := HFD.out w.drew (below_drew1 _)
      have hf2 := HFD.out (w.alloc (.cells #[.string ⟨#[]⟩, .int .i64 0, .string ⟨#[]⟩, .int .i64 0, .bool false, .slice none 0 0, .slice none 0 0, .slice none 0 0, .slice none 0 0] 33)).drew (bthen (below_alloc _ _) (below_drew1 _))
      go_region_law
        (go_simp; go_wp2_with (first
          | (go_at_call 55; refine hf1.mono ?_; rintro e w1 ⟨rfl, hb1⟩; have HB1 : Hid (Below w.heap.size w w1) := bthen (below_drew1 _) hb1; clear hb1 hf1 hf2)
          | (go_at_call 55; refine hf2.mono ?_; rintro e w1 ⟨rfl, hb1⟩; have HB1 : Hid (Below w.heap.size w w1) := bthen (bthen (below_alloc _ _) (below_drew1 _)) hb1; have hk9 : w1.heap[w.heap.size]? = some (.cells #[.string ⟨#[]⟩, .int .i64 0, .string ⟨#[]⟩, .int .i64 0, .bool false, .slice none 0 0, .slice none 0 0, .slice none 0 0, .slice none 0 0] 33 (0, 0)) := blk_kept hb1 (heap_new w _); obtain ⟨y0, y1, y2, y3, y4, y5, y6, y7, y8⟩ := bx9 hk9; obtain ⟨z0, z1, z2, z3, z4, z5, z6, z7, z8⟩ := bx9f hk9; clear hb1 hf1 hf2 hk9)))
      all_goals
        go_simp
        go_wp2_with fail
        first
          | (obtain ⟨x2, hx2⟩ : ∃ x2, x2 = w1.alloc (.cells #[.string s0, .int .i64 k, .string s1, .int .i64 m, .bool fl, .slice a1 n1 c1, .slice a2 n2 c2, .slice a3 n3 c3, .slice a4 n4 c4] 33) := ⟨_, rfl⟩; rw [← hx2]; have HB2 : Hid (Below w.heap.size w x2) := (by rw [hx2]; exact bthen HB1.out (below_alloc _ _)); clear hx2)
          | (obtain ⟨x2, hx2⟩ : ∃ x2, x2 = (((((((((w1.setCell ⟨w.heap.size, 0, none⟩ (.string s0)).setCell ⟨w.heap.size, 1, none⟩ (.int .i64 k)).setCell ⟨w.heap.size, 2, none⟩ (.string s1)).setCell ⟨w.heap.size, 3, none⟩ (.int .i64 m)).setCell ⟨w.heap.size, 4, none⟩ (.bool fl)).setCell ⟨w.heap.size, 5, none⟩ (.slice a1 n1 c1)).setCell ⟨w.heap.size, 6, none⟩ (.slice a2 n2 c2)).setCell ⟨w.heap.size, 7, none⟩ (.slice a3 n3 c3)).setCell ⟨w.heap.size, 8, none⟩ (.slice a4 n4 c4)) := ⟨_, rfl⟩; rw [← hx2]; have HB2 : Hid (Below w.heap.size w x2) := (by rw [hx2]; exact below_kx1 HB1.out kx_set9 (Nat.le_refl _)); clear hx2)
        have kS := HKP.out x2 HB2.out
        refine wp_region_held_drew (S := fun w' => w'.cell? ⟨AB, 0, none⟩ = some (.map (some b0)) ∧ w'.cell? ⟨b, o, none⟩ = some (.int .i64 8) ∧ w'.cell? ⟨b, o + 1, none⟩ = some (.string nm)) (by kernel_rfl) (by exact kS) (fun hHeld => ?_)
        clear hHeld
        refine wpAnyH_take (i := 0) (oi := { dst := some 16, op := Op.move (Operand.tmp 0), type := 80, pos := "table.go:101", after := #[], guard := none }) (v := ?_) rfl (by kernel_rfl) (by kernel_rfl) (by kernel_rfl) (fun _ _ _ h => h) (Or.inl ⟨by rfl, ?_⟩) (by exact kS) ?_
        rotate_left
        · intro w hSw; (try dsimp only at hSw); (go_simp <;> with_reducible rfl)
        try simp only [Act.put, List.setIfInBounds_toArray, List.set_cons_zero, List.set_cons_succ]
        refine wpAnyH_take (i := 2) (oi := { dst := some 18, op := Op.move (Operand.tmp 6), type := 4, pos := "table.go:101", after := #[], guard := none }) (v := ?_) rfl (by kernel_rfl) (by kernel_rfl) (by kernel_rfl) (fun _ _ _ h => h) (Or.inl ⟨by rfl, ?_⟩) (by exact kS) ?_
        rotate_left
        · intro w hSw; (try dsimp only at hSw); (go_simp <;> with_reducible rfl)
        try simp only [Act.put, List.setIfInBounds_toArray, List.set_cons_zero, List.set_cons_succ]
        refine wpAnyH_ready (rs := [1]) (by kernel_rfl) (by simp) ?_
        refine AllReadyH.cons (o := { dst := some 17, op := Op.call { callee := Callee.value (Operand.func 34), args := #[Operand.tmp 16], argTypes := #[80] }, type := 81, pos := "table.go:101", after := #[{ on := 0, ground := Ground.data }], guard := none }) rfl (fun K hK => ?_) AllReadyH.nil
        go_simp
        go_at_call 34; refine (HKD.out _ (bthen HB2.out (below_drew1 _))).mono ?_; intro e x3 hq; obtain ⟨d1, e1, rfl, ho⟩ := hq.ex; have HB3 : Hid (Below w.heap.size w x3) := bthen (bthen HB2.out (below_drew1 _)) hq.bl; have HO : Hid (∃ N, w.heap.size ≤ N ∧ x3.ownsRow N 80 1 (.slice d1 (kidA kb ko n).length e1) (kidA kb ko n).length ((kidA kb ko n).map pv)) := ⟨_, (bthen HB2.out (below_drew1 _)).size, ho⟩; have kS := HKP.out x3 HB3.out; clear hq ho
        go_wp2_with fail
        refine hK.out _ _ (by exact kS) (fun hHeld => ?_)
        clear hK K hHeld
        try simp only [Act.put, List.setIfInBounds_toArray, List.set_cons_zero, List.set_cons_succ]
        refine wpAnyH_take (i := 3) (oi := { dst := some 19, op := Op.move (Operand.tmp 18), type := 4, pos := "table.go:101", after := #[{ on := 2, ground := Ground.data }, { on := 1, ground := Ground.chain }], guard := none }) (v := ?_) rfl (by kernel_rfl) (by kernel_rfl) (by kernel_rfl) (fun _ _ _ h => h) (Or.inl ⟨by rfl, ?_⟩) (by exact kS) ?_
        rotate_left
        · intro w hSw; (try dsimp only at hSw); (go_simp <;> with_reducible rfl)
        try simp only [Act.put, List.setIfInBounds_toArray, List.set_cons_zero, List.set_cons_succ]
        refine wpAnyH_take (i := 4) (oi := { dst := some 20, op := Op.move (Operand.tmp 0), type := 80, pos := "table.go:101", after := #[{ on := 3, ground := Ground.guard }, { on := 10, ground := Ground.gcOnly Departure.lateStores }], guard := some (3, false) }) (v := ?_) rfl (by kernel_rfl) (by kernel_rfl) (by kernel_rfl) (fun _ _ _ h => h) (Or.inl ⟨by rfl, ?_⟩) (by exact kS) ?_
        rotate_left
        · intro w hSw; (try dsimp only at hSw); (go_simp <;> with_reducible rfl)
        try simp only [Act.put, List.setIfInBounds_toArray, List.set_cons_zero, List.set_cons_succ]
        refine wpAnyH_take (i := 5) (oi := { dst := some 21, op := Op.nilCheck (Operand.tmp 20), type := 0, pos := "table.go:101", after := #[{ on := 4, ground := Ground.data }, { on := 3, ground := Ground.guard }, { on := 10, ground := Ground.gcOnly Departure.lateStores }], guard := some (3, false) }) (v := ?_) rfl (by kernel_rfl) (by kernel_rfl) (by kernel_rfl) (fun _ _ _ h => h) (Or.inl ⟨by rfl, ?_⟩) (by exact kS) ?_
        rotate_left
        · intro w hSw; (try dsimp only at hSw); (go_simp <;> with_reducible rfl)
        try simp only [Act.put, List.setIfInBounds_toArray, List.set_cons_zero, List.set_cons_succ]
        refine wpAnyH_take (i := 6) (oi := { dst := some 22, op := Op.fieldAddr 29 (Operand.tmp 21) 0, type := 0, pos := "table.go:101", after := #[{ on := 5, ground := Ground.data }, { on := 3, ground := Ground.guard }, { on := 10, ground := Ground.gcOnly Departure.lateStores }], guard := some (3, false) }) (v := ?_) rfl (by kernel_rfl) (by kernel_rfl) (by kernel_rfl) (fun _ _ _ h => h) (Or.inl ⟨by rfl, ?_⟩) (by exact kS) ?_
        rotate_left
        · intro w hSw; (try dsimp only at hSw); (go_simp <;> with_reducible rfl)
        try simp only [Act.put, List.setIfInBounds_toArray, List.set_cons_zero, List.set_cons_succ]
        refine wpAnyH_take (i := 7) (oi := { dst := some 23, op := Op.load 3 (Operand.tmp 22), type := 3, pos := "table.go:101", after := #[{ on := 6, ground := Ground.data }, { on := 3, ground := Ground.guard }, { on := 10, ground := Ground.gcOnly Departure.lateStores }], guard := some (3, false) }) (v := ?_) rfl (by kernel_rfl) (by kernel_rfl) (by kernel_rfl) (fun _ _ _ h => h) (Or.inl ⟨by rfl, ?_⟩) (by exact kS) ?_
        rotate_left
        · intro w hSw; (try dsimp only at hSw); (go_simp <;> with_reducible rfl)
        try simp only [Act.put, List.setIfInBounds_toArray, List.set_cons_zero, List.set_cons_succ]
        refine wpAnyH_take (i := 8) (oi := { dst := some 24, op := Op.binOp BinOp.neq 3 (Operand.tmp 23) (Operand.const (Value.int IntKind.i64 8)) 3, type := 4, pos := "table.go:101", after := #[{ on := 7, ground := Ground.data }, { on := 3, ground := Ground.guard }, { on := 10, ground := Ground.gcOnly Departure.lateStores }], guard := some (3, false) }) (v := ?_) rfl (by kernel_rfl) (by kernel_rfl) (by kernel_rfl) (fun _ _ _ h => h) (Or.inl ⟨by rfl, ?_⟩) (by exact kS) ?_
        rotate_left
        · intro w hSw; (try dsimp only at hSw); (go_simp <;> with_reducible rfl)
        try simp only [Act.put, List.setIfInBounds_toArray, List.set_cons_zero, List.set_cons_succ]
        refine wpAnyH_take (i := 9) (oi := { dst := some 25, op := Op.pick (Operand.tmp 19) (Operand.const (Value.bool true)) (Operand.tmp 24), type := 4, pos := "table.go:101", after := #[{ on := 3, ground := Ground.data }, { on := 8, ground := Ground.data }, { on := 10, ground := Ground.gcOnly Departure.lateStores }], guard := none }) (v := ?_) rfl (by kernel_rfl) (by kernel_rfl) (by kernel_rfl) (fun _ _ _ h => h) (Or.inl ⟨by rfl, ?_⟩) (by exact kS) ?_
        rotate_left
        · intro w hSw; (try dsimp only at hSw); (go_simp <;> with_reducible rfl)
        try simp only [Act.put, List.setIfInBounds_toArray, List.set_cons_zero, List.set_cons_succ]
        refine wpAnyH_take (i := 10) (oi := { dst := some 3, op := Op.assign (Operand.tmp 17), type := 81, pos := "table.go:101", after := #[{ on := 1, ground := Ground.data }, { on := 3, ground := Ground.chain }, { on := 0, ground := Ground.phase }, { on := 1, ground := Ground.phase }, { on := 2, ground := Ground.textOnly Departure.lateStores }, { on := 3, ground := Ground.textOnly Departure.lateStores }, { on := 4, ground := Ground.textOnly Departure.lateStores }, { on := 5, ground := Ground.textOnly Departure.lateStores }, { on := 6, ground := Ground.textOnly Departure.lateStores }, { on := 7, ground := Ground.textOnly Departure.lateStores }, { on := 8, ground := Ground.textOnly Departure.lateStores }, { on := 9, ground := Ground.textOnly Departure.lateStores }], guard := none }) (v := ?_) rfl (by kernel_rfl) (by kernel_rfl) (by kernel_rfl) (fun _ _ _ h => h) (Or.inl ⟨by rfl, ?_⟩) (by exact kS) ?_
        rotate_left
        · intro w hSw; (try dsimp only at hSw); (go_simp <;> with_reducible rfl)
        try simp only [Act.put, List.setIfInBounds_toArray, List.set_cons_zero, List.set_cons_succ]
        refine wpAnyH_take (i := 11) (oi := { dst := some 4, op := Op.assign (Operand.tmp 25), type := 4, pos := "table.go:101", after := #[{ on := 9, ground := Ground.data }, { on := 10, ground := Ground.chain }, { on := 0, ground := Ground.phase }, { on := 1, ground := Ground.phase }, { on := 2, ground := Ground.phase }, { on := 3, ground := Ground.phase }, { on := 4, ground := Ground.phase }, { on := 5, ground := Ground.phase }, { on := 6, ground := Ground.phase }, { on := 7, ground := Ground.phase }, { on := 8, ground := Ground.phase }, { on := 9, ground := Ground.phase }, { on := 10, ground := Ground.phase }], guard := none }) (v := ?_) rfl (by kernel_rfl) (by kernel_rfl) (by kernel_rfl) (fun _ _ _ h => h) (Or.inl ⟨by rfl, ?_⟩) (by exact kS) ?_
        rotate_left
        · intro w hSw; (try dsimp only at hSw); (go_simp <;> with_reducible rfl)
        try simp only [Act.put, List.setIfInBounds_toArray, List.set_cons_zero, List.set_cons_succ]
        refine wpAnyH_done (by kernel_rfl) ?_ _
        go_wp2_with fail
        obtain ⟨N, hN1, hN2⟩ := HO.out
        exact bodyPost_ret (results_duo rfl rfl rfl) rfl ⟨⟨_, _, N, hN1, rfl, hN2⟩, HB3.out⟩
    · have k8 := int_bne h8
      have k8b : (K != 8) = true := by simp [bne, k8]
      have k8c : decide (K ≠ 8) = true := by simp [h8]
      rw [k8c]
      clear h8
      go_enter Try.func58, Try.ntmps58
      go_wp2_with fail
      obtain ⟨hA, h0, h1⟩ := kS
      have v1 : b < w.heap.size := World.block_lt_of_cell? _ _ h0
      have v2 : AB < w.heap.size := World.block_lt_of_cell? _ _ hA
      have hf1 := HFD.out w.drew (below_drew1 _)
      have hf2 := HFD.out (w.alloc (.cells #[.string ⟨#[]⟩, .int .i64 0, .string ⟨#[]⟩, .int .i64 0, .bool false, .slice none 0 0, .slice none 0 0, .slice none 0 0, .slice none 0 0] 33)).drew (bthen (below_alloc _ _) (below_drew1 _))
      go_region_law
        (go_simp; go_wp2_with (first
          | (go_at_call 55; refine hf1.mono ?_; rintro e w1 ⟨rfl, hb1⟩; have HB1 : Hid (Below w.heap.size w w1) := bthen (below_drew1 _) hb1; clear hb1 hf1 hf2)
          | (go_at_call 55; refine hf2.mono ?_; rintro e w1 ⟨rfl, hb1⟩; have HB1 : Hid (Below w.heap.size w w1) := bthen (bthen (below_alloc _ _) (below_drew1 _)) hb1; have hk9 : w1.heap[w.heap.size]? = some (.cells #[.string ⟨#[]⟩, .int .i64 0, .string ⟨#[]⟩, .int .i64 0, .bool false, .slice none 0 0, .slice none 0 0, .slice none 0 0, .slice none 0 0] 33 (0, 0)) := blk_kept hb1 (heap_new w _); obtain ⟨y0, y1, y2, y3, y4, y5, y6, y7, y8⟩ := bx9 hk9; obtain ⟨z0, z1, z2, z3, z4, z5, z6, z7, z8⟩ := bx9f hk9; clear hb1 hf1 hf2 hk9)))
      all_goals
        go_simp
        go_wp2_with fail
        first
          | (obtain ⟨x2, hx2⟩ : ∃ x2, x2 = w1.alloc (.cells #[.string s0, .int .i64 k, .string s1, .int .i64 m, .bool fl, .slice a1 n1 c1, .slice a2 n2 c2, .slice a3 n3 c3, .slice a4 n4 c4] 33) := ⟨_, rfl⟩; rw [← hx2]; have HB2 : Hid (Below w.heap.size w x2) := (by rw [hx2]; exact bthen HB1.out (below_alloc _ _)); clear hx2)
          | (obtain ⟨x2, hx2⟩ : ∃ x2, x2 = (((((((((w1.setCell ⟨w.heap.size, 0, none⟩ (.string s0)).setCell ⟨w.heap.size, 1, none⟩ (.int .i64 k)).setCell ⟨w.heap.size, 2, none⟩ (.string s1)).setCell ⟨w.heap.size, 3, none⟩ (.int .i64 m)).setCell ⟨w.heap.size, 4, none⟩ (.bool fl)).setCell ⟨w.heap.size, 5, none⟩ (.slice a1 n1 c1)).setCell ⟨w.heap.size, 6, none⟩ (.slice a2 n2 c2)).setCell ⟨w.heap.size, 7, none⟩ (.slice a3 n3 c3)).setCell ⟨w.heap.size, 8, none⟩ (.slice a4 n4 c4)) := ⟨_, rfl⟩; rw [← hx2]; have HB2 : Hid (Below w.heap.size w x2) := (by rw [hx2]; exact below_kx1 HB1.out kx_set9 (Nat.le_refl _)); clear hx2)
        have kS := HKP.out x2 HB2.out
        refine wp_region_held_drew (S := fun w' => w'.cell? ⟨AB, 0, none⟩ = some (.map (some b0)) ∧ w'.cell? ⟨b, o, none⟩ = some (.int .i64 K) ∧ w'.cell? ⟨b, o + 1, none⟩ = some (.string nm)) (by kernel_rfl) (by exact kS) (fun hHeld => ?_)
        clear hHeld
        refine wpAnyH_take (i := 0) (oi := { dst := some 16, op := Op.move (Operand.tmp 0), type := 80, pos := "table.go:101", after := #[], guard := none }) (v := ?_) rfl (by kernel_rfl) (by kernel_rfl) (by kernel_rfl) (fun _ _ _ h => h) (Or.inl ⟨by rfl, ?_⟩) (by exact kS) ?_
        rotate_left
        · intro w hSw; (try dsimp only at hSw); (go_simp <;> with_reducible rfl)
        try simp only [Act.put, List.setIfInBounds_toArray, List.set_cons_zero, List.set_cons_succ]
        refine wpAnyH_take (i := 2) (oi := { dst := some 18, op := Op.move (Operand.tmp 6), type := 4, pos := "table.go:101", after := #[], guard := none }) (v := ?_) rfl (by kernel_rfl) (by kernel_rfl) (by kernel_rfl) (fun _ _ _ h => h) (Or.inl ⟨by rfl, ?_⟩) (by exact kS) ?_
        rotate_left
        · intro w hSw; (try dsimp only at hSw); (go_simp <;> with_reducible rfl)
        try simp only [Act.put, List.setIfInBounds_toArray, List.set_cons_zero, List.set_cons_succ]
        refine wpAnyH_ready (rs := [1]) (by kernel_rfl) (by simp) ?_
        refine AllReadyH.cons (o := { dst := some 17, op := Op.call { callee := Callee.value (Operand.func 34), args := #[Operand.tmp 16], argTypes := #[80] }, type := 81, pos := "table.go:101", after := #[{ on := 0, ground := Ground.data }], guard := none }) rfl (fun K hK => ?_) AllReadyH.nil
        go_simp
        go_at_call 34; refine (HKD.out _ (bthen HB2.out (below_drew1 _))).mono ?_; intro e x3 hq; obtain ⟨d1, e1, rfl, ho⟩ := hq.ex; have HB3 : Hid (Below w.heap.size w x3) := bthen (bthen HB2.out (below_drew1 _)) hq.bl; have HO : Hid (∃ N, w.heap.size ≤ N ∧ x3.ownsRow N 80 1 (.slice d1 (kidA kb ko n).length e1) (kidA kb ko n).length ((kidA kb ko n).map pv)) := ⟨_, (bthen HB2.out (below_drew1 _)).size, ho⟩; have kS := HKP.out x3 HB3.out; clear hq ho
        go_wp2_with fail
        refine hK.out _ _ (by exact kS) (fun hHeld => ?_)
        clear hK K hHeld
        try simp only [Act.put, List.setIfInBounds_toArray, List.set_cons_zero, List.set_cons_succ]
        refine wpAnyH_take (i := 3) (oi := { dst := some 19, op := Op.move (Operand.tmp 18), type := 4, pos := "table.go:101", after := #[{ on := 2, ground := Ground.data }, { on := 1, ground := Ground.chain }], guard := none }) (v := ?_) rfl (by kernel_rfl) (by kernel_rfl) (by kernel_rfl) (fun _ _ _ h => h) (Or.inl ⟨by rfl, ?_⟩) (by exact kS) ?_
        rotate_left
        · intro w hSw; (try dsimp only at hSw); (go_simp <;> with_reducible rfl)
        try simp only [Act.put, List.setIfInBounds_toArray, List.set_cons_zero, List.set_cons_succ]
        refine wpAnyH_take (i := 4) (oi := { dst := some 20, op := Op.move (Operand.tmp 0), type := 80, pos := "table.go:101", after := #[{ on := 3, ground := Ground.guard }, { on := 10, ground := Ground.gcOnly Departure.lateStores }], guard := some (3, false) }) (v := ?_) rfl (by kernel_rfl) (by kernel_rfl) (by kernel_rfl) (fun _ _ _ h => h) (Or.inl ⟨by rfl, ?_⟩) (by exact kS) ?_
        rotate_left
        · intro w hSw; (try dsimp only at hSw); (go_simp <;> with_reducible rfl)
        try simp only [Act.put, List.setIfInBounds_toArray, List.set_cons_zero, List.set_cons_succ]
        refine wpAnyH_take (i := 5) (oi := { dst := some 21, op := Op.nilCheck (Operand.tmp 20), type := 0, pos := "table.go:101", after := #[{ on := 4, ground := Ground.data }, { on := 3, ground := Ground.guard }, { on := 10, ground := Ground.gcOnly Departure.lateStores }], guard := some (3, false) }) (v := ?_) rfl (by kernel_rfl) (by kernel_rfl) (by kernel_rfl) (fun _ _ _ h => h) (Or.inl ⟨by rfl, ?_⟩) (by exact kS) ?_
        rotate_left
        · intro w hSw; (try dsimp only at hSw); (go_simp <;> with_reducible rfl)
        try simp only [Act.put, List.setIfInBounds_toArray, List.set_cons_zero, List.set_cons_succ]
        refine wpAnyH_take (i := 6) (oi := { dst := some 22, op := Op.fieldAddr 29 (Operand.tmp 21) 0, type := 0, pos := "table.go:101", after := #[{ on := 5, ground := Ground.data }, { on := 3, ground := Ground.guard }, { on := 10, ground := Ground.gcOnly Departure.lateStores }], guard := some (3, false) }) (v := ?_) rfl (by kernel_rfl) (by kernel_rfl) (by kernel_rfl) (fun _ _ _ h => h) (Or.inl ⟨by rfl, ?_⟩) (by exact kS) ?_
        rotate_left
        · intro w hSw; (try dsimp only at hSw); (go_simp <;> with_reducible rfl)
        try simp only [Act.put, List.setIfInBounds_toArray, List.set_cons_zero, List.set_cons_succ]
        refine wpAnyH_take (i := 7) (oi := { dst := some 23, op := Op.load 3 (Operand.tmp 22), type := 3, pos := "table.go:101", after := #[{ on := 6, ground := Ground.data }, { on := 3, ground := Ground.guard }, { on := 10, ground := Ground.gcOnly Departure.lateStores }], guard := some (3, false) }) (v := ?_) rfl (by kernel_rfl) (by kernel_rfl) (by kernel_rfl) (fun _ _ _ h => h) (Or.inl ⟨by rfl, ?_⟩) (by exact kS) ?_
        rotate_left
        · intro w hSw; (try dsimp only at hSw); (go_simp <;> with_reducible rfl)
        try simp only [Act.put, List.setIfInBounds_toArray, List.set_cons_zero, List.set_cons_succ]
        refine wpAnyH_take (i := 8) (oi := { dst := some 24, op := Op.binOp BinOp.neq 3 (Operand.tmp 23) (Operand.const (Value.int IntKind.i64 8)) 3, type := 4, pos := "table.go:101", after := #[{ on := 7, ground := Ground.data }, { on := 3, ground := Ground.guard }, { on := 10, ground := Ground.gcOnly Departure.lateStores }], guard := some (3, false) }) (v := ?_) rfl (by kernel_rfl) (by kernel_rfl) (by kernel_rfl) (fun _ _ _ h => h) (Or.inl ⟨by rfl, ?_⟩) (by exact kS) ?_
        rotate_left
        · intro w hSw; (try dsimp only at hSw); (go_simp <;> with_reducible rfl)
        try simp only [Act.put, List.setIfInBounds_toArray, List.set_cons_zero, List.set_cons_succ]
        refine wpAnyH_take (i := 9) (oi := { dst := some 25, op := Op.pick (Operand.tmp 19) (Operand.const (Value.bool true)) (Operand.tmp 24), type := 4, pos := "table.go:101", after := #[{ on := 3, ground := Ground.data }, { on := 8, ground := Ground.data }, { on := 10, ground := Ground.gcOnly Departure.lateStores }], guard := none }) (v := ?_) rfl (by kernel_rfl) (by kernel_rfl) (by kernel_rfl) (fun _ _ _ h => h) (Or.inl ⟨by rfl, ?_⟩) (by exact kS) ?_
        rotate_left
        · intro w hSw; (try dsimp only at hSw); (go_simp <;> with_reducible rfl)
        try simp only [Act.put, List.setIfInBounds_toArray, List.set_cons_zero, List.set_cons_succ]
        refine wpAnyH_take (i := 10) (oi := { dst := some 3, op := Op.assign (Operand.tmp 17), type := 81, pos := "table.go:101", after := #[{ on := 1, ground := Ground.data }, { on := 3, ground := Ground.chain }, { on := 0, ground := Ground.phase }, { on := 1, ground := Ground.phase }, { on := 2, ground := Ground.textOnly Departure.lateStores }, { on := 3, ground := Ground.textOnly Departure.lateStores }, { on := 4, ground := Ground.textOnly Departure.lateStores }, { on := 5, ground := Ground.textOnly Departure.lateStores }, { on := 6, ground := Ground.textOnly Departure.lateStores }, { on := 7, ground := Ground.textOnly Departure.lateStores }, { on := 8, ground := Ground.textOnly Departure.lateStores }, { on := 9, ground := Ground.textOnly Departure.lateStores }], guard := none }) (v := ?_) rfl (by kernel_rfl) (by kernel_rfl) (by kernel_rfl) (fun _ _ _ h => h) (Or.inl ⟨by rfl, ?_⟩) (by exact kS) ?_
        rotate_left
        · intro w hSw; (try dsimp only at hSw); (go_simp <;> with_reducible rfl)
        try simp only [Act.put, List.setIfInBounds_toArray, List.set_cons_zero, List.set_cons_succ]
        refine wpAnyH_take (i := 11) (oi := { dst := some 4, op := Op.assign (Operand.tmp 25), type := 4, pos := "table.go:101", after := #[{ on := 9, ground := Ground.data }, { on := 10, ground := Ground.chain }, { on := 0, ground := Ground.phase }, { on := 1, ground := Ground.phase }, { on := 2, ground := Ground.phase }, { on := 3, ground := Ground.phase }, { on := 4, ground := Ground.phase }, { on := 5, ground := Ground.phase }, { on := 6, ground := Ground.phase }, { on := 7, ground := Ground.phase }, { on := 8, ground := Ground.phase }, { on := 9, ground := Ground.phase }, { on := 10, ground := Ground.phase }], guard := none }) (v := ?_) rfl (by kernel_rfl) (by kernel_rfl) (by kernel_rfl) (fun _ _ _ h => h) (Or.inl ⟨by rfl, ?_⟩) (by exact kS) ?_
        rotate_left
        · intro w hSw; (try dsimp only at hSw); (go_simp <;> with_reducible rfl)
        try simp only [Act.put, List.setIfInBounds_toArray, List.set_cons_zero, List.set_cons_succ]
        refine wpAnyH_done (by kernel_rfl) ?_ _
        go_wp2_with fail
        obtain ⟨N, hN1, hN2⟩ := HO.out
        exact bodyPost_ret (results_duo rfl rfl rfl) rfl ⟨⟨_, _, N, hN1, rfl, hN2⟩, HB3.out⟩
end Go.Proofs.Ytdofhlmffponoaa

/-
  (types.table).knows, walked: the walk.
-/
namespace Go.Proofs.Ytdofhlmffponoaa
open Go.RowKit
attribute [local go_sem ↓] Go.wp_at_zero Go.wp_at_succ
/-- between two steps -/
structure KnI (w0 : World) (KB : BQ) (l : List Nmd) (AB b0 nn : Nat) (root : Ty) (g : Nat) (X : Nat → Prop) (al : List Addr) (W : World) : Prop where
  bl : Below w0.heap.size w0 W
  all : ∀ b, b < w0.heap.size → X b
  lt : ∀ b, X b → b < W.heap.size
  gb : g ≤ 1000000
  hA : w0.cell? ⟨AB, 0, none⟩ = some (.map (some b0))
  tb : TbS KB w0 b0 nn l
  ex : ∃ ps : List Pnd, ps.map Pnd.a = al ∧ cntL (ps.map Pnd.t) ≤ g ∧ (∀ p ∈ ps, p.t.lies (fun b => b < w0.heap.size) w0 p.b p.o ∧ p.t.nsz = true) ∧ root.kno (l.map Nmd.name) = knoL (l.map Nmd.name) (ps.map Pnd.t)
/-- one was not there -/
def KnB (w0 : World) (l : List Nmd) (root : Ty) (X : Nat → Prop) (W : World) : Prop := Below w0.heap.size w0 W ∧ (∀ b, b < w0.heap.size → X b) ∧ root.kno (l.map Nmd.name) = false
section
variable {w0 : World} {KB : BQ} {l : List Nmd} {AB b0 nn g : Nat} {root : Ty} {X : Nat → Prop} {al : List Addr} {W W' : World}
theorem KnI.stable (h : KnI w0 KB l AB b0 nn root g X al W) (hk : Kx (fun b => ¬ X b) W W') : KnI w0 KB l AB b0 nn root g X al W' :=
  ⟨h.bl.trans (hk.below h.bl.size (fun b hb hx => hx (h.all b hb))), h.all, fun b hb => Nat.lt_of_lt_of_le (h.lt b hb) hk.size, h.gb, h.hA, h.tb, h.ex⟩
theorem KnB.stable (h : KnB w0 l root X W) (hk : Kx (fun b => ¬ X b) W W') : KnB w0 l root X W' :=
  ⟨h.1.trans (hk.below h.1.size (fun b hb hx => hx (h.2.1 b hb))), h.2⟩
theorem KnI.len (h : KnI w0 KB l AB b0 nn root g X al W) : al.length ≤ 1000000 := by
  obtain ⟨ps, e1, e2, _⟩ := h.ex
  have := h.gb
  have h1 := cntL_len (ps.map Pnd.t)
  rw [List.length_map] at h1
  rw [← e1, List.length_map]; omega
theorem KnI.call {x : Addr} {r : List Addr} (h : KnI w0 KB l AB b0 nn root g X (x :: r) W) : Calls Try.prog 58 #[pv x, .pointer (some ⟨AB, 0, none⟩)] W (StQ (KnI w0 KB l AB b0 nn root) (KnB w0 l root) g X r W) := by
  obtain ⟨ps, e1, e2, hp, hr⟩ := h.ex
  cases ps with
  | nil => simp at e1
  | cons p qs =>
    obtain ⟨rfl, rfl⟩ : p.a = x ∧ qs.map Pnd.a = r := by simpa using e1
    have hpl := (hp p (by simp)).1
    have hns := (hp p (by simp)).2
    obtain ⟨h0, h1, h2, h3, vn, vm, vk, h4, h5, h6, hpr⟩ := lies_iff.1 hpl
    rw [List.map_cons, cntL_cons] at e2
    have hcp := p.t.cnt_eq
    have hgb := h.gb
    have hkl := cntL_len p.t.kids
    obtain ⟨a, c, kb, ko, rfl, hka, hkl2⟩ : ∃ a c kb ko, vk = .slice a p.t.kids.length c ∧ (0 < p.t.kids.length → a = some ⟨kb, ko, none⟩) ∧ ∀ i (hi : i < p.t.kids.length), (p.t.kids[i]).lies (fun b => b < w0.heap.size) w0 kb (ko + i * 7) := by
      rcases hpr.ks with ⟨a, c, rfl, hk⟩ | ⟨b, o, c, rfl, hl, hb1, hb, hL⟩
      · refine ⟨a, c, 0, 0, by rw [hk]; rfl, fun h => ?_, fun i hi => ?_⟩
        · rw [hk] at h; simp at h
        · rw [hk] at hi; simp at hi
      · exact ⟨_, c, b, o, rfl, fun _ => rfl, fun i hi => liesT_get hL i hi⟩
    have hro : root.kno (l.map Nmd.name) = (((memB p.t.name (l.map Nmd.name) || decide (p.t.kind ≠ 8)) && knoL (l.map Nmd.name) p.t.kids) && knoL (l.map Nmd.name) (qs.map Pnd.t)) := by
      rw [hr, List.map_cons]
      simp only [knoL]
      rw [Ty.kno_eq]
    refine (kn_step (kb := kb) (ko := ko) (kept_cell h.bl h0) (kept_cell h.bl h1) (kept_cell h.bl h6) hka (by omega) (kept_cell h.bl h.hA) (h.tb.kept h.bl) (Ty.nsz_name hns)).mono ?_
    intro e W5 hq
    obtain ⟨a5, c5, N, hN, rfl, ho⟩ := hq.ex
    cases hqq : (memB p.t.name (l.map Nmd.name) || decide (p.t.kind ≠ 8)) with
    | false =>
      refine .inr ⟨a5, _, c5, fun b => X b ∨ (W.heap.size ≤ b ∧ b < W5.heap.size), rfl, ⟨bthen h.bl hq.bl, fun b hb => .inl (h.all b hb), by rw [hro, hqq]; rfl⟩, Kx.of_whole hq.bl, fun b hb hx => hx.resolve_right (by omega)⟩
    | true =>
      refine .inl ⟨a5, (kidA kb ko p.t.kids.length).length, c5, kidA kb ko p.t.kids.length, g - 1, fun b => X b ∨ (W.heap.size ≤ b ∧ b < W5.heap.size), rfl, ?_, by omega, ?_, Kx.of_whole hq.bl, fun b hb hx => hx.resolve_right (by omega)⟩
      · exact rowV_own (w := W5) ho rfl (by rw [kidA_len]; omega) (fun k hk => by have := ho.lt k hk; exact .inr ⟨by omega, this.2⟩) (Nat.le_refl _) (fun _ _ _ _ h => h)
      · refine ⟨bthen h.bl hq.bl, fun b hb => .inl (h.all b hb), ?_, by omega, h.hA, h.tb, kidP kb p.t.kids ko ++ qs, by rw [List.map_append, kidP_a], by rw [List.map_append, kidP_t, cntL_append]; omega, ?_, by rw [hro, hqq, List.map_append, kidP_t, knoL_append]; rfl⟩
        · rintro b (hx | hx)
          · have := h.lt b hx; have := hq.bl.size; omega
          · exact hx.2
        · intro q hq'
          rcases List.mem_append.1 hq' with hq' | hq'
          · obtain ⟨i, hi, rfl⟩ := kidP_mem _ _ hq'
            exact ⟨hkl2 i hi, Ty.nsz_kids hns _ (List.getElem_mem _)⟩
          · exact hp q (by simp [hq'])
end
theorem enterKn : ∀ args w, (callFunc 58 args).run Try.prog w = .ok (.enter 58 args) w := enters_of Try.func58 (by kernel_rfl) rfl
theorem knW {W : World} {KB : BQ} {l : List Nmd} {AB b0 nn b o fb fc : Nat} {t : Ty} (hA : W.cell? ⟨AB, 0, none⟩ = some (.map (some b0))) (hT : TbS KB W b0 nn l) (hl : t.lies (fun b => b < W.heap.size) W b o) (hs : t.nsz = true) (hc : t.cnt ≤ 1000000) (hf : W.cell? ⟨fb, 0, none⟩ = some (pv ⟨b, o, none⟩)) :
    Calls Try.prog 29 #[.func (.func 58) #[] #[.pointer (some ⟨AB, 0, none⟩)], .slice (some ⟨fb, 0, none⟩) 1 fc] W fun e w' => e = .returned (.bool (t.kno (l.map Nmd.name))) ∧ Below W.heap.size W w' := by
  have h0 : KnI W KB l AB b0 nn t t.cnt (fun b => b < W.heap.size) [⟨b, o, none⟩] W := by
    refine ⟨Below.refl _ _, fun _ h => h, fun _ h => h, hc, hA, hT, [⟨b, o, t⟩], rfl, by simp [cntL], fun p hp => ?_, by simp [knoL]⟩
    obtain rfl := List.mem_singleton.1 hp
    exact ⟨hl, hs⟩
  refine (walkP (I := KnI W KB l AB b0 nn t) (Bad := KnB W l t) 58 #[.pointer (some ⟨AB, 0, none⟩)] enterKn (fun _ _ _ _ _ h hk => h.stable hk) (fun _ _ _ h hk => h.stable hk) (fun _ _ _ _ h => h.lt) (fun _ _ _ _ h => h.len) (fun g X x r W h => by simpa using h.call) t.cnt ⟨b, o, none⟩ fb 0 fc W hf h0).mono ?_
  rintro e w' (⟨rfl, g, X, h⟩ | ⟨rfl, X, h⟩)
  · obtain ⟨ps, e1, _, _, hr⟩ := h.ex
    have : ps = [] := by simpa using e1
    subst this
    exact ⟨by rw [hr]; rfl, h.bl⟩
  · exact ⟨by rw [h.2.2], h.1⟩
set_option maxRecDepth 100000 in
set_option maxHeartbeats 2000000 in
/-- are all declared types of a type there? -/
theorem knows_any {w : World} {KB : BQ} {l : List Nmd} {b0 nn b o : Nat} {t : Ty} {B : BQ} (hT : TbS KB w b0 nn l) (hl : t.lies B w b o) (hs : t.nsz = true) (hc : t.cnt ≤ 1000000) :
    Calls Try.prog 39 #[.map (some b0), pv ⟨b, o, none⟩] w fun e w' => e = .returned (.bool (t.kno (l.map Nmd.name))) ∧ Below w.heap.size w w' := by
  have hbl : b < w.heap.size := World.block_lt_of_cell? _ _ (lies_iff.1 hl).1
  obtain ⟨W2, hW2⟩ : ∃ W2, W2 = (w.alloc (.cells #[.map (some b0)] 51)).alloc (.cells #[pv ⟨b, o, none⟩] 80) := ⟨_, rfl⟩
  have hb2 : Below w.heap.size w W2 := by rw [hW2]; exact bthen (below_alloc _ _) (below_alloc _ _)
  have hA : W2.cell? ⟨w.heap.size, 0, none⟩ = some (.map (some b0)) := by
    rw [hW2]; exact kept_cell (below_alloc _ _) (cell_of (heap_new w _) 0)
  have hf : W2.cell? ⟨w.heap.size + 1, 0, none⟩ = some (pv ⟨b, o, none⟩) := by
    rw [hW2]
    have := cell_of (heap_new (w.alloc (.cells #[.map (some b0)] 51)) (.cells #[pv ⟨b, o, none⟩] 80)) 0
    rw [World.size_alloc] at this
    exact this
  have hwk := knW (fc := 1) hA (hT.kept hb2) (lies_to (X := fun _ => False) (Kx.of_whole hb2) (fun c hc _ => by have := hb2.size; show c < W2.heap.size; omega) (fun _ _ _ h => h) _ _ _ (fun h => h) hl) hs hc hf
  have HB2 : Hid (Below w.heap.size w W2) := hb2
  clear hT hl hs hc hb2 hA hf
  subst hW2
  go_enter Try.func39, Try.ntmps39
  go_wp2_with (go_at_call 29; refine hwk.mono ?_; rintro e w3 ⟨rfl, hb3⟩; have HB3 : Hid (Below w.heap.size w w3) := bthen HB2.out hb3; clear hb3 hwk)
  go_ret
  exact ⟨rfl, HB3.out⟩
end Go.Proofs.Ytdofhlmffponoaa

