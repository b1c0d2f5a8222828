/-
  tree.All, and the iterator that it answers.
-/
import Derived.Test.YtgknigjpdnfkdaaAll12
import Derived.Test.YtgknigjpdnfkdaaAt
namespace Go.Proofs.Ytgknigjpdnfkdaa
open Go.RowKit
attribute [local go_sem] Oper.semAt_some
def opsL : Array Oper := #[{ dst := some 9, op := Op.load 34 (Operand.tmp 2), type := 34, pos := "tree.go:16", after := #[], guard := none },
  { dst := some 10, op := Op.move (Operand.tmp 3), type := 3, pos := "tree.go:16", after := #[], guard := none },
  { dst := some 11, op := Op.load 24 (Operand.tmp 4), type := 24, pos := "tree.go:16", after := #[], guard := none },
  { dst := some 12, op := Op.call { callee := Callee.value (Operand.func 34), args := #[Operand.tmp 11], argTypes := #[24] }, type := 24, pos := "tree.go:16", after := #[{ on := 2, ground := Ground.data }], guard := none },
  { dst := some 13, op := Op.call { callee := Callee.value (Operand.tmp 9), args := #[Operand.tmp 10, Operand.tmp 12], argTypes := #[3, 24] }, type := 4, pos := "tree.go:16", after := #[{ on := 0, ground := Ground.data }, { on := 1, ground := Ground.data }, { on := 3, ground := Ground.data }, { on := 3, ground := Ground.chain }], guard := none },
  { dst := some 14, op := Op.unOp UnOp.not 4 (Operand.tmp 13), type := 4, pos := "tree.go:16", after := #[{ on := 4, ground := Ground.data }], guard := none }]
def yvl (okb ovb kb lb db sb : Nat) : Value := .func (.func 12) #[] #[.pointer (some ⟨okb, 0, none⟩), .pointer (some ⟨ovb, 0, none⟩), .pointer (some ⟨kb, 0, none⟩), .pointer (some ⟨lb, 0, none⟩), .pointer (some ⟨db, 0, none⟩), .pointer (some ⟨sb, 0, none⟩)]
def SL (yb bk : Nat) (x : El) (yv : Value) : World → Prop := fun w' => w'.heap[yb]? = some (.cells #[yv] 34 (0, 0)) ∧ w'.heap[bk]? = some (.cells (encN x.nd x.v) 24 (0, 0))
theorem StA.to {FL : List (Nat × Nd)} {n0 okb ovb kb lb db sb : Nat} {stop : Int} {vl vd : Value} {k : Nat} {ovr : Bool} {W W' : World} (h : StA FL n0 okb ovb kb lb db sb stop vl vd k ovr W) (hk : Kc W W') (hb : Below n0 W W') : StA FL n0 okb ovb kb lb db sb stop vl vd k ovr W' := by
  refine ⟨hk.keep _ _ _ _ h.ok, hk.keep _ _ _ _ h.ov, hk.keep _ _ _ _ h.kc, hk.keep _ _ _ _ h.lc, hk.keep _ _ _ _ h.dc, hk.keep _ _ _ _ h.sc, h.rl.kcl hk hb, ?_, h.d1, h.d2, h.d3, h.d4, h.n1, h.n2, h.n3, h.n4⟩
  have hr := h.rd
  refine ⟨hr.1, ?_⟩
  rcases hr.2 with h0 | ⟨g, cap, cur, e, h1, h2, h3⟩
  · exact .inl h0
  · exact .inr ⟨g, cap, cur, e, h1, hk.keep _ _ _ _ h2, h3⟩
set_option maxRecDepth 100000 in
set_option maxHeartbeats 2000000 in
theorem all_r4 (Q : Exit → Act → World → Prop) (hpn : ∀ c (a : Act) (d : Option Tmp) (v : Value) w, Q (.panic c) (a.put d v) w → Q (.panic c) a w) (t0 t1 t5 t6 t7 t8 t9 t10 t11 t12 t13 t14 : Value) (FL : List (Nat × Nd)) (yb bk n0 okb ovb kb lb db sb : Nat) (stop : Int) (vl vd : Value) (k : Nat) (x : El) (B : BP) (W : World) (hkz : k + 1 ≤ 1000000) (hSt : StA FL n0 okb ovb kb lb db sb stop vl vd k false W) (hS0 : SL yb bk x (yvl okb ovb kb lb db sb) W) (hx : SlV B W x.v x.nd.kids) (hxz : x.nd.sz ≤ 1000000) (hk : k < FL.length) (he : FL[k] = x.key) (hn0 : n0 ≤ W.heap.size) (hyb : yb ≠ okb ∧ yb ≠ ovb ∧ yb ≠ kb) (hbk : bk ≠ okb ∧ bk ≠ ovb ∧ bk ≠ kb)
    (hQ : ∀ (t9 t10 t11 t12 t13 : Value) W' (q : Bool), (q = true ↔ (k : Int) + 1 = stop) → StA FL n0 okb ovb kb lb db sb stop vl vd (k + 1) q W' → Kx (fun b => b = okb ∨ b = ovb ∨ b = kb) W W' → Q .normal { tmps := #[t0, t1, .pointer (some ⟨yb, 0, none⟩), .int .i64 x.d, .pointer (some ⟨bk, 0, none⟩), t5, t6, t7, t8, t9, t10, t11, t12, t13, .bool q], defers := [] } W') :
    wpAnyH Try.prog .any opsL Q (SL yb bk x (yvl okb ovb kb lb db sb)) 6 #[false, false, false, false, false, false] { tmps := #[t0, t1, .pointer (some ⟨yb, 0, none⟩), .int .i64 x.d, .pointer (some ⟨bk, 0, none⟩), t5, t6, t7, t8, t9, t10, t11, t12, t13, t14], defers := [] } W.drew := by
  obtain ⟨w0, hw0⟩ : ∃ y, W.drew = y := ⟨_, rfl⟩
  have hB : Below W.heap.size W w0 := hw0 ▸ below_drew W
  rw [hw0]
  clear hw0
  have kS : ∀ w', Below W.heap.size W w' → SL yb bk x (yvl okb ovb kb lb db sb) w' := fun w' h => ⟨(h.block _ (Array.getElem?_eq_some_iff.1 hS0.1).1).trans hS0.1, (h.block _ (Array.getElem?_eq_some_iff.1 hS0.2).1).trans hS0.2⟩
  have hS : SL yb bk x (yvl okb ovb kb lb db sb) w0 := kS w0 hB
  refine wpAnyH_take (i := 0) (oi := { dst := some 9, op := Op.load 34 (Operand.tmp 2), type := 34, pos := "tree.go:16", after := #[], guard := none }) (v := ?_) rfl (by kernel_rfl) (by kernel_rfl) (by kernel_rfl) (fun _ _ _ h => hpn _ _ _ _ _ h) (Or.inl ⟨by rfl, ?_⟩) (hS) ?_
  rotate_left
  · intro w hSw; have q0 := cell_of hSw.1 0; simp only [yvl, List.getElem?_toArray, List.getElem?_cons_zero] at q0; clear hSw; (go_simp <;> with_reducible rfl)
  simp only [Act.put, List.setIfInBounds_toArray, List.set_cons_zero, List.set_cons_succ]
  refine wpAnyH_take (i := 1) (oi := { dst := some 10, op := Op.move (Operand.tmp 3), type := 3, pos := "tree.go:16", after := #[], guard := none }) (v := ?_) rfl (by kernel_rfl) (by kernel_rfl) (by kernel_rfl) (fun _ _ _ h => hpn _ _ _ _ _ h) (Or.inl ⟨by rfl, ?_⟩) (hS) ?_
  rotate_left
  · intro w hSw; (go_simp <;> with_reducible rfl)
  simp only [Act.put, List.setIfInBounds_toArray, List.set_cons_zero, List.set_cons_succ]
  refine wpAnyH_take (i := 2) (oi := { dst := some 11, op := Op.load 24 (Operand.tmp 4), type := 24, pos := "tree.go:16", after := #[], guard := none }) (v := ?_) rfl (by kernel_rfl) (by kernel_rfl) (by kernel_rfl) (fun _ _ _ h => hpn _ _ _ _ _ h) (Or.inl ⟨by rfl, ?_⟩) (hS) ?_
  rotate_left
  · intro w hSw; have q0 := cell_of hSw.2 0; have q1 := cell_of hSw.2 1; have q2 := cell_of hSw.2 2; have q3 := cell_of hSw.2 3; have q4 := cell_of hSw.2 4; simp only [encN, El.v, List.getElem?_toArray, List.getElem?_cons_zero, List.getElem?_cons_succ] at q0 q1 q2 q3 q4; clear hSw; (go_simp <;> with_reducible rfl)
  simp only [Act.put, List.setIfInBounds_toArray, List.set_cons_zero, List.set_cons_succ]
  refine wpAnyH_ready (rs := [3]) (by kernel_rfl) (by simp) ?_
  refine AllReadyH.cons (o := { dst := some 12, op := Op.call { callee := Callee.value (Operand.func 34), args := #[Operand.tmp 11], argTypes := #[24] }, type := 24, pos := "tree.go:16", after := #[{ on := 2, ground := Ground.data }], guard := none }) rfl (fun K hK => ?_) AllReadyH.nil
  have FC := fresh_any x.nd hxz w0 x.v B (hx.kept hB)
  simp only [aggN, encN, El.v] at FC
  go_simp
  refine FC.mono ?_
  clear FC
  rintro e w1 ⟨a3, c3, rfl, hF, hC⟩
  go_wp2_with fail
  have hB1 : Below W.heap.size W w1 := bthen hB hC
  have hS1 := kS w1 hB1
  refine hK.out _ _ hS1 (fun _ => ?_)
  clear hK K hC
  simp only [List.setIfInBounds_toArray, List.set_cons_zero, List.set_cons_succ]
  refine wpAnyH_ready (rs := [4]) (by kernel_rfl) (by simp) ?_
  refine AllReadyH.cons (o := { dst := some 13, op := Op.call { callee := Callee.value (Operand.tmp 9), args := #[Operand.tmp 10, Operand.tmp 12], argTypes := #[3, 24] }, type := 4, pos := "tree.go:16", after := #[{ on := 0, ground := Ground.data }, { on := 1, ground := Ground.data }, { on := 3, ground := Ground.data }, { on := 3, ground := Ground.chain }], guard := none }) rfl (fun K hK => ?_) AllReadyH.nil
  have YC := yield_any FL n0 okb ovb kb lb db sb stop vl vd k hkz w1 x.d x.nd _ _ (hSt.to (Kc.of_below hB1) (hB1.mono hn0)) hF hk he
  simp only [aggN, encN] at YC
  go_simp
  refine YC.mono ?_
  clear YC
  rintro e w2 ⟨q, rfl, hq, hst2, hk2⟩
  go_wp2_with fail
  have hS2 : SL yb bk x (yvl okb ovb kb lb db sb) w2 := ⟨hk2.keep _ _ hS1.1 (fun e => by rcases e with e | e | e; exact hyb.1 e; exact hyb.2.1 e; exact hyb.2.2 e), hk2.keep _ _ hS1.2 (fun e => by rcases e with e | e | e; exact hbk.1 e; exact hbk.2.1 e; exact hbk.2.2 e)⟩
  refine hK.out _ _ hS2 (fun _ => ?_)
  clear hK K
  simp only [List.setIfInBounds_toArray, List.set_cons_zero, List.set_cons_succ]
  refine wpAnyH_take (i := 5) (oi := { dst := some 14, op := Op.unOp UnOp.not 4 (Operand.tmp 13), type := 4, pos := "tree.go:16", after := #[{ on := 4, ground := Ground.data }], guard := none }) (v := ?_) rfl (by kernel_rfl) (by kernel_rfl) (by kernel_rfl) (fun _ _ _ h => hpn _ _ _ _ _ h) (Or.inl ⟨by rfl, ?_⟩) (hS2) ?_
  rotate_left
  · intro w hSw; (go_simp <;> with_reducible rfl)
  simp only [Act.put, List.setIfInBounds_toArray, List.set_cons_zero, List.set_cons_succ]
  refine wpAnyH_done (by kernel_rfl) ?_ _
  exact hQ _ _ _ _ _ w2 q hq hst2 ((Kx.of_whole hB1).trans hk2)
set_option maxRecDepth 100000 in
set_option maxHeartbeats 2000000 in
theorem allit_any (n : Nd) (hz : n.sz ≤ 1000) (n0 okb ovb kb lb db sb own m : Nat) (stop : Int) (vl vd va : Value) (w : World) (hSt : StA (n.flat 0) n0 okb ovb kb lb db sb stop vl vd 0 false w) (hown : w.heap[own]? = some (.cells (encN n va) 24)) (ha : SlV (Bl m) w va n.kids) (m1 : m ≤ okb) (m2 : m ≤ ovb) (m3 : m ≤ kb) (hn0 : n0 ≤ w.heap.size) :
    Calls Try.prog 35 #[yvl okb ovb kb lb db sb, .pointer (some ⟨own, 0, none⟩)] w fun e w' => (∃ u, e = .returned u) ∧ (∃ k q, StA (n.flat 0) n0 okb ovb kb lb db sb stop vl vd k q w' ∧ (q = false → k = n.sz) ∧ (q = true → (k : Int) = stop ∧ 1 ≤ k ∧ k ≤ n.sz)) ∧ Kx (fun b => b = okb ∨ b = ovb ∨ b = kb) w w' := by
  obtain ⟨a1, c1, rfl, -, -⟩ := ha.open
  have hn := nodes_in n a1 n.kids.length c1
  have ol := (Array.getElem?_eq_some_iff.1 hSt.ok).1
  have vl' := (Array.getElem?_eq_some_iff.1 hSt.ov).1
  have kl := (Array.getElem?_eq_some_iff.1 hSt.kc).1
  have wl := (Array.getElem?_eq_some_iff.1 hown).1
  have q0 := cell_of hown 0
  have q1 := cell_of hown 1
  have q2 := cell_of hown 2
  have q3 := cell_of hown 3
  have q4 := cell_of hown 4
  simp only [encN, List.getElem?_toArray, List.getElem?_cons_zero, List.getElem?_cons_succ] at q0 q1 q2 q3 q4
  have hfl : (n.flat 0).length = n.sz := flat_len n 0
  obtain ⟨W0, hW0⟩ : ∃ y, (w.alloc (.cells #[yvl okb ovb kb lb db sb] 34)).alloc (.cells #[.int .i64 n.kind, .int .i64 n.fr, .int .i64 n.to, .string n.text, .slice a1 n.kids.length c1] 24) = y := ⟨_, rfl⟩
  have hsz : W0.heap.size = w.heap.size + 2 := by rw [← hW0]; simp
  have hB0 : Below w.heap.size w W0 := hW0 ▸ below_alloc2 _ _ _
  have e1 : W0.heap[w.heap.size]? = some (.cells #[yvl okb ovb kb lb db sb] 34 (0, 0)) := by rw [← hW0]; exact heap_old (heap_alloc_new _ _)
  have e2 : W0.heap[w.heap.size + 1]? = some (.cells (encN n (.slice a1 n.kids.length c1)) 24) := by
    rw [← hW0]
    have := heap_alloc_new (w.alloc (.cells #[yvl okb ovb kb lb db sb] 34)) (.cells #[.int .i64 n.kind, .int .i64 n.fr, .int .i64 n.to, .string n.text, .slice a1 n.kids.length c1] 24)
    rwa [World.size_alloc] at this
  have hSt0 := hSt.to (Kc.of_below hB0) (hB0.mono hn0)
  have hS0 := ha.kept hB0
  simp only [aggN, encN, yvl] at hn hW0 ⊢
  refine (callsIn_wide (n := 3)).1 ?_
  refine callsIn_of_wp_marks Try.func35 rfl trivial ?_ rfl
  simp only [Try.ntmps35, List.size_toArray, List.length_cons, List.length_nil, Nat.reduceAdd, Nat.reduceSub, Array.replicate_succ, Array.replicate_zero, List.push_toArray, List.append_toArray, List.nil_append, List.cons_append]
  clear hSt ha hown
  gi_wp2_with (refine ⟨trivial, ?_⟩; (try refine ⟨hwd _, ?_⟩); gi_at_call 36; refine (callsIn_wide.2 (hn _)).mono ?_; rintro e w' ⟨rfl, rfl⟩)
  try rw [hW0]
  clear hW0 hn q0 q1 q2 q3 q4
  refine range_any n (.slice a1 n.kids.length c1) (Bl m) (fun b => b = okb ∨ b = ovb ∨ b = kb) (w.heap.size + 1) rfl rfl e2 hS0 (by have := dep_le_sz n; omega) (fun b o ob hb => ⟨by have : b < m := hb; omega, fun e => by have : b < m := hb; omega⟩)
    (fun pre X W => (∀ b, X b ↔ b = okb ∨ b = ovb ∨ b = kb) ∧ W.heap[w.heap.size]? = some (.cells #[yvl okb ovb kb lb db sb] 34 (0, 0)) ∧ StA (n.flat 0) n0 okb ovb kb lb db sb stop vl vd pre.length false W) (fun c pre W => c = .ret ∧ StA (n.flat 0) n0 okb ovb kb lb db sb stop vl vd pre.length true W ∧ (pre.length : Int) = stop ∧ 1 ≤ pre.length) (fun pre X A A' h hk hb => ⟨h.1, hk.keep _ _ _ _ h.2.1, h.2.2.to hk (hb.mono (by omega))⟩) (fun c pre A A' h hk hb => ⟨h.1, h.2.1.to hk (hb.mono (by omega)), h.2.2⟩) (fun pre X A h b hb => ?hIX) ⟨fun b => Iff.rfl, e1, hSt0⟩
    (fun x => some (.cells (encN x.nd x.v) 24)) (fun x bk => { tmps := #[.func (.func 12) #[] #[.pointer (some ⟨okb, 0, none⟩), .pointer (some ⟨ovb, 0, none⟩), .pointer (some ⟨kb, 0, none⟩), .pointer (some ⟨lb, 0, none⟩), .pointer (some ⟨db, 0, none⟩), .pointer (some ⟨sb, 0, none⟩)], .pointer (some ⟨own, 0, none⟩), .pointer (some ⟨w.heap.size, 0, none⟩), .int .i64 x.d, .pointer (some ⟨bk, 0, none⟩), .agg #[.int .i64 n.kind, .int .i64 n.fr, .int .i64 n.to, .string n.text, .slice a1 n.kids.length c1], .func (.func 41) #[] #[.pointer (some ⟨w.heap.size + 1, 0, none⟩)], .int .i64 x.d, .agg #[.int .i64 x.nd.kind, .int .i64 x.nd.fr, .int .i64 x.nd.to, .string x.nd.text, .slice x.a x.nd.kids.length x.c], undef, undef, undef, undef, undef, undef], defers := [] }) ?assign ?body ?done ?stop
  case hIX =>
    rcases (h.1 b).1 hb with rfl | rfl | rfl
    · exact ⟨_, _, _, h.2.2.ok⟩
    · exact ⟨_, _, _, h.2.2.ov⟩
    · exact ⟨_, _, _, h.2.2.kc⟩
  case assign =>
    intro m l x W K hK
    simp only [El.args, El.v, aggN, encN]
    gi_wp2
    exact hK
  case body =>
    rintro mm l pre x X bk W ⟨hX, hy, hst⟩ hp hs hbx hob
    obtain ⟨hbk, hnk⟩ := hob _ rfl
    have hl := key_len hp
    have hxz : x.nd.sz ≤ 1000000 := by have := key_sz hp; omega
    have hke : ∃ h : pre.length < (n.flat 0).length, (n.flat 0)[pre.length] = x.key := by
      obtain ⟨r, hr⟩ := hp
      refine ⟨by omega, ?_⟩
      simp only [← hr]
      simp
    obtain ⟨hk, he⟩ := hke
    have HX : Hid (∀ b, X b ↔ b = okb ∨ b = ovb ∨ b = kb) := ⟨hX⟩
    have hnb : bk ≠ okb ∧ bk ≠ ovb ∧ bk ≠ kb := ⟨fun e => hnk ((hX bk).2 (.inl e)), fun e => hnk ((hX bk).2 (.inr (.inl e))), fun e => hnk ((hX bk).2 (.inr (.inr e)))⟩
    have hyl := (Array.getElem?_eq_some_iff.1 hy).1
    have HH : Hid (W.heap[w.heap.size]? = some (.cells #[yvl okb ovb kb lb db sb] 34 (0, 0))) := ⟨hy⟩
    gi_wp2
    rename_i Kq hKq
    refine round_region (SL w.heap.size bk x (yvl okb ovb kb lb db sb)) (noDefer (by rfl)) (fun _ _ h => h) ?_
    refine all_r4 _ (fun _ _ _ _ _ h => h) _ _ _ _ _ _ _ _ _ _ _ _ (n.flat 0) w.heap.size bk n0 okb ovb kb lb db sb stop vl vd pre.length x (Bl m) W (by omega) hst ⟨hy, hbk⟩ hs hxz hk he (by omega) ⟨by omega, by omega, by omega⟩ hnb ?_
    intro t9 t10 t11 t12 t13 W' q hq hst' hkx
    refine hKq _ _ ?_
    have hkx' : Kx X W W' := hkx.mono (fun b _ e => (HX.out b).2 e)
    have hy' : W'.heap[w.heap.size]? = some (.cells #[yvl okb ovb kb lb db sb] 34 (0, 0)) := hkx.keep _ _ HH.out (fun e => by rcases e with e | e | e <;> omega)
    clear hKq hX hy hst hp hs hbx hob hbk hnk
    cases q
    · gi_wp2
      exact ⟨X, ⟨HX.out, hy', by simpa using hst'⟩, hkx', fun _ _ h => h⟩
    · have hqs := hq.1 rfl
      clear hq
      gi_wp2
      exact ⟨⟨rfl, by simpa using hst', by simp; omega, by simp⟩, hkx'⟩
  case done =>
    rintro D pre X W hp ⟨hX, hy, hst⟩ hK hD hDd
    have hlen : pre.length = n.sz := by
      have := congrArg List.length hp
      rw [flat_len] at this
      simpa using this
    rw [hlen] at hst
    have hkk : Kx (fun b => b = okb ∨ b = ovb ∨ b = kb) w (W.putObj D (.deferred none)) := ((Kx.of_whole hB0).trans hK).andThen (kx_put _ _ _) (fun _ _ h => h) (fun b hb e => by omega)
    have hst2 := hst.to (Kc.put (o' := .deferred none) hDd (by simp)) (below_putl _ _ (by omega))
    clear hX hy hst hK hp
    gi_wp2
    refine ⟨by simp, .inl ⟨_, _, rfl, run_takeDeferred hDd, ?_⟩⟩
    exact ⟨_, results_none rfl _ _ _, ⟨_, rfl⟩, ⟨n.sz, false, hst2, fun _ => rfl, fun h => (by cases h)⟩, hkk⟩
  case stop =>
    rintro D c pre W hp ⟨rfl, hst, hstop, h1⟩ hK hD hDd
    have hlen : pre.length ≤ n.sz := by
      have := hp.length_le
      rw [flat_len] at this
      simpa using this
    have hkk : Kx (fun b => b = okb ∨ b = ovb ∨ b = kb) w (W.putObj D (.deferred none)) := ((Kx.of_whole hB0).trans hK).andThen (kx_put _ _ _) (fun _ _ h => h) (fun b hb e => by omega)
    have hst2 := hst.to (Kc.put (o' := .deferred none) hDd (by simp)) (below_putl _ _ (by omega))
    clear hst hK hp
    gi_wp2
    refine ⟨by simp, .inl ⟨_, _, rfl, run_takeDeferred hDd, ?_⟩⟩
    exact ⟨_, results_none rfl _ _ _, ⟨_, rfl⟩, ⟨pre.length, true, hst2, fun h => (by cases h), fun _ => ⟨hstop, h1, hlen⟩⟩, hkk⟩
set_option maxRecDepth 100000 in
set_option maxHeartbeats 2000000 in
/-- All(n): a copy of the tree, in its box -/
theorem all_any (n : Nd) (hz : n.sz ≤ 1000) (w : World) (va : Value) (B : BP) (ha : SlV B w va n.kids) :
    Calls Try.prog 11 #[aggN n va] w fun e w' => ∃ (own : Nat) (a c : _), e = .returned (.func (.func 35) #[] #[.pointer (some ⟨own, 0, none⟩)]) ∧ w'.heap[own]? = some (.cells (encN n (.slice a n.kids.length c)) 24) ∧ SlV (fun _ _ _ => True) w' (.slice a n.kids.length c) n.kids ∧ Below w.heap.size w w' := by
  have FC := fresh_any n (by omega) (w.alloc (.cells (encN n va) 24)) va B (ha.kept (below_alloc _ _))
  obtain ⟨a1, c1, rfl, -, -⟩ := ha.open
  have hmf := hmf41
  clear ha
  simp only [aggN, encN] at FC ⊢
  go_enter Try.func11, Try.ntmps11
  go_wp2_with (go_at_call 34; refine FC.mono ?_; clear FC; rintro e w1 ⟨a3, c3, rfl, hF, hC⟩)
  go_ret
  exact ⟨_, a3, c3, rfl, heap_alloc_new _ _, (hF.kept (below_alloc _ _)).with (fun _ _ _ _ _ => trivial), bthen (below_alloc _ _) (bthen hC (below_alloc _ _))⟩
end Go.Proofs.Ytgknigjpdnfkdaa
