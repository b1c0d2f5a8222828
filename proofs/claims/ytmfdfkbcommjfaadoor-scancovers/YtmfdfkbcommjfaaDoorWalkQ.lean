/-
  spans.Valid and read of scan, walked.
-/
import Derived.Test.YtmfdfkbcommjfaaDoorWalkP
namespace Go.Proofs.YtmfdfkbcommjfaaDoor
open Go.RowKit
attribute [local go_sem ↓] Go.wp_at_zero Go.wp_at_succ
def Tabs (w : World) : Prop := Lib.Utf8Tabs (Tryd.laysValid_ren.g 3) (Tryd.laysValid_ren.g 4) w
/-- valid UTF-8 without a byte 0 -/
def okT (S : ByteArray) : Bool := Lib.validD S.data.toList && decide (Lib.indexByte S.data.toList 0 < 0)
set_option maxRecDepth 100000 in
set_option maxHeartbeats 1000000 in
theorem valid_any (s : ByteArray) (w : World) (hs : s.size ≤ 65536) (hT : Tabs w) :
    Calls Tryd.prog 33 #[.string s] w fun e w' => e = .returned (.bool (okT s)) ∧ Below w.heap.size w w' := by
  have h14 : Calls Tryd.prog 47 #[.string s] w _ := Any.utf8_ValidString Tryd.laysValid s w (by omega) hT
  have h15 := fun w => Tryd.strings_IndexByte s 0 w
  have e0 : ((0 : Int).toNat.toUInt8) = 0 := rfl
  rw [e0] at h15
  unfold okT
  clear hT e0
  generalize Lib.validD s.data.toList = A at *
  generalize Lib.indexByte s.data.toList 0 = I at *
  cases A
  · go_enter Tryd.func33, Tryd.ntmps33
    go_wp2_with (first | (go_at_call 47; refine h14.mono ?_; rintro e w1 ⟨rfl, hb⟩) | (go_at_call 31; refine (h15 _).mono ?_; rintro e w2 ⟨rfl, rfl⟩))
    go_ret
    exact ⟨rfl, hb⟩
  · by_cases hI : I < 0
    · rw [decide_eq_true hI]
      go_enter Tryd.func33, Tryd.ntmps33
      go_wp2_with (first | (go_at_call 47; refine h14.mono ?_; rintro e w1 ⟨rfl, hb⟩) | (go_at_call 31; refine (h15 _).mono ?_; rintro e w2 ⟨rfl, rfl⟩))
      go_ret
      exact ⟨rfl, hb⟩
    · rw [decide_eq_false hI]
      go_enter Tryd.func33, Tryd.ntmps33
      go_wp2_with (first | (go_at_call 47; refine h14.mono ?_; rintro e w1 ⟨rfl, hb⟩) | (go_at_call 31; refine (h15 _).mono ?_; rintro e w2 ⟨rfl, rfl⟩))
      go_ret
      exact ⟨ret_bool (decide_eq_false (by omega)), hb⟩
/-- what read answers: tokens and remarks, or a fault -/
inductive RO where
  | ok (s : St)
  | bad (code at_ : Nat)
def readOf (S : ByteArray) : RO :=
  if 65536 < S.size then .bad 2 0 else if okT S = false then .bad 2 0 else match scn S.data.toList 0 0 ⟨[], []⟩ with | .ok s => .ok s | .error o => .bad 3 o
def ReadP (w : World) (r : RO) (e : Ending) (w' : World) : Prop :=
  Below w.heap.size w w' ∧ match r with
    | .ok s => ∃ tv rv, e = .returned (.tuple #[tv, rv, fltV 0 0]) ∧ w'.ownsRow w.heap.size 38 4 tv s.toks.length (flT s.toks) ∧ w'.ownsRow w.heap.size 33 2 rv s.rems.length (flS s.rems)
    | .bad c o => e = .returned (.tuple #[.slice none 0 0, .slice none 0 0, fltV c o])
set_option maxRecDepth 100000 in
set_option maxHeartbeats 1000000 in
theorem read_great (S : ByteArray) (w : World) (hS : 65536 < S.size) : Calls Tryd.prog 22 #[.string S] w (ReadP w (.bad 2 0)) := by
  have k1 : (65536 : Int) < (S.size : Int) := by omega
  go_enter_defers Tryd.func22, Tryd.ntmps22
  go_wp2_with fail
  have hb := (((Below.refl w.heap.size w).alloc (Nat.le_refl _) (.cells #[.slice none 0 0] 23)).alloc (by simp) (.cells #[.slice none 0 0] 30)).alloc (by simp; omega) (.cells #[.int .i64 2, .string ⟨#[]⟩, .int .i64 0] 25)
  have q : ReadP w (.bad 2 0) (.returned (.tuple #[.slice none 0 0, .slice none 0 0, fltV 2 0])) _ := ⟨hb, rfl⟩
  simp [bodyPostD, Leaves, results, Tryd.results22, go_sem]
  exact q
theorem three {w : World} {W : World} (hb : Below (w.heap.size + 3) (((w.alloc (.cells #[.slice none 0 0] 23)).alloc (.cells #[.slice none 0 0] 30)).alloc (.cells #[.int .i64 0, .string ⟨#[]⟩, .int .i64 0] 25)) W) :
    W.heap[w.heap.size]? = some (.cells #[.slice none 0 0] 23 (0, 0)) ∧ W.heap[w.heap.size + 1]? = some (.cells #[.slice none 0 0] 30 (0, 0)) ∧ W.heap[w.heap.size + 2]? = some (.cells #[.int .i64 0, .string ⟨#[]⟩, .int .i64 0] 25 (0, 0)) ∧ Below w.heap.size w W ∧ w.heap.size + 3 ≤ W.heap.size := by
  have b0 := (((Below.refl w.heap.size w).alloc (Nat.le_refl _) (.cells #[.slice none 0 0] 23)).alloc (by simp) (.cells #[.slice none 0 0] 30)).alloc (by simp; omega) (.cells #[.int .i64 0, .string ⟨#[]⟩, .int .i64 0] 25)
  refine ⟨?_, ?_, ?_, b0.trans (hb.mono (by omega)), by have := hb.size; simpa using this⟩
  · rw [hb.block _ (by omega), Below.heap_alloc _ _ _ (by simp; omega), Below.heap_alloc _ _ _ (by simp)]
    exact heap_alloc_new w _
  · rw [hb.block _ (by omega), Below.heap_alloc _ _ _ (by simp)]
    have := heap_alloc_new (w.alloc (.cells #[.slice none 0 0] 23)) (.cells #[.slice none 0 0] 30)
    simpa using this
  · rw [hb.block _ (by omega)]
    have := heap_alloc_new ((w.alloc (.cells #[.slice none 0 0] 23)).alloc (.cells #[.slice none 0 0] 30)) (.cells #[.int .i64 0, .string ⟨#[]⟩, .int .i64 0] 25)
    simpa using this
set_option maxRecDepth 100000 in
set_option maxHeartbeats 1000000 in
theorem read_wrong (S : ByteArray) (w : World) (hS : ¬ 65536 < S.size) (hT : ∀ W, Below w.heap.size w W → Tabs W) (hv : okT S = false) : Calls Tryd.prog 22 #[.string S] w (ReadP w (.bad 2 0)) := by
  have k1 : ¬ (65536 : Int) < (S.size : Int) := by omega
  have h33 := fun W (h : Below w.heap.size w W) => valid_any S W (by omega) (hT W h)
  rw [hv] at h33
  have hb := (((Below.refl w.heap.size w).alloc (Nat.le_refl _) (.cells #[.slice none 0 0] 23)).alloc (by simp) (.cells #[.slice none 0 0] 30)).alloc (by simp; omega) (.cells #[.int .i64 0, .string ⟨#[]⟩, .int .i64 0] 25)
  have HB : Hid (Below w.heap.size w (((w.alloc (.cells #[.slice none 0 0] 23)).alloc (.cells #[.slice none 0 0] 30)).alloc (.cells #[.int .i64 0, .string ⟨#[]⟩, .int .i64 0] 25))) := hb
  clear hb hv hT
  go_enter_defers Tryd.func22, Tryd.ntmps22
  go_wp2_with (go_at_call 33; refine (h33 _ HB.out).mono ?_; rintro e W1 ⟨rfl, hb1⟩; obtain ⟨t1, t2, t3, t4, t5⟩ := three (hb1.mono (by simp)); have c1 : W1.cell? ⟨w.heap.size, 0, none⟩ = some (.slice none 0 0) := (by simp [World.cell?, t1]); have c2 : W1.cell? ⟨w.heap.size + 1, 0, none⟩ = some (.slice none 0 0) := (by simp [World.cell?, t2]); have c3 : W1.cell? ⟨w.heap.size + 1 + 1, 0, none⟩ = some (.int .i64 0) := (by simp [World.cell?, t3]); have c4 : W1.cell? ⟨w.heap.size + 1 + 1, 1, none⟩ = some (.string ⟨#[]⟩) := (by simp [World.cell?, t3]); have c5 : W1.cell? ⟨w.heap.size + 1 + 1, 2, none⟩ = some (.int .i64 0) := (by simp [World.cell?, t3]); have f1 : W1.frozen? ⟨w.heap.size, 0, none⟩ = false := (by simp [World.frozen?, t1]); have f2 : W1.frozen? ⟨w.heap.size + 1, 0, none⟩ = false := (by simp [World.frozen?, t2]); have f3 : W1.frozen? ⟨w.heap.size + 1 + 1, 0, none⟩ = false := (by simp [World.frozen?, t3]); have f4 : W1.frozen? ⟨w.heap.size + 1 + 1, 1, none⟩ = false := (by simp [World.frozen?, t3]); have f5 : W1.frozen? ⟨w.heap.size + 1 + 1, 2, none⟩ = false := (by simp [World.frozen?, t3]); have HT : Hid _ := t1; have HT4 : Hid (Below w.heap.size w W1) := t4; clear t1 t2 t3 t4 hb1)
  have q : ReadP w (.bad 2 0) (.returned (.tuple #[.slice none 0 0, .slice none 0 0, fltV 2 0])) (((((W1.setCell ⟨w.heap.size, 0, none⟩ (.slice none 0 0)).setCell ⟨w.heap.size + 1, 0, none⟩ (.slice none 0 0)).setCell ⟨w.heap.size + 1 + 1, 0, none⟩ (.int .i64 2)).setCell ⟨w.heap.size + 1 + 1, 1, none⟩ (.string ⟨#[]⟩)).setCell ⟨w.heap.size + 1 + 1, 2, none⟩ (.int .i64 0)) :=
    ⟨((((HT4.out.setCell (p := ⟨w.heap.size, 0, none⟩) (Nat.le_refl _) _).setCell (p := ⟨w.heap.size + 1, 0, none⟩) (Nat.le_succ _) _).setCell (p := ⟨w.heap.size + 1 + 1, 0, none⟩) (by show w.heap.size ≤ w.heap.size + 1 + 1; omega) _).setCell (p := ⟨w.heap.size + 1 + 1, 1, none⟩) (by show w.heap.size ≤ w.heap.size + 1 + 1; omega) _).setCell (p := ⟨w.heap.size + 1 + 1, 2, none⟩) (by show w.heap.size ≤ w.heap.size + 1 + 1; omega) _, rfl⟩
  simp [bodyPostD, Leaves, results, Tryd.results22, go_sem, c1, c2, c3, c4, c5]
  exact q
theorem own_base {w : World} {base base' n size : Nat} {e : TypeId} {v : Value} {xs : List Value} (h : w.ownsRow base e size v n xs) (hb : base' ≤ base) : w.ownsRow base' e size v n xs := by
  refine ⟨h.1, ?_⟩
  rcases h.2 with h' | ⟨g, cap, cur, hv, h1, h2⟩
  · exact .inl h'
  · exact .inr ⟨g, cap, cur, hv, by omega, h2⟩
theorem own_slice {w : World} {base n size : Nat} {e : TypeId} {v : Value} {xs : List Value} (h : w.ownsRow base e size v n xs) : ∃ a c, v = .slice a n c := by
  rcases h.2 with ⟨h', rfl⟩ | ⟨g, cap, cur, hv, _⟩
  · exact ⟨none, 0, h'⟩
  · exact ⟨_, cap, hv⟩
/-- the world with the results laid -/
def put3 (W : World) (A : Nat) (a b c d e : Value) : World := ((((W.setCell ⟨A, 0, none⟩ a).setCell ⟨A + 1, 0, none⟩ b).setCell ⟨A + 1 + 1, 0, none⟩ c).setCell ⟨A + 1 + 1, 1, none⟩ d).setCell ⟨A + 1 + 1, 2, none⟩ e
theorem put3_far {W : World} {A k : Nat} {a b c d e : Value} (h : k < A ∨ A + 2 < k) : (put3 W A a b c d e).heap[k]? = W.heap[k]? := by
  unfold put3
  rw [Below.heap_setCell _ _ _ _ (by show k ≠ A + 1 + 1; omega), Below.heap_setCell _ _ _ _ (by show k ≠ A + 1 + 1; omega), Below.heap_setCell _ _ _ _ (by show k ≠ A + 1 + 1; omega), Below.heap_setCell _ _ _ _ (by show k ≠ A + 1; omega), Below.heap_setCell _ _ _ _ (by show k ≠ A; omega)]
theorem put3_below {w W : World} {A : Nat} {a b c d e : Value} (h : Below A w W) : Below A w (put3 W A a b c d e) :=
  ((((h.setCell (p := ⟨A, 0, none⟩) (Nat.le_refl _) _).setCell (p := ⟨A + 1, 0, none⟩) (Nat.le_succ _) _).setCell (p := ⟨A + 1 + 1, 0, none⟩) (by show A ≤ A + 1 + 1; omega) _).setCell (p := ⟨A + 1 + 1, 1, none⟩) (by show A ≤ A + 1 + 1; omega) _).setCell (p := ⟨A + 1 + 1, 2, none⟩) (by show A ≤ A + 1 + 1; omega) _
theorem put3_cells {W : World} {A : Nat} {a b c d e t0 r0 x0 x1 x2 : Value} (h1 : W.heap[A]? = some (.cells #[t0] 23 (0, 0))) (h2 : W.heap[A + 1]? = some (.cells #[r0] 30 (0, 0))) (h3 : W.heap[A + 2]? = some (.cells #[x0, x1, x2] 25 (0, 0))) :
    (put3 W A a b c d e).heap[A]? = some (.cells #[a] 23 (0, 0)) ∧ (put3 W A a b c d e).heap[A + 1]? = some (.cells #[b] 30 (0, 0)) ∧ (put3 W A a b c d e).heap[A + 1 + 1]? = some (.cells #[c, d, e] 25 (0, 0)) := by
  have far := fun (V : World) (a : Addr) (u : Value) (k : Nat) (h : k ≠ a.block) => Below.heap_setCell V a u k h
  unfold put3
  refine ⟨?_, ?_, ?_⟩
  · rw [far _ _ _ A (by show A ≠ A + 1 + 1; omega), far _ _ _ A (by show A ≠ A + 1 + 1; omega), far _ _ _ A (by show A ≠ A + 1 + 1; omega), far _ _ _ A (by show A ≠ A + 1; omega), heap_set h1]
    rfl
  · rw [far _ _ _ (A + 1) (by show A + 1 ≠ A + 1 + 1; omega), far _ _ _ (A + 1) (by show A + 1 ≠ A + 1 + 1; omega), far _ _ _ (A + 1) (by show A + 1 ≠ A + 1 + 1; omega), heap_set (cs := #[r0]) (T := 30) ((far _ _ _ (A + 1) (by show A + 1 ≠ A; omega)).trans h2)]
    rfl
  · rw [heap_set (heap_set (heap_set (((far _ _ _ (A + 1 + 1) (by show A + 1 + 1 ≠ A + 1; omega)).trans (far _ _ _ (A + 1 + 1) (by show A + 1 + 1 ≠ A; omega))).trans h3) _) _)]
    rfl
theorem mx_size {w : World} (h : Mx w) : 3 ≤ w.heap.size := by
  obtain ⟨m, h⟩ := h
  exact World.block_lt_of_cell? w ⟨2, 0, none⟩ h
set_option maxRecDepth 100000 in
set_option maxHeartbeats 2000000 in
theorem read_valid (S : ByteArray) (w : World) (hS : ¬ 65536 < S.size) (hT : ∀ W, Below w.heap.size w W → Tabs W) (hM : Mx w) (hv : okT S = true) : Calls Tryd.prog 22 #[.string S] w (ReadP w (match scn S.data.toList 0 0 ⟨[], []⟩ with | .ok s => .ok s | .error o => .bad 3 o)) := by
  have k1 : ¬ (65536 : Int) < (S.size : Int) := by omega
  have h33 := fun W (h : Below w.heap.size w W) => valid_any S W (by omega) (hT W h)
  rw [hv] at h33
  have hvs : Vs S 0 := by
    unfold okT at hv
    rw [Bool.and_eq_true] at hv
    exact hv.1
  have h3 := mx_size hM
  have h35 := fun (W : World) (R : Nat) (h : Rd W R R S ⟨[], []⟩) (hb : Below w.heap.size w W) (hR : 3 ≤ R) => all_any W R R S h (by omega) hvs (hM.below hb h3) hR
  have hb := (((Below.refl w.heap.size w).alloc (Nat.le_refl _) (.cells #[.slice none 0 0] 23)).alloc (by simp) (.cells #[.slice none 0 0] 30)).alloc (by simp; omega) (.cells #[.int .i64 0, .string ⟨#[]⟩, .int .i64 0] 25)
  have HB : Hid (Below w.heap.size w (((w.alloc (.cells #[.slice none 0 0] 23)).alloc (.cells #[.slice none 0 0] 30)).alloc (.cells #[.int .i64 0, .string ⟨#[]⟩, .int .i64 0] 25))) := hb
  have hmf : ∀ (fn : Fn) (first cap : Array Value) (w : World), (Instr.makeFunc fn first cap).run Tryd.prog w = .ok (.func fn first cap) w := fun _ _ _ _ => rfl
  have H35 : Hid (∀ (W : World) (R : Nat) (h : Rd W R R S ⟨[], []⟩) (hb : Below w.heap.size w W) (hR : 3 ≤ R), Calls Tryd.prog 35 #[.pointer (some ⟨R, 0, none⟩)] W (LP W R R S (scn S.data.toList 0 0 ⟨[], []⟩))) := h35
  clear hb hv hT hvs hM h35
  generalize scn S.data.toList 0 0 ⟨[], []⟩ = V at *
  cases V with
  | error o =>
    go_enter_defers Tryd.func22, Tryd.ntmps22
    go_wp2_with (first
      | (go_at_call 33; refine (h33 _ HB.out).mono ?_; rintro e W1 ⟨rfl, hb1⟩; have HB1 : Hid (Below (w.heap.size + 3) (((w.alloc (.cells #[.slice none 0 0] 23)).alloc (.cells #[.slice none 0 0] 30)).alloc (.cells #[.int .i64 0, .string ⟨#[]⟩, .int .i64 0] 25)) W1) := hb1.mono (by simp); clear hb1)
      | (go_at_call 35; refine (H35.out _ W1.heap.size ⟨Nat.le_refl _, _, _, heap_alloc_new W1 _, World.ownsRow_nil _ _ _ _, World.ownsRow_nil _ _ _ _⟩ ((three HB1.out).2.2.2.1.alloc (by have := (three HB1.out).2.2.2.2; omega) _) (by have := (three HB1.out).2.2.2.2; omega)).mono ?_; intro e W3 h5; obtain rfl := PanP.pan h5; have H5 : Hid (Below W1.heap.size (W1.alloc (.cells #[.string S, .slice none 0 0, .slice none 0 0] 60)) W3) := PanP.bl h5; clear h5))
    have hb3 : Below (w.heap.size + 3) (((w.alloc (.cells #[.slice none 0 0] 23)).alloc (.cells #[.slice none 0 0] 30)).alloc (.cells #[.int .i64 0, .string ⟨#[]⟩, .int .i64 0] 25)) W3 := HB1.out.trans ((((Below.refl W1.heap.size W1).alloc (Nat.le_refl _) _).trans H5.out).mono (three HB1.out).2.2.2.2)
    obtain ⟨t1, t2, t3, t4, t5⟩ := three hb3
    refine leaves_cons (f := 34) (args := #[.pointer (some ⟨w.heap.size, 0, none⟩), .pointer (some ⟨w.heap.size + 1, 0, none⟩), .pointer (some ⟨w.heap.size + 1 + 1, 0, none⟩)]) (by simp) (by simp [go_sem]) ?_
    refine (catch_some w.heap.size (.slice none 0 0) (.slice none 0 0) #[.int .i64 0, .string ⟨#[]⟩, .int .i64 0] rfl (o : Int) W3 t1 t2 t3).mono ?_
    rintro e u' w'' ⟨rfl, rfl, hcw⟩
    have q : ReadP w (.bad 3 o) (.returned (.tuple #[.slice none 0 0, .slice none 0 0, fltV 3 o])) w'' := ⟨t4.trans hcw.bl, rfl⟩
    have d1 : w''.cell? ⟨w.heap.size, 0, none⟩ = some (.slice none 0 0) := by simp [World.cell?, hcw.tk]
    have d2 : w''.cell? ⟨w.heap.size + 1, 0, none⟩ = some (.slice none 0 0) := by simp [World.cell?, hcw.rk]
    have d3 : w''.cell? ⟨w.heap.size + 1 + 1, 0, none⟩ = some (.int .i64 3) := by simp [World.cell?, hcw.fk]
    have d4 : w''.cell? ⟨w.heap.size + 1 + 1, 1, none⟩ = some (.string ⟨#[]⟩) := by simp [World.cell?, hcw.fk]
    have d5 : w''.cell? ⟨w.heap.size + 1 + 1, 2, none⟩ = some (.int .i64 o) := by simp [World.cell?, hcw.fk]
    simp [Leaves, settle, results, Tryd.results22, go_sem, d1, d2, d3, d4, d5]
    exact q
  | ok s =>
    go_enter_defers Tryd.func22, Tryd.ntmps22
    go_wp2_with (first
      | (go_at_call 33; refine (h33 _ HB.out).mono ?_; rintro e W1 ⟨rfl, hb1⟩; have HB1 : Hid (Below (w.heap.size + 3) (((w.alloc (.cells #[.slice none 0 0] 23)).alloc (.cells #[.slice none 0 0] 30)).alloc (.cells #[.int .i64 0, .string ⟨#[]⟩, .int .i64 0] 25)) W1) := hb1.mono (by simp); clear hb1)
      | (go_at_call 35; refine (H35.out _ W1.heap.size ⟨Nat.le_refl _, _, _, heap_alloc_new W1 _, World.ownsRow_nil _ _ _ _, World.ownsRow_nil _ _ _ _⟩ ((three HB1.out).2.2.2.1.alloc (by have := (three HB1.out).2.2.2.2; omega) _) (by have := (three HB1.out).2.2.2.2; omega)).mono ?_; intro e W3 h5; obtain rfl := AddP.ret h5; have H5 : Hid (AddP (W1.alloc (.cells #[.string S, .slice none 0 0, .slice none 0 0] 60)) W1.heap.size W1.heap.size S s (.tuple #[]) (.returned (.tuple #[])) W3) := h5; clear h5))
    have hb3 : Below (w.heap.size + 3) (((w.alloc (.cells #[.slice none 0 0] 23)).alloc (.cells #[.slice none 0 0] 30)).alloc (.cells #[.int .i64 0, .string ⟨#[]⟩, .int .i64 0] 25)) W3 := HB1.out.trans ((((Below.refl W1.heap.size W1).alloc (Nat.le_refl _) _).trans H5.out.bl).mono (three HB1.out).2.2.2.2)
    obtain ⟨t1, t2, t3, t4, t5⟩ := three hb3
    have hA3 := (three HB1.out).2.2.2.2
    obtain ⟨_, tv, rv, hR, ht, hr⟩ := H5.out.rd
    obtain ⟨ta, tc, htv⟩ := own_slice ht
    obtain ⟨ra, rc, hrv⟩ := own_slice hr
    subst htv
    subst hrv
    have c1 : W3.cell? ⟨w.heap.size, 0, none⟩ = some (.slice none 0 0) := by simp [World.cell?, t1]
    have c2 : W3.cell? ⟨w.heap.size + 1, 0, none⟩ = some (.slice none 0 0) := by simp [World.cell?, t2]
    have c3 : W3.cell? ⟨w.heap.size + 1 + 1, 0, none⟩ = some (.int .i64 0) := by simp [World.cell?, t3]
    have c4 : W3.cell? ⟨w.heap.size + 1 + 1, 1, none⟩ = some (.string ⟨#[]⟩) := by simp [World.cell?, t3]
    have c5 : W3.cell? ⟨w.heap.size + 1 + 1, 2, none⟩ = some (.int .i64 0) := by simp [World.cell?, t3]
    have f1 : W3.frozen? ⟨w.heap.size, 0, none⟩ = false := by simp [World.frozen?, t1]
    have f2 : W3.frozen? ⟨w.heap.size + 1, 0, none⟩ = false := by simp [World.frozen?, t2]
    have f3 : W3.frozen? ⟨w.heap.size + 1 + 1, 0, none⟩ = false := by simp [World.frozen?, t3]
    have f4 : W3.frozen? ⟨w.heap.size + 1 + 1, 1, none⟩ = false := by simp [World.frozen?, t3]
    have f5 : W3.frozen? ⟨w.heap.size + 1 + 1, 2, none⟩ = false := by simp [World.frozen?, t3]
    have g1 : W3.cell? ⟨W1.heap.size, 1, none⟩ = some (.slice ta s.toks.length tc) := by simp [World.cell?, hR]
    have g2 : W3.cell? ⟨W1.heap.size, 2, none⟩ = some (.slice ra s.rems.length rc) := by simp [World.cell?, hR]
    have HQ : Hid (Below w.heap.size w (put3 W3 w.heap.size (.slice ta s.toks.length tc) (.slice ra s.rems.length rc) (.int .i64 0) (.string ⟨#[]⟩) (.int .i64 0)) ∧ (put3 W3 w.heap.size (.slice ta s.toks.length tc) (.slice ra s.rems.length rc) (.int .i64 0) (.string ⟨#[]⟩) (.int .i64 0)).ownsRow w.heap.size 38 4 (.slice ta s.toks.length tc) s.toks.length (flT s.toks) ∧ (put3 W3 w.heap.size (.slice ta s.toks.length tc) (.slice ra s.rems.length rc) (.int .i64 0) (.string ⟨#[]⟩) (.int .i64 0)).ownsRow w.heap.size 33 2 (.slice ra s.rems.length rc) s.rems.length (flS s.rems)) :=
      ⟨put3_below t4, own_base (own_far ht (fun k hk => put3_far (.inr (by have := (own_blk ht hk).1; omega)))) (by omega), own_base (own_far hr (fun k hk => put3_far (.inr (by have := (own_blk hr hk).1; omega)))) (by omega)⟩
    have HC : Hid _ := put3_cells (a := .slice ta s.toks.length tc) (b := .slice ra s.rems.length rc) (c := .int .i64 0) (d := .string ⟨#[]⟩) (e := .int .i64 0) t1 t2 t3
    generalize hF : W1.heap.size = F at *
    have n1 : F ≠ w.heap.size := by omega
    have n2 : F ≠ w.heap.size + 1 := by omega
    have n3 : F ≠ w.heap.size + 1 + 1 := by omega
    have n4 : w.heap.size ≠ F := by omega
    have n5 : w.heap.size + 1 ≠ F := by omega
    have n6 : w.heap.size + 1 + 1 ≠ F := by omega
    clear t1 t2 t3 t4 hR ht hr hb3
    go_region
    all_goals
      go_wp2_with fail
      refine leaves_cons (f := 34) (args := #[.pointer (some ⟨w.heap.size, 0, none⟩), .pointer (some ⟨w.heap.size + 1, 0, none⟩), .pointer (some ⟨w.heap.size + 1 + 1, 0, none⟩)]) (by simp) (by simp [go_sem]) ?_
      refine (catch_idle ⟨w.heap.size, 0, none⟩ ⟨w.heap.size + 1, 0, none⟩ ⟨w.heap.size + 1 + 1, 0, none⟩ (put3 W3 w.heap.size (.slice ta s.toks.length tc) (.slice ra s.rems.length rc) (.int .i64 0) (.string ⟨#[]⟩) (.int .i64 0)).drew).mono ?_
      rintro e u' w'' ⟨rfl, rfl, hcb⟩
      have hcb' : Below (put3 W3 w.heap.size (.slice ta s.toks.length tc) (.slice ra s.rems.length rc) (.int .i64 0) (.string ⟨#[]⟩) (.int .i64 0)).heap.size (put3 W3 w.heap.size (.slice ta s.toks.length tc) (.slice ra s.rems.length rc) (.int .i64 0) (.string ⟨#[]⟩) (.int .i64 0)) w'' := ((Below.refl _ _).drew).trans hcb
      have y : ∀ k o, (put3 W3 w.heap.size (.slice ta s.toks.length tc) (.slice ra s.rems.length rc) (.int .i64 0) (.string ⟨#[]⟩) (.int .i64 0)).heap[k]? = some o → w''.heap[k]? = some o := fun k o hk => (hcb'.block k (Array.getElem?_eq_some_iff.1 hk).1).trans hk
      have d1 : w''.cell? ⟨w.heap.size, 0, none⟩ = some (.slice ta s.toks.length tc) := by simp [World.cell?, y _ _ HC.out.1]
      have d2 : w''.cell? ⟨w.heap.size + 1, 0, none⟩ = some (.slice ra s.rems.length rc) := by simp [World.cell?, y _ _ HC.out.2.1]
      have d3 : w''.cell? ⟨w.heap.size + 1 + 1, 0, none⟩ = some (.int .i64 0) := by simp [World.cell?, y _ _ HC.out.2.2]
      have d4 : w''.cell? ⟨w.heap.size + 1 + 1, 1, none⟩ = some (.string ⟨#[]⟩) := by simp [World.cell?, y _ _ HC.out.2.2]
      have d5 : w''.cell? ⟨w.heap.size + 1 + 1, 2, none⟩ = some (.int .i64 0) := by simp [World.cell?, y _ _ HC.out.2.2]
      have q : ReadP w (.ok s) (.returned (.tuple #[.slice ta s.toks.length tc, .slice ra s.rems.length rc, fltV 0 0])) w'' := ⟨HQ.out.1.trans (hcb'.mono HQ.out.1.size), _, _, rfl, HQ.out.2.1.below hcb', HQ.out.2.2.below hcb'⟩
      simp [Leaves, settle, results, Tryd.results22, go_sem, d1, d2, d3, d4, d5]
      exact q
theorem read_any (S : ByteArray) (w : World) (hT : ∀ W, Below w.heap.size w W → Tabs W) (hM : Mx w) : Calls Tryd.prog 22 #[.string S] w (ReadP w (readOf S)) := by
  unfold readOf
  by_cases hS : 65536 < S.size
  · rw [if_pos hS]; exact read_great S w hS
  · rw [if_neg hS]
    cases hv : okT S with
    | false => rw [if_pos rfl]; exact read_wrong S w hS hT hv
    | true => rw [if_neg (by decide)]; exact read_valid S w hS hT hM hv
end Go.Proofs.YtmfdfkbcommjfaaDoor
