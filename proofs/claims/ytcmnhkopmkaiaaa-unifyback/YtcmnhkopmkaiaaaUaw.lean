/-
  recastlaw11.awake, walked.
-/
import Derived.Test.YtcmnhkopmkaiaaaUmm
import Derived.Test.YtcmnhkopmkaiaaaPmx
import Derived.Deep.RegionHeld3
namespace Go.Proofs.Ytcmnhkopmkaiaaa
open Go.RowKit
attribute [local go_sem ↓] Go.wp_at_zero Go.wp_at_succ
/-- a type that is not known -/
def zT : Ty := .mk 0 ⟨#[]⟩ 0 false [] [] []
theorem row_zero {base n : Nat} {W : World} {v : Value} (hn : n ≤ 6) (h : W.ownsRow base 26 7 v n (madeCells (Value.agg #[.int .i64 0, .string ⟨#[]⟩, .int .i64 0, .bool false, .slice none 0 0, .slice none 0 0, .slice none 0 0]).cells (n * 7)).toList) : RowT base (fun _ => False) W v (List.replicate n zT) := by
  refine ⟨List.replicate n ⟨.slice none 0 0, .slice none 0 0, .slice none 0 0⟩, by simp, ?_, fun i hi => ?_⟩
  · have e : flatT (List.replicate n zT) (List.replicate n ⟨.slice none 0 0, .slice none 0 0, .slice none 0 0⟩) = (madeCells (Value.agg #[.int .i64 0, .string ⟨#[]⟩, .int .i64 0, .bool false, .slice none 0 0, .slice none 0 0, .slice none 0 0]).cells (n * 7)).toList := by
      match n, hn with
      | 0, _ => show _ = _; kernel_rfl
      | 1, _ => show _ = _; kernel_rfl
      | 2, _ => show _ = _; kernel_rfl
      | 3, _ => show _ = _; kernel_rfl
      | 4, _ => show _ = _; kernel_rfl
      | 5, _ => show _ = _; kernel_rfl
      | 6, _ => show _ = _; kernel_rfl
    rw [e, List.length_replicate]
    exact h
  · simp only [List.getElem_replicate]
    exact ⟨.inl ⟨none, 0, rfl, rfl⟩, .inl ⟨none, 0, rfl, rfl⟩, .inl ⟨none, 0, rfl, rfl⟩⟩
/-- what is answered, as a type that is named -/
structure TyV (w : World) (K : BQ) (R : Ty → Prop) (e : Ending) (w' : World) : Prop where
  bl : Below w.heap.size w w'
  ex : ∃ (T : Ty) (an : Option Addr) (cn : Nat) (am : Option Addr) (cm : Nat) (ak : Option Addr) (ck : Nat), e = .returned (.agg #[.int .i64 T.kind, .string T.name, .int .i64 T.n, .bool T.flag, .slice an T.names.length cn, .slice am T.marks.length cm, .slice ak T.kids.length ck]) ∧ R T ∧ Prt K w' T (.slice an T.names.length cn) (.slice am T.marks.length cm) (.slice ak T.kids.length ck)
theorem TyQ.v {w w' : World} {K : BQ} {t : Ty} {e : Ending} {R : Ty → Prop} (h : TyQ w K t e w') (hR : R t) : TyV w K R e w' := by
  obtain ⟨vn, vm, vk, rfl, hp⟩ := h.ex
  obtain ⟨an, cn, am, cm, ak, ck, rfl, rfl, rfl⟩ := hp.form
  exact ⟨h.bl, t, an, cn, am, cm, ak, ck, rfl, hR, hp⟩
theorem make_v {B : BQ} {w : World} (k : Int) {a : Option Addr} {n c : Nat} {ks : List Ty} (h : SlT B w (.slice a n c) ks) (hf : ∀ x ∈ ks, Fit x) (hc : cntL ks + 1 ≤ 1000000) : Calls Try.prog 12 #[.int .i64 k, .slice a n c] w (TyV w (fun b => w.heap.size ≤ b) (fun T => T = mkT k ks)) := (make_any k h hf hc).mono fun _ _ h => h.v rfl
theorem make_v0 {w : World} (k : Int) : Calls Try.prog 12 #[.int .i64 k, .slice none 0 0] w (TyV w (fun b => w.heap.size ≤ b) (fun T => T = mkT k [])) := make_v (B := fun _ => True) k (.inl ⟨none, 0, rfl, rfl⟩) (fun x hx => by cases hx) (by simp [cntL])
theorem param_v {B : BQ} {w : World} {c : Ty} {an : Option Addr} {cn : Nat} {am : Option Addr} {cm : Nat} {ak : Option Addr} {ck : Nat} (q : Nat) (hq : q ≤ 6) (hp : Prt B w c (.slice an c.names.length cn) (.slice am c.marks.length cm) (.slice ak c.kids.length ck)) : Calls Try.prog 11 #[.int .i64 (q : Int), .agg #[.int .i64 c.kind, .string c.name, .int .i64 c.n, .bool c.flag, .slice an c.names.length cn, .slice am c.marks.length cm, .slice ak c.kids.length ck]] w (TyV w (fun b => (B b ∧ b < w.heap.size) ∨ w.heap.size ≤ b) (fun T => ∃ nm, T = .mk 9 nm (q : Int) false [] [] [c])) := by
  have h := param_any q hq hp
  unfold agT at h
  exact h.mono fun _ _ ⟨nm, h⟩ => h.v ⟨nm, rfl⟩
/-- one type in a row that was just written -/
theorem slt_one {B : BQ} {w : World} {T : Ty} {vn vm vk : Value} (hp : Prt B w T vn vm vk) : SlT (fun _ => True) (w.alloc (.cells #[.int .i64 T.kind, .string T.name, .int .i64 T.n, .bool T.flag, vn, vm, vk] 26)) (.slice (some ⟨w.heap.size, 0, none⟩) 1 1) [T] := by
  obtain ⟨y0, y1, y2, y3, y4, y5, y6⟩ := bx7 (heap_new w (.cells #[.int .i64 T.kind, .string T.name, .int .i64 T.n, .bool T.flag, vn, vm, vk] 26))
  exact .inr ⟨w.heap.size, 0, 1, rfl, by simp, by simp, trivial, liesT_cons.2 ⟨lies_iff.2 ⟨y0, y1, y2, y3, _, _, _, y4, y5, y6, (hp.kept (below_alloc _ _)).with (fun _ _ _ => trivial)⟩, liesT_nil⟩⟩
theorem aw_plain (nm : ByteArray) : (mkT 11 [Ty.mk 9 nm 0 false [] [] [mkT 15 []]]).mtc (mkT 11 [mkT 1 []]) [zT] = (true, [mkT 1 []]) := by
  simp [mkT, Ty.mtc, mcL, Ty.opn, Ty.kind, Ty.name, Ty.n, Ty.flag, Ty.names, Ty.marks, Ty.kids, zT]
set_option maxRecDepth 100000 in
set_option maxHeartbeats 8000000 in
theorem awake_any (w : World) : Calls Try.prog 6 #[] w fun e w' => e = .returned (.bool true) ∧ Below w.heap.size w w' := by
  obtain ⟨i0, hi, hz0, hz1, hz2⟩ := infoT_ex
  go_enter Try.func6, Try.ntmps6
  go_wp2_with (at_make; refine wpList_make_full _ rfl _ _ 24 rfl w.heap.size 26 i0 (.agg #[.int .i64 0, .string ⟨#[]⟩, .int .i64 0, .bool false, .slice none 0 0, .slice none 0 0, .slice none 0 0]) 7 Try.underlying24 hi hz0 hz1 .i64 .i64 _ _ 1 rfl rfl (by rfl) (by rfl) (by rw [hz2]; omega) (by unfold maxLen; omega) (Nat.le_refl _) ?_; intro w0 hown0 hgrow0; have hB0 : Below w.heap.size w w0 := (Below.refl _ w).grown hgrow0 (Nat.le_refl _) (fun k e => by cases e); have HB0 : Hid (Below w.heap.size w w0) := hB0; have HO0 : Hid (RowT w.heap.size (fun _ => False) w0 (.slice (some ⟨w.heap.size, 0, none⟩) 1 1) [zT]) := row_zero (n := 1) (by omega) hown0; clear hB0 hown0 hgrow0)
  have hAS : w.heap.size < w0.heap.size ∧ ArgS (fun b => b = w.heap.size) w.heap.size 0 w0 (.slice (some ⟨w.heap.size, 0, none⟩) 1 1) [zT] := by
    obtain ⟨g, h1, _, h3, h4⟩ := HO0.out.argS (by simp) (w0.heap.size - 1) (by have := HO0.out.lt w.heap.size rfl; omega)
    have h5 := h4 (fun b => b = w.heap.size) (fun b h => h.elim)
    have h6 : g = w.heap.size := by
      rcases h5 with ⟨_, _, _, e⟩ | ⟨_, _, e, _⟩
      · cases e
      · simp at e; exact e.1.symm
    rw [h6] at h5 h1
    exact ⟨h1, h5⟩
  have HAS : Hid (w.heap.size < w0.heap.size ∧ ArgS (fun b => b = w.heap.size) w.heap.size 0 w0 (.slice (some ⟨w.heap.size, 0, none⟩) 1 1) [zT]) := hAS
  clear hAS HO0
  refine (make_v0 (w := w0) 15).mono ?_
  intro e w1 hq
  obtain ⟨T1, an1, cn1, am1, cm1, ak1, ck1, rfl, hT, hP⟩ := hq.ex
  have HT1 : Hid (T1 = mkT 15 []) := hT
  have HP1 : Hid (Prt (fun b => w0.heap.size ≤ b) w1 T1 (.slice an1 T1.names.length cn1) (.slice am1 T1.marks.length cm1) (.slice ak1 T1.kids.length ck1)) := hP
  have HB1 : Hid (Below w0.heap.size w0 w1) := hq.bl
  clear hq hT hP
  go_wp2_with fail
  refine (param_v 0 (by omega) HP1.out).mono ?_
  intro e w2 hq
  obtain ⟨T2, an2, cn2, am2, cm2, ak2, ck2, rfl, hT, hP⟩ := hq.ex
  have HT2 : Hid (∃ nm, T2 = .mk 9 nm ((0 : Nat) : Int) false [] [] [T1]) := hT
  have HP2 : Hid (Prt (fun b => (w0.heap.size ≤ b ∧ b < w1.heap.size) ∨ w1.heap.size ≤ b) w2 T2 (.slice an2 T2.names.length cn2) (.slice am2 T2.marks.length cm2) (.slice ak2 T2.kids.length ck2)) := hP
  have HB2 : Hid (Below w0.heap.size w0 w2) := bthen HB1.out hq.bl
  clear hq hT hP
  have HF2 : Hid (Fit T2 ∧ T2.cnt ≤ 10) := by
    obtain ⟨nm, e⟩ := HT2.out
    have e1 := HT1.out
    subst e1
    subst e
    exact ⟨.mk _ (by simp [Ty.names]) (by simp [Ty.marks]) (fun x hx => by
      have : x = mkT 15 [] := by simpa [Ty.kids] using hx
      rw [this]; exact fit_mk (fun x hx => by cases hx)), by simp [Ty.cnt, cntL, mkT]⟩
  have h3 := make_v 11 (slt_one HP2.out) (fun x hx => by rw [List.mem_singleton.1 hx]; exact HF2.out.1) (by rw [cntL_cons]; have := HF2.out.2; simp only [cntL]; omega)
  go_wp2_with fail
  refine h3.mono ?_
  intro e w3 hq
  obtain ⟨T3, an3, cn3, am3, cm3, ak3, ck3, rfl, hT, hP⟩ := hq.ex
  have HT3 : Hid (T3 = mkT 11 [T2]) := hT
  have HB3 : Hid (Below w0.heap.size w0 w3) := bthen (bthen HB2.out (below_alloc _ _)) hq.bl
  have HP3 : Hid (Prt (fun b => w0.heap.size ≤ b) w3 T3 (.slice an3 T3.names.length cn3) (.slice am3 T3.marks.length cm3) (.slice ak3 T3.kids.length ck3)) := hP.with (fun b _ h => by have h1 := HB2.out.size; have h' := h; simp at h'; show w0.heap.size ≤ b; omega)
  clear hq hT hP h3
  obtain ⟨x3, hx3⟩ : ∃ x3, x3 = w3.alloc (.cells #[.int .i64 T3.kind, .string T3.name, .int .i64 T3.n, .bool T3.flag, .slice an3 T3.names.length cn3, .slice am3 T3.marks.length cm3, .slice ak3 T3.kids.length ck3] 26) := ⟨_, rfl⟩
  have hb33 : Below w3.heap.size w3 x3 := by rw [hx3]; exact below_alloc _ _
  have HBX : Hid (Below w0.heap.size w0 x3) := bthen HB3.out hb33
  have HK3 : Hid (x3.heap[w3.heap.size]? = some (.cells #[.int .i64 T3.kind, .string T3.name, .int .i64 T3.n, .bool T3.flag, .slice an3 T3.names.length cn3, .slice am3 T3.marks.length cm3, .slice ak3 T3.kids.length ck3] 26 (0, 0))) := by
    show _ = _
    rw [hx3]; exact heap_new _ _
  have HPX : Hid (Prt (fun b => w0.heap.size ≤ b) x3 T3 (.slice an3 T3.names.length cn3) (.slice am3 T3.marks.length cm3) (.slice ak3 T3.kids.length ck3)) := HP3.out.kept hb33
  have HKP : Hid (∀ W, Below x3.heap.size x3 W → W.cell? ⟨w3.heap.size, 0, none⟩ = some (.int .i64 T3.kind) ∧ W.cell? ⟨w3.heap.size, 1, none⟩ = some (.string T3.name) ∧ W.cell? ⟨w3.heap.size, 2, none⟩ = some (.int .i64 T3.n) ∧ W.cell? ⟨w3.heap.size, 3, none⟩ = some (.bool T3.flag) ∧ W.cell? ⟨w3.heap.size, 4, none⟩ = some (.slice an3 T3.names.length cn3) ∧ W.cell? ⟨w3.heap.size, 5, none⟩ = some (.slice am3 T3.marks.length cm3) ∧ W.cell? ⟨w3.heap.size, 6, none⟩ = some (.slice ak3 T3.kids.length ck3)) := fun W h => bx7 (blk_kept h HK3.out)
  clear hb33
  have HMA : Hid (∀ (w5 : World) (T4 T5 : Ty) un um uk, Below w3.heap.size w3 w5 → T4 = mkT 1 [] → T5 = mkT 11 [T4] → Prt (fun _ => True) w5 T5 un um uk → Calls Try.prog 7 #[.agg #[.int .i64 T3.kind, .string T3.name, .int .i64 T3.n, .bool T3.flag, .slice an3 T3.names.length cn3, .slice am3 T3.marks.length cm3, .slice ak3 T3.kids.length ck3], agT T5 un um uk, .slice (some ⟨w.heap.size, 0, none⟩) 1 1] w5 fun e w6 => e = .returned (.bool true) ∧ Kx (· = w.heap.size) w5 w6 ∧ w6.cell? ⟨w.heap.size, 0, none⟩ = some (.int .i64 1)) := fun w5 T4 T5 un um uk h5 e4 e5 hp5 => by
    have hb05 : Below w0.heap.size w0 w5 := bthen HB3.out h5
    have hz5 := hb05.size
    have e3 := HT3.out
    have h := umatch_any (fun b => b = w.heap.size) w.heap.size 0 rfl (.slice (some ⟨w.heap.size, 0, none⟩) 1 1) (fun b => w0.heap.size ≤ b) (fun _ => True) T3 T5 [zT] w5 _ _ _ _ _ _ (fun b hb => by have := HAS.out.1; omega) (HP3.out.kept h5) (by rw [e3]; exact fit_mk (fun x hx => by rw [List.mem_singleton.1 hx]; exact HF2.out.1)) hp5 (by rw [e5, e4]; exact fit_mk (fun x hx => by rw [List.mem_singleton.1 hx]; exact fit_mk (fun x hx => by cases hx))) (HAS.out.2.kept hb05) (fun t ht => by rw [List.mem_singleton.1 ht]; simp [zT, Ty.cnt, cntL]) (by rw [e5, e4]; simp [mkT, Ty.cnt, cntL]) (by rw [e3]; have := HF2.out.2; simp only [cnt_mk, cntL]; omega)
    have hm : T3.mtc T5 [zT] = (true, [mkT 1 []]) := by
      obtain ⟨nm, e2⟩ := HT2.out
      rw [e3, e5, e4, e2, HT1.out]
      exact aw_plain nm
    rw [hm] at h
    exact h.mono fun e w6 hq => ⟨hq.val, hq.kx, by
      rcases hq.arg with ⟨_, _, _, e⟩ | ⟨_, _, _, _, _, _, h4⟩
      · cases e
      · exact (lies_iff.1 (liesT_get h4 0 (by simp))).1⟩
  subst hx3
  have kS := HKP.out _ (Below.refl _ _)
  have hne : w3.heap.size ≠ w.heap.size := by have := HAS.out.1; have := HB3.out.size; omega
  have HNE : Hid (w3.heap.size ≠ w.heap.size) := hne
  go_wp2_with fail
  unfold agT at HMA
  refine wp_region_held_drew (S := fun w' => w'.cell? ⟨w3.heap.size, 0, none⟩ = some (.int .i64 T3.kind) ∧ w'.cell? ⟨w3.heap.size, 1, none⟩ = some (.string T3.name) ∧ w'.cell? ⟨w3.heap.size, 2, none⟩ = some (.int .i64 T3.n) ∧ w'.cell? ⟨w3.heap.size, 3, none⟩ = some (.bool T3.flag) ∧ w'.cell? ⟨w3.heap.size, 4, none⟩ = some (.slice an3 T3.names.length cn3) ∧ w'.cell? ⟨w3.heap.size, 5, none⟩ = some (.slice am3 T3.marks.length cm3) ∧ w'.cell? ⟨w3.heap.size, 6, none⟩ = some (.slice ak3 T3.kids.length ck3)) (by kernel_rfl) (by exact kS) (fun hHeld => ?_)
  clear hHeld
  refine wpAnyH_take (i := 0) (oi := { dst := some 8, op := Op.load 26 (Operand.tmp 2), type := 26, pos := "law.go:24", after := #[], guard := none }) (v := ?_) rfl (by kernel_rfl) (by kernel_rfl) (by kernel_rfl) (fun _ _ _ h => h) (Or.inl ⟨by rfl, ?_⟩) (by exact kS) ?_
  rotate_left
  · intro w hSw; (try dsimp only at hSw); (go_simp <;> with_reducible rfl)
  try simp only [Act.put, List.setIfInBounds_toArray, List.set_cons_zero, List.set_cons_succ]
  refine wpAnyH_take (i := 4) (oi := { dst := some 12, op := Op.move (Operand.tmp 1), type := 24, pos := "law.go:24", after := #[], guard := none }) (v := ?_) rfl (by kernel_rfl) (by kernel_rfl) (by kernel_rfl) (fun _ _ _ h => h) (Or.inl ⟨by rfl, ?_⟩) (by exact kS) ?_
  rotate_left
  · intro w hSw; (try dsimp only at hSw); (go_simp <;> with_reducible rfl)
  try simp only [Act.put, List.setIfInBounds_toArray, List.set_cons_zero, List.set_cons_succ]
  refine wpAnyH_ready (rs := [1]) (by kernel_rfl) (by simp) ?_
  refine AllReadyH.cons (o := { dst := some 9, op := Op.call { callee := Callee.value (Operand.func 12), args := #[Operand.const (Value.int IntKind.i64 1), Operand.const (Value.slice none 0 0)], argTypes := #[3, 24] }, type := 26, pos := "law.go:24", after := #[], guard := none }) rfl (fun K hK => ?_) AllReadyH.nil
  go_simp
  go_at_call 12; refine (make_v0 1).mono ?_; intro e w4 hq; obtain ⟨T4, an4, cn4, am4, cm4, ak4, ck4, rfl, hT, hP⟩ := hq.ex; have HT4 : Hid (T4 = mkT 1 []) := hT; have HP4 : Hid (Prt (fun _ => True) w4 T4 (.slice an4 T4.names.length cn4) (.slice am4 T4.marks.length cm4) (.slice ak4 T4.kids.length ck4)) := hP.with (fun _ _ _ => trivial); have HB4 : Hid (Below _ _ w4) := bthen (below_drew1 _) hq.bl; have kS := HKP.out w4 HB4.out; clear hq hT hP
  go_wp2_with fail
  refine hK.out _ _ (by exact kS) (fun hHeld => ?_)
  clear hK K hHeld
  try simp only [Act.put, List.setIfInBounds_toArray, List.set_cons_zero, List.set_cons_succ]
  refine wpAnyH_ready (rs := [2]) (by kernel_rfl) (by simp) ?_
  refine AllReadyH.cons (o := { dst := some 10, op := Op.buildSlice 24 1 #[(0, Operand.tmp 9)], type := 24, pos := "law.go:24", after := #[{ on := 1, ground := Ground.data }], guard := none }) rfl (fun K hK => ?_) AllReadyH.nil
  go_simp
  have kS := HKP.out _ (bthen HB4.out (below_alloc _ (.cells #[.int .i64 T4.kind, .string T4.name, .int .i64 T4.n, .bool T4.flag, .slice an4 T4.names.length cn4, .slice am4 T4.marks.length cm4, .slice ak4 T4.kids.length ck4] 26)))
  refine hK.out _ _ (by exact kS) (fun hHeld => ?_)
  clear hK K hHeld
  try simp only [Act.put, List.setIfInBounds_toArray, List.set_cons_zero, List.set_cons_succ]
  refine wpAnyH_ready (rs := [3]) (by kernel_rfl) (by simp) ?_
  refine AllReadyH.cons (o := { dst := some 11, op := Op.call { callee := Callee.value (Operand.func 12), args := #[Operand.const (Value.int IntKind.i64 11), Operand.tmp 10], argTypes := #[3, 24] }, type := 26, pos := "law.go:24", after := #[{ on := 2, ground := Ground.data }, { on := 1, ground := Ground.chain }], guard := none }) rfl (fun K hK => ?_) AllReadyH.nil
  go_simp
  go_at_call 12; refine (make_v 11 (slt_one HP4.out) (fun x hx => by rw [List.mem_singleton.1 hx, HT4.out]; exact fit_mk (fun x hx => by cases hx)) (by rw [HT4.out]; simp [mkT, Ty.cnt, cntL])).mono ?_; intro e w5 hq; obtain ⟨T5, an5, cn5, am5, cm5, ak5, ck5, rfl, hT, hP⟩ := hq.ex; have HT5 : Hid (T5 = mkT 11 [T4]) := hT; have HP5 : Hid (Prt (fun _ => True) w5 T5 (.slice an5 T5.names.length cn5) (.slice am5 T5.marks.length cm5) (.slice ak5 T5.kids.length ck5)) := hP.with (fun _ _ _ => trivial); have HB5 : Hid (Below _ _ w5) := bthen (bthen HB4.out (below_alloc _ _)) hq.bl; have kS := HKP.out w5 HB5.out; clear hq hT hP
  go_wp2_with fail
  refine hK.out _ _ (by exact kS) (fun hHeld => ?_)
  clear hK K hHeld
  try simp only [Act.put, List.setIfInBounds_toArray, List.set_cons_zero, List.set_cons_succ]
  refine wpAnyH_ready (rs := [5]) (by kernel_rfl) (by simp) ?_
  refine AllReadyH.cons (o := { dst := some 13, op := Op.call { callee := Callee.value (Operand.func 7), args := #[Operand.tmp 8, Operand.tmp 11, Operand.tmp 12], argTypes := #[26, 26, 24] }, type := 4, pos := "law.go:24", after := #[{ on := 0, ground := Ground.data }, { on := 3, ground := Ground.data }, { on := 4, ground := Ground.data }, { on := 3, ground := Ground.chain }], guard := none }) rfl (fun K hK => ?_) AllReadyH.nil
  go_simp
  go_at_call 7; refine (HMA.out w5 T4 T5 _ _ _ (bthen (below_alloc _ _) HB5.out) HT4.out HT5.out HP5.out).mono ?_; rintro e w6 ⟨rfl, hk6, hc6⟩; have HK6 : Hid (Kx (· = w.heap.size) w5 w6) := hk6; obtain ⟨r0, r1, r2, r3, r4, r5, r6⟩ := kS; have kS := (And.intro (hk6.cell r0 HNE.out) (And.intro (hk6.cell r1 HNE.out) (And.intro (hk6.cell r2 HNE.out) (And.intro (hk6.cell r3 HNE.out) (And.intro (hk6.cell r4 HNE.out) (And.intro (hk6.cell r5 HNE.out) (hk6.cell r6 HNE.out))))))); clear r0 r1 r2 r3 r4 r5 r6 hk6
  go_wp2_with fail
  refine hK.out _ _ (by exact kS) (fun hHeld => ?_)
  clear hK K hHeld
  try simp only [Act.put, List.setIfInBounds_toArray, List.set_cons_zero, List.set_cons_succ]
  refine wpAnyH_take (i := 6) (oi := { dst := some 14, op := Op.move (Operand.tmp 13), type := 4, pos := "law.go:24", after := #[{ on := 5, ground := Ground.data }, { on := 5, ground := Ground.chain }], guard := none }) (v := ?_) rfl (by kernel_rfl) (by kernel_rfl) (by kernel_rfl) (fun _ _ _ h => h) (Or.inl ⟨by rfl, ?_⟩) (by exact kS) ?_
  rotate_left
  · intro w hSw; (try dsimp only at hSw); (go_simp <;> with_reducible rfl)
  try simp only [Act.put, List.setIfInBounds_toArray, List.set_cons_zero, List.set_cons_succ]
  refine wpAnyH_take (i := 7) (oi := { dst := some 15, op := Op.move (Operand.tmp 1), type := 24, pos := "law.go:24", after := #[{ on := 6, ground := Ground.guard }], guard := some (6, true) }) (v := ?_) rfl (by kernel_rfl) (by kernel_rfl) (by kernel_rfl) (fun _ _ _ h => h) (Or.inl ⟨by rfl, ?_⟩) (by exact kS) ?_
  rotate_left
  · intro w hSw; (try dsimp only at hSw); (go_simp <;> with_reducible rfl)
  try simp only [Act.put, List.setIfInBounds_toArray, List.set_cons_zero, List.set_cons_succ]
  refine wpAnyH_take (i := 8) (oi := { dst := some 16, op := Op.indexAddr 24 (Operand.tmp 15) (Operand.const (Value.int IntKind.i64 0)), type := 0, pos := "law.go:24", after := #[{ on := 7, ground := Ground.data }, { on := 6, ground := Ground.guard }], guard := some (6, true) }) (v := ?_) rfl (by kernel_rfl) (by kernel_rfl) (by kernel_rfl) (fun _ _ _ h => h) (Or.inl ⟨by rfl, ?_⟩) (by exact kS) ?_
  rotate_left
  · intro w hSw; (try dsimp only at hSw); (go_simp <;> with_reducible rfl)
  try simp only [Act.put, List.setIfInBounds_toArray, List.set_cons_zero, List.set_cons_succ]
  refine wpAnyH_take (i := 9) (oi := { dst := some 17, op := Op.fieldAddr 26 (Operand.tmp 16) 0, type := 0, pos := "law.go:24", after := #[{ on := 8, ground := Ground.data }, { on := 6, ground := Ground.guard }], guard := some (6, true) }) (v := ?_) rfl (by kernel_rfl) (by kernel_rfl) (by kernel_rfl) (fun _ _ _ h => h) (Or.inl ⟨by rfl, ?_⟩) (by exact kS) ?_
  rotate_left
  · intro w hSw; (try dsimp only at hSw); (go_simp <;> with_reducible rfl)
  try simp only [Act.put, List.setIfInBounds_toArray, List.set_cons_zero, List.set_cons_succ]
  refine wpAnyH_ready (rs := [10]) (by kernel_rfl) (by simp) ?_
  refine AllReadyH.cons (o := { dst := some 18, op := Op.load 3 (Operand.tmp 17), type := 3, pos := "law.go:24", after := #[{ on := 9, ground := Ground.data }, { on := 6, ground := Ground.guard }], guard := some (6, true) }) rfl (fun K hK => ?_) AllReadyH.nil
  go_simp
  refine hK.out _ _ (by exact kS) (fun hHeld => ?_)
  clear hK K hHeld
  try simp only [Act.put, List.setIfInBounds_toArray, List.set_cons_zero, List.set_cons_succ]
  refine wpAnyH_take (i := 11) (oi := { dst := some 19, op := Op.binOp BinOp.eql 3 (Operand.tmp 18) (Operand.const (Value.int IntKind.i64 1)) 3, type := 4, pos := "law.go:24", after := #[{ on := 10, ground := Ground.data }, { on := 6, ground := Ground.guard }], guard := some (6, true) }) (v := ?_) rfl (by kernel_rfl) (by kernel_rfl) (by kernel_rfl) (fun _ _ _ h => h) (Or.inl ⟨by rfl, ?_⟩) (by exact kS) ?_
  rotate_left
  · intro w hSw; (try dsimp only at hSw); (go_simp <;> with_reducible rfl)
  try simp only [Act.put, List.setIfInBounds_toArray, List.set_cons_zero, List.set_cons_succ]
  refine wpAnyH_take (i := 12) (oi := { dst := some 20, op := Op.pick (Operand.tmp 14) (Operand.tmp 19) (Operand.const (Value.bool false)), type := 4, pos := "law.go:24", after := #[{ on := 6, ground := Ground.data }, { on := 11, ground := Ground.data }], guard := none }) (v := ?_) rfl (by kernel_rfl) (by kernel_rfl) (by kernel_rfl) (fun _ _ _ h => h) (Or.inl ⟨by rfl, ?_⟩) (by exact kS) ?_
  rotate_left
  · intro w hSw; (try dsimp only at hSw); (go_simp <;> with_reducible rfl)
  try simp only [Act.put, List.setIfInBounds_toArray, List.set_cons_zero, List.set_cons_succ]
  refine wpAnyH_take (i := 13) (oi := { dst := some 0, op := Op.assign (Operand.tmp 20), type := 4, pos := "law.go:24", after := #[{ on := 12, ground := Ground.data }, { on := 6, ground := Ground.chain }, { on := 0, ground := Ground.phase }, { on := 1, ground := Ground.phase }, { on := 2, ground := Ground.phase }, { on := 3, ground := Ground.phase }, { on := 4, ground := Ground.phase }, { on := 5, ground := Ground.phase }, { on := 6, ground := Ground.phase }, { on := 7, ground := Ground.phase }, { on := 8, ground := Ground.phase }, { on := 9, ground := Ground.phase }, { on := 10, ground := Ground.phase }, { on := 11, ground := Ground.phase }, { on := 12, ground := Ground.phase }], guard := none }) (v := ?_) rfl (by kernel_rfl) (by kernel_rfl) (by kernel_rfl) (fun _ _ _ h => h) (Or.inl ⟨by rfl, ?_⟩) (by exact kS) ?_
  rotate_left
  · intro w hSw; (try dsimp only at hSw); (go_simp <;> with_reducible rfl)
  try simp only [Act.put, List.setIfInBounds_toArray, List.set_cons_zero]
  refine wpAnyH_done (by kernel_rfl) ?_ _
  go_wp2_with fail
  go_ret
  exact ⟨rfl, below_kx1 (bthen HB0.out (bthen HB3.out (bthen (below_alloc _ _) HB5.out))) HK6.out (Nat.le_refl _)⟩
end Go.Proofs.Ytcmnhkopmkaiaaa

