/-
  sign of the document's scanner, walked: the longest sign.
-/
import Derived.Test.YtmfdfkbcommjfaaDoorRefD
import Derived.Test.YtmfdfkbcommjfaaDoorRefP
import Derived.Test.YtmfdfkbcommjfaaDoorWalkK
namespace Go.Proofs.YtmfdfkbcommjfaaDoor
open Go.RowKit
attribute [local go_sem ↓] Go.wp_at_zero Go.wp_at_succ
def sgV : Array Value := #[.string ⟨#[46, 46, 46]⟩, .string ⟨#[124, 124]⟩, .string ⟨#[38, 38]⟩, .string ⟨#[61, 61]⟩, .string ⟨#[33, 61]⟩, .string ⟨#[60, 61]⟩, .string ⟨#[62, 61]⟩, .string ⟨#[58, 61]⟩, .string ⟨#[43, 61]⟩, .string ⟨#[45, 61]⟩, .string ⟨#[42, 61]⟩, .string ⟨#[47, 61]⟩, .string ⟨#[37, 61]⟩, .string ⟨#[43, 43]⟩, .string ⟨#[45, 45]⟩, .string ⟨#[60, 45]⟩, .string ⟨#[43]⟩, .string ⟨#[45]⟩, .string ⟨#[42]⟩, .string ⟨#[47]⟩, .string ⟨#[37]⟩, .string ⟨#[38]⟩, .string ⟨#[33]⟩, .string ⟨#[61]⟩, .string ⟨#[60]⟩, .string ⟨#[62]⟩, .string ⟨#[40]⟩, .string ⟨#[41]⟩, .string ⟨#[91]⟩, .string ⟨#[93]⟩, .string ⟨#[123]⟩, .string ⟨#[125]⟩, .string ⟨#[44]⟩, .string ⟨#[46]⟩, .string ⟨#[58]⟩, .string ⟨#[124]⟩]
theorem sgV_get : sgV = (sgl.map fun x => Value.string (bsL x)).toArray := rfl
theorem sgl_at (k : Nat) (h : k < 36) : ∃ x, sgl[k]? = some x ∧ x.length ≤ 3 := by
  have : ∀ k : Fin 36, ∃ x, sgl[k.val]? = some x ∧ x.length ≤ 3 := by decide +kernel
  exact this ⟨k, h⟩
theorem bsL_size (l : List UInt8) : (bsL l).size = l.length := by simp [bsL, ByteArray.size]
theorem find_at {r : List UInt8} {k : Nat} {x : List UInt8} (hx : sgl[k]? = some x) (hno : ∀ y ∈ sgl.take k, y.isPrefixOf r = false) (hq : x.isPrefixOf r = true) : sgl.find? (fun x => x.isPrefixOf r) = some x := by
  generalize sgl = l at *
  induction l generalizing k with
  | nil => cases hx
  | cons a l ih =>
    cases k with
    | zero => obtain rfl : a = x := Option.some.inj hx; simp [hq]
    | succ k =>
      rw [List.find?_cons, hno a (by simp)]
      exact ih hx (fun y hy => hno y (by simp [hy]))
/-- the loop of sign: the signs ahead of number k don't stand there -/
structure SgR (W2 : World) (r : List UInt8) (u : Value) (wr : World) : Prop where
  ex : ∃ k n : Nat, k ≤ 36 ∧ u = .int .i64 k ∧ (∀ y ∈ sgl.take k, y.isPrefixOf r = false) ∧ wr = W2.drewN n
set_option maxRecDepth 100000 in
set_option maxHeartbeats 2000000 in
theorem rsemi_any (w : World) (base R : Nat) (S : ByteArray) (s : St) (p : Nat) (h : Sc w base R S p s 0 0) (hp : p < S.size) (hS : S.size ≤ 65536) (hl : s.toks.length ≤ 1000000) (h59 : S[p]'hp = 59) :
    Calls Tryd.prog 42 #[.pointer (some ⟨R, 0, none⟩)] w (RP w base R S s p (.tok 6 1 [59])) := by
  have c0 := h.cell0
  have c1 := h.cell1
  have f1 := h.frz 1
  have hlt := h.lt
  have hle := h.le
  have HH : Hid (Sc w base R S p s 0 0) := h
  have z0 : IntKind.i64.wrap ((p : Int) + 1) = (p : Int) + 1 := wrap_small _ (by omega) (by omega)
  have z1 : (p : Int) < (S.size : Int) := by omega
  have z2 : (0 : Int) ≤ (p : Int) := by omega
  have k1 : (((S[p]'hp).toNat : Int) == 59) = true := by rw [h59]; rfl
  clear h h59
  go_enter Tryd.func42, Tryd.ntmps42
  go_wp2_with fail
  generalize hW : (World.alloc _ _) = W
  have HB1 : Hid (Below w.heap.size w W) := by rw [← hW]; exact (Below.refl _ _).alloc (Nat.le_refl _) _
  have HS1 : Hid (Sc W base R S p s 0 0) := HH.out.below HB1.out
  have HC : Hid (W.heap[w.heap.size]? = some (.cells sgV 9 (0, 0))) := by rw [← hW]; exact heap_alloc_new w _
  clear hW c0 c1 f1
  have c0 := HS1.out.cell0
  have c1 := HS1.out.cell1
  have f1 := HS1.out.frz 1
  go_quiet (fail)
  have HS2 : Hid (Sc (W.drewN nq) base R S p s 0 0) := HS1.out.drewN nq
  have HB2 : Hid (Below base w (W.drewN nq)) := (HB1.out.mono (by omega)).trans (bl_drewN _ _ _)
  have e1 := HS2.out.cell1
  have e2 := HS2.out.frz 1
  have hput := HS2.out.put1 (p + 1)
  have hbl := HS2.out.bl1 1 (.int .i64 ((p + 1 : Nat) : Int))
  have ez : ((p + 1 : Nat) : Int) = (p : Int) + 1 := by omega
  rw [ez] at hput hbl
  have HPUT : Hid _ := hput
  have HPB : Hid _ := hbl
  clear hput hbl ez c0 c1 f1
  generalize W.drewN nq = W2 at *
  have g43 := radd_any (W2.setCell ⟨R, 1, none⟩ (.int .i64 ((p : Int) + 1))) base R S (p + 1) s 0 0 HPUT.out 6 p ⟨#[59]⟩ hl
  go_wp2_with (go_at_call 43; refine g43.mono ?_; intro e w3 h3; obtain rfl := h3.ret; have H3 : Hid _ := h3; clear h3)
  refine bodyPost_end (results_none rfl _ _ _) rfl ?_
  exact H3.out.after (HB2.out.trans HPB.out)
set_option maxRecDepth 100000 in
set_option maxHeartbeats 2000000 in
theorem rsign_any (w : World) (base R : Nat) (S : ByteArray) (s : St) (p : Nat) (h : Sc w base R S p s 0 0) (hp : p < S.size) (hS : S.size ≤ 65536) (hl : s.toks.length ≤ 1000000) (h59 : S[p]'hp ≠ 59) (pc : Pc) (hpc : pc = match sgl.find? (fun x => x.isPrefixOf (S.data.toList.drop p)) with | none => .bad 0 | some x => .tok 5 x.length x) :
    Calls Tryd.prog 42 #[.pointer (some ⟨R, 0, none⟩)] w (RP w base R S s p pc) := by
  have c0 := h.cell0
  have c1 := h.cell1
  have f1 := h.frz 1
  have hlt := h.lt
  have hle := h.le
  have HH : Hid (Sc w base R S p s 0 0) := h
  have HPC : Hid (pc = match sgl.find? (fun x => x.isPrefixOf (S.data.toList.drop p)) with | none => .bad 0 | some x => .tok 5 x.length x) := hpc
  have z1 : (p : Int) < (S.size : Int) := by omega
  have z2 : (0 : Int) ≤ (p : Int) := by omega
  have k1 : (((S[p]'hp).toNat : Int) == 59) = false := nat_bne (b := 59) (fun h => h59 (UInt8.toNat_inj.1 h))
  clear h h59 hpc
  go_enter Tryd.func42, Tryd.ntmps42
  go_wp2_with fail
  generalize hW : (World.alloc _ _) = W
  have HB1 : Hid (Below w.heap.size w W) := by rw [← hW]; exact (Below.refl _ _).alloc (Nat.le_refl _) _
  have HS1 : Hid (Sc W base R S p s 0 0) := HH.out.below HB1.out
  have HC : Hid (W.heap[w.heap.size]? = some (.cells sgV 9 (0, 0))) := by rw [← hW]; exact heap_alloc_new w _
  clear hW c0 c1 f1
  have c0 := HS1.out.cell0
  have c1 := HS1.out.cell1
  have f1 := HS1.out.frz 1
  go_quiet (fail)
  have HS2 : Hid (Sc (W.drewN nq) base R S p s 0 0) := HS1.out.drewN nq
  have HB2 : Hid (Below base w (W.drewN nq)) := (HB1.out.mono (by omega)).trans (bl_drewN _ _ _)
  have HC2 : Hid ((W.drewN nq).heap[w.heap.size]? = some (.cells sgV 9 (0, 0))) := HC.out
  clear c0 c1 f1 HC
  generalize W.drewN nq = W2 at *
  go_wp2_with fail
  go_loopw [4] (fun u wr => SgR W2 (S.data.toList.drop p) u wr) (fun u _ => 36 - (intOf u).toNat)
  case atStart => exact ⟨0, 0, by omega, rfl, fun x hx => (by cases hx), rfl⟩
  case round =>
    obtain ⟨k, n, hk, rfl, hno, rfl⟩ := hrel.ex
    clear hrel
    by_cases hk2 : k < 36
    · have z3 : (k : Int) < 36 := by omega
      have z4 : (0 : Int) ≤ (k : Int) := by omega
      obtain ⟨x, hx, hxl⟩ := sgl_at k hk2
      have hcell : (W2.drewN n).cell? ⟨w.heap.size, k, none⟩ = some (.string (bsL x)) := (cell_of HC2.out k).trans (by rw [sgV_get]; simp [hx])
      have g37 := fun m => rat_any (W2.drewN m) base R S p s 0 0 (HS2.out.drewN m) (bsL x) (by omega) hS (by rw [bsL_size]; omega)
      have e0 : (bsL x).data.toList = x := by simp [bsL]
      rw [e0] at g37
      have HX : Hid (sgl[k]? = some x) := hx
      have HNO : Hid (∀ y ∈ sgl.take k, y.isPrefixOf (S.data.toList.drop p) = false) := hno
      clear hx hno e0
      cases q : x.isPrefixOf (S.data.toList.drop p) with
      | false =>
        rw [q] at g37
        have HQ : Hid _ := q
        clear q
        go_wp2_with (go_at_call 37; refine (g37 _).mono ?_; rintro e w4 ⟨rfl, m4, hw4⟩; obtain rfl := hw4)
        go_roundw
        case rel =>
          refine ⟨k + 1, n + m4, by omega, by go_num, fun y hy => ?_, rfl⟩
          rw [List.take_add_one, HX.out] at hy
          rcases List.mem_append.1 hy with hy | hy
          · exact HNO.out y hy
          · have : y = x := by simpa using hy
            rw [this]; exact HQ.out
        case measure => simp [intOf]; omega
      | true =>
        rw [q] at g37
        have hfd : sgl.find? (fun x => x.isPrefixOf (S.data.toList.drop p)) = some x := find_at HX.out HNO.out q
        have hpl := (List.isPrefixOf_iff_prefix.1 q).length_le
        rw [List.length_drop, bal] at hpl
        have HPC2 : Hid (pc = .tok 5 x.length x) := by show _ = _; rw [HPC.out, hfd]
        have ez : ((p + x.length : Nat) : Int) = (p : Int) + (x.length : Int) := by omega
        have z6 : IntKind.i64.wrap ((p : Int) + (x.length : Int)) = (p : Int) + (x.length : Int) := wrap_small _ (by omega) (by omega)
        have z7 : ((bsL x).size : Int) = (x.length : Int) := by rw [bsL_size]
        have HPUT : Hid (∀ m, Sc ((W2.drewN m).setCell ⟨R, 1, none⟩ (.int .i64 ((p : Int) + (x.length : Int)))) base R S (p + x.length) s 0 0) := fun m => by rw [← ez]; exact (HS2.out.drewN m).put1 (p + x.length)
        clear q hfd ez hpl
        go_wp2_with (go_at_call 37; refine (g37 _).mono ?_; rintro e w4 ⟨rfl, m4, hw4⟩; have HS3 : Hid (Sc w4 base R S p s 0 0) := (by rw [hw4, World.drewN_drewN]; exact HS2.out.drewN _); have HB3 : Hid (Below base w w4) := (by rw [hw4, World.drewN_drewN]; exact HB2.out.trans (bl_drewN _ _ _)); have hcell2 : w4.cell? ⟨w.heap.size, k, none⟩ = some (.string (bsL x)) := (by rw [hw4]; exact hcell); have HP3 : Hid (Sc (w4.setCell ⟨R, 1, none⟩ (.int .i64 ((p : Int) + (x.length : Int)))) base R S (p + x.length) s 0 0) := (by rw [hw4, World.drewN_drewN]; exact HPUT.out _); have d1 := HS3.out.cell1; have d2 := HS3.out.frz 1; clear hw4)
        have g43 := radd_any (w4.setCell ⟨R, 1, none⟩ (.int .i64 ((p : Int) + (x.length : Int)))).drew base R S (p + x.length) s 0 0 (HP3.out.drewN 1) 5 p (bsL x) hl
        have e0 : (bsL x).data.toList = x := by simp [bsL]
        rw [e0] at g43
        have n1 : w.heap.size ≠ R := by omega
        have n2 : R ≠ w.heap.size := by omega
        clear e0 g37 hcell
        go_region
        all_goals
          go_wp2_with (go_at_call 43; refine (g43).mono ?_; intro e w3 h3; obtain rfl := h3.ret; have H3 : Hid _ := h3; clear h3)
          refine bodyPost_end (results_none rfl _ _ _) rfl ?_
          rw [HPC2.out]
          exact H3.out.after (HB3.out.trans ((HS3.out.bl1 1 _).drew))
    · have z3 : ¬ (k : Int) < 36 := by omega
      obtain rfl : k = 36 := by omega
      have HPC2 : Hid (pc = .bad 0) := by
        show _ = _
        rw [HPC.out, List.find?_eq_none.2 (fun y hy => by rw [hno y hy]; decide)]
      have g51 := rwrong_any (W2.drewN n) base R S p s 0 0 (HS2.out.drewN n) p
      clear hno
      go_wp2_with (go_at_call 51; refine g51.mono ?_; intro e w3 h3; obtain rfl := h3.ret; have H3 : Hid _ := h3; clear h3)
      refine bodyPost_end (results_none rfl _ _ _) rfl ?_
      rw [HPC2.out]
      exact ⟨p, s, H3.out.after (HB2.out.trans (bl_drewN _ _ _))⟩
end Go.Proofs.YtmfdfkbcommjfaaDoor
