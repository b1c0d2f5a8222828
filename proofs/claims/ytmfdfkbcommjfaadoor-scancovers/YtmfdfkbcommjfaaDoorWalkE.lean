/-
  name and number of the reader, walked.
-/
import Derived.Test.YtmfdfkbcommjfaaDoorWalkD
namespace Go.Proofs.YtmfdfkbcommjfaaDoor
open Go.RowKit
attribute [local go_sem ↓] Go.wp_at_zero Go.wp_at_succ
/-- the reading gives up at a place -/
structure PanP (w : World) (base p : Nat) (e : Ending) (w' : World) : Prop where
  pan : e = .panicked [{ v := .iface 25 (fltV 3 p), recovered := false }]
  bl : Below base w w'
theorem Rd.cell0 {w : World} {base R : Nat} {S : ByteArray} {s : St} (h : Rd w base R S s) : w.cell? ⟨R, 0, none⟩ = some (.string S) := by
  obtain ⟨_, tv, rv, hR, _⟩ := h; simp [World.cell?, hR]
theorem Rd.lt {w : World} {base R : Nat} {S : ByteArray} {s : St} (h : Rd w base R S s) : R < w.heap.size := by
  obtain ⟨_, tv, rv, hR, _⟩ := h; exact (Array.getElem?_eq_some_iff.1 hR).1
theorem ext_drop (S : ByteArray) (n : Nat) : (S.extract n S.size).data.toList = S.data.toList.drop n := by
  simp [ByteArray.data_extract]
  rw [List.take_of_length_le (by simp)]
theorem AddP.after {w w1 : World} {base R : Nat} {S : ByteArray} {s : St} {r : Value} {e : Ending} {w' : World} (h : AddP w1 base R S s r e w') (hb : Below w.heap.size w w1) (hle : base ≤ w.heap.size) : AddP w base R S s r e w' :=
  ⟨h.ret, h.rd, (hb.mono hle).trans h.bl, (Oth.below hb).trans h.ot⟩
set_option maxRecDepth 100000 in
set_option maxHeartbeats 1000000 in
theorem name_long (w : World) (base R : Nat) (S : ByteArray) (s : St) (h : Rd w base R S s) (p : Nat) (hp : p ≤ S.size) (hS : S.size ≤ 65536) (hn : 60 < run lod (S.data.toList.drop p)) :
    Calls Tryd.prog 55 #[.pointer (some ⟨R, 0, none⟩), .int .i64 p] w (PanP w base p) := by
  have c0 := h.cell0
  have hlt := h.lt
  have hle := h.le
  have h25 := fun w => runLod_any (S.extract p S.size) w (by simp; omega)
  rw [ext_drop] at h25
  generalize run lod (S.data.toList.drop p) = n at *
  have hn2 : (60 : Int) < (n : Int) := by omega
  have z1 : (0 : Int) ≤ (p : Int) := by omega
  have z2 : (p : Int) ≤ (S.size : Int) := by omega
  have HH : Hid (Rd w base R S s) := h
  clear h hn
  go_enter Tryd.func55, Tryd.ntmps55
  go_wp2_with (first | (go_at_call 25; refine (h25 _).mono ?_; rintro e w1 ⟨rfl, hb1⟩) | (go_at_call 62; refine (wrongAt_any _ _).mono ?_; rintro e w2 ⟨rfl, rfl⟩))
  exact ⟨rfl, rfl, ((hb1.alloc hb1.size _).mono (by omega))⟩
theorem ext_word (S : ByteArray) (p n : Nat) : (S.extract p (p + n)).toList = (S.data.toList.drop p).take n := by
  rw [Lib.toList_data, ext_list]
  simp [bsL, List.drop_take]
theorem ext_tok (S : ByteArray) (p n : Nat) : (S.data.toList.take (p + n)).drop p = (S.data.toList.drop p).take n := by simp [List.drop_take]
set_option maxRecDepth 100000 in
set_option maxHeartbeats 1000000 in
theorem name_ok (w : World) (base R : Nat) (S : ByteArray) (s : St) (h : Rd w base R S s) (p : Nat) (hp : p ≤ S.size) (hS : S.size ≤ 65536) (hl : s.toks.length ≤ 1000000) (hn : ¬ 60 < run lod (S.data.toList.drop p)) :
    Calls Tryd.prog 55 #[.pointer (some ⟨R, 0, none⟩), .int .i64 p] w (AddP w base R S (stp p s (.tok (if word ((S.data.toList.drop p).take (run lod (S.data.toList.drop p))) then 4 else 1) (run lod (S.data.toList.drop p)) ((S.data.toList.drop p).take (run lod (S.data.toList.drop p))))) (.int .i64 ((p + run lod (S.data.toList.drop p) : Nat) : Int))) := by
  have c0 := h.cell0
  have hlt := h.lt
  have hle := h.le
  have h25 := fun w => runLod_any (S.extract p S.size) w (by simp; omega)
  rw [ext_drop] at h25
  have hrl := run_le lod (S.data.toList.drop p)
  rw [List.length_drop, Array.length_toList] at hrl
  have hrl2 : p + run lod (S.data.toList.drop p) ≤ S.size := by have : S.data.size = S.size := rfl; omega
  generalize run lod (S.data.toList.drop p) = n at *
  have h13 := word_any (S.extract p (p + n))
  rw [ext_word] at h13
  have h50 := fun (w : World) (kd : Nat) (h : Rd w base R S s) => add_any w base R S s h kd p (p + n) (by omega) hrl2 hl
  rw [ext_tok] at h50
  have hn2 : ¬ (60 : Int) < (n : Int) := by omega
  have z1 : (0 : Int) ≤ (p : Int) := by omega
  have z2 : (p : Int) ≤ (S.size : Int) := by omega
  have z3 : (p : Int) ≤ (p : Int) + (n : Int) := by omega
  have z4 : (p : Int) + (n : Int) ≤ (S.size : Int) := by omega
  have z5 : IntKind.i64.wrap ((p : Int) + (n : Int)) = (p : Int) + (n : Int) := wrap_small _ (by omega) (by omega)
  have z6 : ((p : Int) + (n : Int)).toNat = p + n := by omega
  have HH : Hid (Rd w base R S s) := h
  generalize (S.data.toList.drop p).take n = tx at *
  have HP : Hid (((p + n : Nat) : Int) = (p : Int) + (n : Int)) := (by omega : ((p + n : Nat) : Int) = (p : Int) + (n : Int))
  clear h hn hrl hrl2
  cases hw : word tx
  all_goals
   rw [hw] at h13
   clear hw
   go_enter Tryd.func55, Tryd.ntmps55
   go_wp2_with (first
     | (go_at_call 25; refine (h25 _).mono ?_; rintro e w1 ⟨rfl, hb1⟩; have c0' : w1.cell? ⟨R, 0, none⟩ = some (.string S) := (by rw [hb1.cell hlt]; exact c0); have HB1 : Hid (Below w.heap.size w w1) := hb1; clear hb1)
     | (go_at_call 13; refine (h13 _).mono ?_; rintro e w2 ⟨rfl, rfl⟩)
     | (go_at_call 50; refine (h50 _ _ (HH.out.below HB1.out)).mono ?_; intro e w3 h3; obtain rfl := h3.ret; have H3 : Hid _ := h3; clear h3))
   go_ret
   exact H3.out.after HB1.out (by omega)
end Go.Proofs.YtmfdfkbcommjfaaDoor
