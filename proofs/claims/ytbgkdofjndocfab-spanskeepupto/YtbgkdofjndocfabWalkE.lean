/-
  spans.ofOnePath: how many of the edits, from the first one on, have its path.
-/
import Derived.Test.YtbgkdofjndocfabWalkB
import Derived.Deep.AppendLies
import Derived.Deep.Onto
namespace Go.Proofs.Ytbgkdofjndocfab
open Go.RowKit
attribute [local go_sem ↓] Go.wp_at_zero Go.wp_at_succ
theorem eg42 : ∀ args w, (callFunc 27 args).run Try.prog w = .ok (.enter 27 args) w := enters_of Try.func27 (by kernel_rfl) rfl
def othP (p0 : ByteArray) (x : Ed) : Bool := !(x.1.toList == p0.toList)
set_option maxHeartbeats 1000000 in
theorem closure42 (p t p0 : ByteArray) (a b : Int) (Bx g n c : Nat) (w : World) (hn : 0 < n)
    (h1 : w.cell? ⟨Bx, 0, none⟩ = some (.slice (some ⟨g, 0, none⟩) n c)) (h2 : w.cell? ⟨g, 0, none⟩ = some (.string p0)) :
    Calls Try.prog 27 #[.agg #[.string p, .int .i64 a, .int .i64 b, .string t], .pointer (some ⟨Bx, 0, none⟩)] w fun e w' => e = .returned (.bool (!(p.toList == p0.toList))) ∧ Below w.heap.size w w' := by
  have z1 : (0 : Int) < (n : Int) := by omega
  have n1 := World.new_ne w _ h1
  have n2 := World.new_ne w _ h2
  go_enter Try.func27, Try.ntmps27
  go_wp2
  go_region_held3 (fun w' => w'.cell? ⟨w.heap.size, 0, none⟩ = some (.string p) ∧ w'.cell? ⟨Bx, 0, none⟩ = some (.slice (some ⟨g, 0, none⟩) n c) ∧ w'.cell? ⟨g, 0, none⟩ = some (.string p0)) (go_keep) (fail)
  go_wp2
  go_ret
  exact ⟨rfl, ((Below.refl _ _).alloc (Nat.le_refl _) _).drew⟩
theorem pred42 (p0 : ByteArray) (Bx g n c : Nat) (w : World) (hn : 0 < n) (hB : Bx < w.heap.size) (hg : g < w.heap.size)
    (h1 : w.cell? ⟨Bx, 0, none⟩ = some (.slice (some ⟨g, 0, none⟩) n c)) (h2 : w.cell? ⟨g, 0, none⟩ = some (.string p0)) :
    PredBelow Try.prog 27 #[.pointer (some ⟨Bx, 0, none⟩)] (fun x => .agg (encE x).toArray) (othP p0) w := fun W x hb => by
  refine (closure42 x.1 x.2.2.2 p0 x.2.1 x.2.2.1 Bx g n c W hn ((hb.cell (p := ⟨Bx, 0, none⟩) hB).trans h1) ((hb.cell (p := ⟨g, 0, none⟩) hg).trans h2)).mono ?_
  rintro e w' ⟨rfl, hb'⟩
  exact ⟨rfl, hb.trans (hb'.mono hb.size)⟩
def ofOne (zs : List Ed) : Int := if Lib.idxBy (fun _ y => othP zs[0]!.1 y) zs default < 0 then zs.length else Lib.idxBy (fun _ y => othP zs[0]!.1 y) zs default
set_option maxHeartbeats 1000000 in
theorem ofOnePath_any (g n c : Nat) (zs : List Ed) (w : World) (hn : n = zs.length) (h0 : 0 < n) (hsm : n ≤ 9223372036854775807) (hg : g < w.heap.size)
    (hc : ∀ j, j < zs.length → ∀ i v, (encE zs[j]!)[i]? = some v → w.cell? ⟨g, 0 + j * 4 + i, none⟩ = some v) :
    Calls Try.prog 15 #[.slice (some ⟨g, 0, none⟩) n c] w fun e w' => e = .returned (.int .i64 (ofOne zs)) ∧ Below w.heap.size w w' := by
  have h2 : w.cell? ⟨g, 0, none⟩ = some (.string zs[0]!.1) := hc 0 (by omega) 0 _ rfl
  have hcon := AnyQ.slices_IndexFunc Try.indexEd 4 Try.isAgg26 Try.sizeOf26 encE encE_len (othP zs[0]!.1) 27 #[.pointer (some ⟨w.heap.size, 0, none⟩)] eg42 g 0 n c zs (w.alloc (.cells #[.slice (some ⟨g, 0, none⟩) n c] 22))
    (pred42 zs[0]!.1 w.heap.size g n c _ h0 (by simp) (by simp; omega) (by simp) (Lib.cell?_alloc_some _ h2)) (by omega) hsm (by simp; omega) (fun j hj i v hi => Lib.cell?_alloc_some _ (hc j hj i v hi))
  change Calls Try.prog 26 _ _ _ at hcon
  have e : (ofOne zs) = if Lib.idxBy (fun _ y => othP zs[0]!.1 y) (zs.take n) default < 0 then (n : Int) else Lib.idxBy (fun _ y => othP zs[0]!.1 y) (zs.take n) default := by
    rw [hn, List.take_length]; rfl
  rw [e]
  clear e hc h2
  generalize Lib.idxBy (fun _ y => othP zs[0]!.1 y) (zs.take n) default = r at hcon ⊢
  have Hn : Hid (n = zs.length) := hn
  clear hn
  go_enter Try.func15, Try.ntmps15
  go_wp2_with fail
  refine hcon.mono ?_
  rintro e w1 ⟨rfl, hb1⟩
  have hcx : w1.cell? ⟨w.heap.size, 0, none⟩ = some (.slice (some ⟨g, 0, none⟩) n c) := by rw [hb1.cell (p := ⟨w.heap.size, 0, none⟩) (by simp)]; simp
  have hfin : Below w.heap.size w w1 := ((Below.refl _ w).alloc (Nat.le_refl _) _).trans (hb1.mono (by simp))
  clear hcon hb1
  go_wp2
  · go_ret
    exact ⟨rfl, hfin⟩
  · go_ret
    exact ⟨rfl, hfin⟩
end Go.Proofs.Ytbgkdofjndocfab
