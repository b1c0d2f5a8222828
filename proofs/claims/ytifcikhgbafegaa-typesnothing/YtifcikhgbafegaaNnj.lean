/-
  The step of Comparable, walked.
-/
import Derived.Test.YtifcikhgbafegaaNnB
import Derived.Test.YtifcikhgbafegaaNnE
import Derived.Deep.RegionLaw
namespace Go.Proofs.Ytifcikhgbafegaa
open Go.RowKit
attribute [local go_sem ↓] Go.wp_at_zero Go.wp_at_succ
set_option maxRecDepth 100000 in
set_option maxHeartbeats 2000000 in
theorem cl_pass {w : World} {b o : Nat} {k : Int} {f : Bool} {p q : Value} {R : Option Addr → Nat → Nat → World → Prop} (h0 : w.cell? ⟨b, o, none⟩ = some (.int .i64 k)) (h8 : k ≠ 8) (hc : Calls Try.prog 75 #[pv ⟨b, o, none⟩] w fun e w' => ∃ a n c, e = .returned (.tuple #[.slice a n c, .bool f]) ∧ R a n c w') :
    Calls Try.prog 74 #[pv ⟨b, o, none⟩, p, q] w fun e w' => ∃ a n c, e = .returned (.tuple #[.slice a n c, .bool f]) ∧ R a n c w' := by
  have z8 : (k != 8) = true := by simpa using h8
  go_enter Try.func74, Try.ntmps74
  go_wp2_with (go_at_call 75; refine hc.mono ?_; rintro e x1 ⟨a, n, c, rfl, hr⟩; have HR : Hid (R a n c x1) := hr; clear hr hc)
  exact bodyPost_ret (results_two rfl rfl rfl) rfl ⟨_, _, _, rfl, HR.out⟩
theorem cell_map {W : World} {a o M c : Nat} {v : Value} {es : Array MapEntry} (h : W.cell? ⟨a, o, none⟩ = some v) (hM : W.heap[M]? = some (.map es c)) : a ≠ M := by
  rintro rfl
  simp [World.cell?, hM] at h
theorem Kx.alloc1 {X : Nat → Prop} {A B : World} (h : Kx X A B) (o : Obj) : Kx X A (B.alloc o) := h.trans (Kx.of_whole (below_alloc _ _))
theorem Kx.set1 {X : Nat → Prop} {A B : World} {b i : Nat} {v : Value} (h : Kx X A B) (hb : A.heap.size ≤ b) : Kx X A (B.setCell ⟨b, i, none⟩ v) :=
  h.andThen (kx_set (B := b)) (fun _ _ h => h) (fun c hc e => by have e : c = b := e; omega)
theorem merge {P G : Prop} (f : P → G) (p : P) : G := f p
set_option maxRecDepth 100000 in
set_option maxHeartbeats 4000000 in
theorem cl_named {w : World} {b o MB WB M V : Nat} {s : ByteArray} (h0 : w.cell? ⟨b, o, none⟩ = some (.int .i64 8)) (h1 : w.cell? ⟨b, o + 1, none⟩ = some (.string s)) (hm : w.cell? ⟨MB, 0, none⟩ = some (.map (some M))) (hM : w.heap[M]? = some (.map #[] 0)) (hw : w.cell? ⟨WB, 0, none⟩ = some (.pointer (some ⟨V, 0, none⟩))) (hv : w.cell? ⟨V, 0, none⟩ = some (.map none)) :
    Calls Try.prog 74 #[pv ⟨b, o, none⟩, .pointer (some ⟨MB, 0, none⟩), .pointer (some ⟨WB, 0, none⟩)] w fun e w' => ∃ a n c, e = .returned (.tuple #[.slice a n c, .bool false]) ∧ Kx (· = M) w w' := by
  have hb1 : Below w.heap.size w w.drew := below_drew1 _
  have hb2 : Below w.heap.size w (w.alloc (.cells #[] 114)).drew := bthen (below_alloc _ _) (below_drew1 _)
  have hl1 := look_met (blk_kept hb1 hM) s
  have hl2 := look_met (blk_kept hb2 hM) s
  have HB2 : Hid (Below w.heap.size w (w.alloc (.cells #[] 114)).drew) := hb2
  clear hb1 hb2
  have a1 := kept_cell (below_alloc w (.cells #[] 114)) h1
  have am := kept_cell (below_alloc w (.cells #[] 114)) hm
  have aw := kept_cell (below_alloc w (.cells #[] 114)) hw
  have av := kept_cell (below_alloc w (.cells #[] 114)) hv
  go_enter Try.func74, Try.ntmps74
  go_wp2_with fail
  apply merge
  · intro key
    go_region_law (fail)
    all_goals exact key
  have HKW : Hid (Kx (· = M) w (w.alloc (.cells #[] 114)).drew) := Kx.of_whole HB2.out
  have b1 := kept_cell HB2.out h1
  have bm := kept_cell HB2.out hm
  have bw := kept_cell HB2.out hw
  have bv := kept_cell HB2.out hv
  have bM := blk_kept HB2.out hM
  clear h0 h1 hm hw hv hM hl1 hl2 HB2 a1 am aw av
  generalize (w.alloc (.cells #[] 114)).drew = X1 at *
  obtain ⟨x5, hup, hkx⟩ := put_met (blk_kept (below_drew1 X1) bM) s
  have c1 := hkx.cell (kept_cell (below_drew1 X1) b1) (cell_map b1 bM)
  have cw := hkx.cell (kept_cell (below_drew1 X1) bw) (cell_map bw bM)
  have cv := hkx.cell (kept_cell (below_drew1 X1) bv) (cell_map bv bM)
  have HK5 : Hid (Kx (· = M) w x5) := (HKW.out.trans (Kx.of_whole (below_drew1 X1))).trans hkx
  clear hkx bM HKW
  go_wp2_with fail
  apply merge
  · intro key
    go_region_law (fail)
    all_goals exact key
  have d1 := kept_cell (below_alloc x5 (.cells #[.string ⟨#[]⟩, .int .i64 0, .string ⟨#[]⟩, .int .i64 0, .bool false, .slice none 0 0, .slice none 0 0, .slice none 0 0, .slice none 0 0] 48)) c1
  have dw := kept_cell (below_alloc x5 (.cells #[.string ⟨#[]⟩, .int .i64 0, .string ⟨#[]⟩, .int .i64 0, .bool false, .slice none 0 0, .slice none 0 0, .slice none 0 0, .slice none 0 0] 48)) cw
  have dv := kept_cell (below_alloc x5 (.cells #[.string ⟨#[]⟩, .int .i64 0, .string ⟨#[]⟩, .int .i64 0, .bool false, .slice none 0 0, .slice none 0 0, .slice none 0 0, .slice none 0 0] 48)) cv
  have HSZ : Hid (w.heap.size ≤ x5.heap.size) := HK5.out.size
  have HN5 : Hid ((x5.alloc (.cells #[.string ⟨#[]⟩, .int .i64 0, .string ⟨#[]⟩, .int .i64 0, .bool false, .slice none 0 0, .slice none 0 0, .slice none 0 0, .slice none 0 0] 48)).heap[x5.heap.size]? = some (.cells #[.string ⟨#[]⟩, .int .i64 0, .string ⟨#[]⟩, .int .i64 0, .bool false, .slice none 0 0, .slice none 0 0, .slice none 0 0, .slice none 0 0] 48 (0, 0))) := heap_new x5 _
  go_wp2_with fail
  go_region_law
    (go_simp; go_wp2_with (go_at_call 67; refine (find_none _ _).mono ?_; rintro e x6 ⟨rfl, hq⟩; first | (have HB6 : Hid (Below x5.heap.size x5 x6) := bthen (below_drew1 _) hq; clear hq) | (have k8 := bthen (below_drew1 _) hq; have k9 := bx9 (blk_kept k8 HN5.out); have k9f := bx9f (blk_kept k8 HN5.out); have HB6 : Hid (Below x5.heap.size x5 x6) := bthen (below_alloc _ _) k8; clear hq k8)))
  all_goals
    go_wp2_with fail
    refine bodyPost_ret (results_two rfl rfl rfl) rfl ⟨_, _, _, rfl, ?_⟩
    have hX6 : Kx (· = M) w x6 := HK5.out.trans (Kx.of_whole HB6.out)
    have hsz := HSZ.out
    clear HK5 HB6 HN5 HSZ
    first
    | (with_reducible exact (hX6.alloc1 _).alloc1 _)
    | (with_reducible exact ((((((((((hX6.set1 hsz).set1 hsz).set1 hsz).set1 hsz).set1 hsz).set1 hsz).set1 hsz).set1 hsz).set1 hsz).alloc1 _))
end Go.Proofs.Ytifcikhgbafegaa
