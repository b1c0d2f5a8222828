/-
  recastlaw11.param, walked.
-/
import Derived.Test.YtcmnhkopmkaiaaaUnk
import Derived.Test.YtcmnhkopmkaiaaaFrh
namespace Go.Proofs.Ytcmnhkopmkaiaaa
open Go.RowKit
attribute [local go_sem ↓] Go.wp_at_zero Go.wp_at_succ
theorem run_pc (q : Nat) (hq : q ≤ 6) (W : World) (g : Nat) (hg : W.heap[g]? = some (.cells #[.int .u8 (65 + (q : Int))] 5 (0, 0))) : (convert 41 9 (.slice (some ⟨g, 0, none⟩) 1 1)).run Try.prog W = .ok (.string ⟨#[UInt8.ofNat (65 + q)]⟩) W := by
  have h := run_convert_bytes_back (P := Try.prog) W 41 9 5 ⟨g, 0, none⟩ 1 [UInt8.ofNat (65 + q)] Try.underlying41 Try.underlying5 Try.underlying9 (fun j hj => by
    have hj' : j = 0 := by simpa using hj
    subst hj'
    rw [Addr.add_lit, Nat.zero_add, cell_of hg]
    have h9 : (65 + q) % 256 = 65 + q := Nat.mod_eq_of_lt (by omega)
    simp [h9])
  exact h
set_option maxRecDepth 100000 in
set_option maxHeartbeats 4000000 in
theorem param_any {B : BQ} {w : World} {c : Ty} {vn vm vk : Value} (q : Nat) (hq : q ≤ 6) (hp : Prt B w c vn vm vk) : Calls Try.prog 11 #[.int .i64 (q : Int), agT c vn vm vk] w fun e w' => ∃ nm, TyQ w (fun b => (B b ∧ b < w.heap.size) ∨ w.heap.size ≤ b) (.mk 9 nm (q : Int) false [] [] [c]) e w' := by
  obtain ⟨an, cn, am, cm, ak, ck, rfl, rfl, rfl⟩ := hp.form
  have HP : Hid (Prt B w c (.slice an c.names.length cn) (.slice am c.marks.length cm) (.slice ak c.kids.length ck)) := hp
  clear hp
  unfold agT
  have hcv := run_pc q hq (((w.alloc (.cells #[.int .i64 c.kind, .string c.name, .int .i64 c.n, .bool c.flag, .slice an c.names.length cn, .slice am c.marks.length cm, .slice ak c.kids.length ck] 26)).alloc (.cells #[.int .i64 0, .string ⟨#[]⟩, .int .i64 0, .bool false, .slice none 0 0, .slice none 0 0, .slice none 0 0] 26)).alloc (.cells #[.int .u8 (65 + (q : Int))] 5)) (w.heap.size + 1 + 1) (by
    have := heap_new ((w.alloc (.cells #[.int .i64 c.kind, .string c.name, .int .i64 c.n, .bool c.flag, .slice an c.names.length cn, .slice am c.marks.length cm, .slice ak c.kids.length ck] 26)).alloc (.cells #[.int .i64 0, .string ⟨#[]⟩, .int .i64 0, .bool false, .slice none 0 0, .slice none 0 0, .slice none 0 0] 26)) (.cells #[.int .u8 (65 + (q : Int))] 5)
    rw [World.size_alloc, World.size_alloc] at this
    exact this)
  go_enter Try.func11, Try.ntmps11
  go_wp2_with fail
  clear hcv
  have hbl : Below w.heap.size w ((((w.alloc (.cells #[.int .i64 c.kind, .string c.name, .int .i64 c.n, .bool c.flag, .slice an c.names.length cn, .slice am c.marks.length cm, .slice ak c.kids.length ck] 26)).alloc (.cells #[.int .i64 9, .string ⟨#[65 + UInt8.ofNat q]⟩, .int .i64 (q : Int), .bool false, .slice none 0 0, .slice none 0 0, .slice (some ⟨w.heap.size + 1 + 1 + 1, 0, none⟩) 1 1] 26)).alloc (.cells #[.int .u8 (65 + (q : Int))] 5)).alloc (.cells #[.int .i64 c.kind, .string c.name, .int .i64 c.n, .bool c.flag, .slice an c.names.length cn, .slice am c.marks.length cm, .slice ak c.kids.length ck] 26)) := bthen (bthen (bthen (below_alloc _ _) (below_alloc _ _)) (below_alloc _ _)) (below_alloc _ _)
  have hR : ((((w.alloc (.cells #[.int .i64 c.kind, .string c.name, .int .i64 c.n, .bool c.flag, .slice an c.names.length cn, .slice am c.marks.length cm, .slice ak c.kids.length ck] 26)).alloc (.cells #[.int .i64 9, .string ⟨#[65 + UInt8.ofNat q]⟩, .int .i64 (q : Int), .bool false, .slice none 0 0, .slice none 0 0, .slice (some ⟨w.heap.size + 1 + 1 + 1, 0, none⟩) 1 1] 26)).alloc (.cells #[.int .u8 (65 + (q : Int))] 5)).alloc (.cells #[.int .i64 c.kind, .string c.name, .int .i64 c.n, .bool c.flag, .slice an c.names.length cn, .slice am c.marks.length cm, .slice ak c.kids.length ck] 26)).heap[w.heap.size + 1]? = some (.cells #[.int .i64 9, .string ⟨#[65 + UInt8.ofNat q]⟩, .int .i64 (q : Int), .bool false, .slice none 0 0, .slice none 0 0, .slice (some ⟨w.heap.size + 1 + 1 + 1, 0, none⟩) 1 1] 26 (0, 0)) := by
    have := blk_kept (bthen (below_alloc ((w.alloc (.cells #[.int .i64 c.kind, .string c.name, .int .i64 c.n, .bool c.flag, .slice an c.names.length cn, .slice am c.marks.length cm, .slice ak c.kids.length ck] 26)).alloc (.cells #[.int .i64 9, .string ⟨#[65 + UInt8.ofNat q]⟩, .int .i64 (q : Int), .bool false, .slice none 0 0, .slice none 0 0, .slice (some ⟨w.heap.size + 1 + 1 + 1, 0, none⟩) 1 1] 26)) (.cells #[.int .u8 (65 + (q : Int))] 5)) (below_alloc (((w.alloc (.cells #[.int .i64 c.kind, .string c.name, .int .i64 c.n, .bool c.flag, .slice an c.names.length cn, .slice am c.marks.length cm, .slice ak c.kids.length ck] 26)).alloc (.cells #[.int .i64 9, .string ⟨#[65 + UInt8.ofNat q]⟩, .int .i64 (q : Int), .bool false, .slice none 0 0, .slice none 0 0, .slice (some ⟨w.heap.size + 1 + 1 + 1, 0, none⟩) 1 1] 26)).alloc (.cells #[.int .u8 (65 + (q : Int))] 5)) (.cells #[.int .i64 c.kind, .string c.name, .int .i64 c.n, .bool c.flag, .slice an c.names.length cn, .slice am c.marks.length cm, .slice ak c.kids.length ck] 26))) (heap_new (w.alloc (.cells #[.int .i64 c.kind, .string c.name, .int .i64 c.n, .bool c.flag, .slice an c.names.length cn, .slice am c.marks.length cm, .slice ak c.kids.length ck] 26)) (.cells #[.int .i64 9, .string ⟨#[65 + UInt8.ofNat q]⟩, .int .i64 (q : Int), .bool false, .slice none 0 0, .slice none 0 0, .slice (some ⟨w.heap.size + 1 + 1 + 1, 0, none⟩) 1 1] 26))
    rw [World.size_alloc] at this
    exact this
  have hK : ((((w.alloc (.cells #[.int .i64 c.kind, .string c.name, .int .i64 c.n, .bool c.flag, .slice an c.names.length cn, .slice am c.marks.length cm, .slice ak c.kids.length ck] 26)).alloc (.cells #[.int .i64 9, .string ⟨#[65 + UInt8.ofNat q]⟩, .int .i64 (q : Int), .bool false, .slice none 0 0, .slice none 0 0, .slice (some ⟨w.heap.size + 1 + 1 + 1, 0, none⟩) 1 1] 26)).alloc (.cells #[.int .u8 (65 + (q : Int))] 5)).alloc (.cells #[.int .i64 c.kind, .string c.name, .int .i64 c.n, .bool c.flag, .slice an c.names.length cn, .slice am c.marks.length cm, .slice ak c.kids.length ck] 26)).heap[w.heap.size + 1 + 1 + 1]? = some (.cells #[.int .i64 c.kind, .string c.name, .int .i64 c.n, .bool c.flag, .slice an c.names.length cn, .slice am c.marks.length cm, .slice ak c.kids.length ck] 26 (0, 0)) := by
    have := heap_new (((w.alloc (.cells #[.int .i64 c.kind, .string c.name, .int .i64 c.n, .bool c.flag, .slice an c.names.length cn, .slice am c.marks.length cm, .slice ak c.kids.length ck] 26)).alloc (.cells #[.int .i64 9, .string ⟨#[65 + UInt8.ofNat q]⟩, .int .i64 (q : Int), .bool false, .slice none 0 0, .slice none 0 0, .slice (some ⟨w.heap.size + 1 + 1 + 1, 0, none⟩) 1 1] 26)).alloc (.cells #[.int .u8 (65 + (q : Int))] 5)) (.cells #[.int .i64 c.kind, .string c.name, .int .i64 c.n, .bool c.flag, .slice an c.names.length cn, .slice am c.marks.length cm, .slice ak c.kids.length ck] 26)
    rw [World.size_alloc, World.size_alloc, World.size_alloc] at this
    exact this
  obtain ⟨c0, c1, c2, c3, c4, c5, c6⟩ := bx7 hK
  have hz : ((((w.alloc (.cells #[.int .i64 c.kind, .string c.name, .int .i64 c.n, .bool c.flag, .slice an c.names.length cn, .slice am c.marks.length cm, .slice ak c.kids.length ck] 26)).alloc (.cells #[.int .i64 9, .string ⟨#[65 + UInt8.ofNat q]⟩, .int .i64 (q : Int), .bool false, .slice none 0 0, .slice none 0 0, .slice (some ⟨w.heap.size + 1 + 1 + 1, 0, none⟩) 1 1] 26)).alloc (.cells #[.int .u8 (65 + (q : Int))] 5)).alloc (.cells #[.int .i64 c.kind, .string c.name, .int .i64 c.n, .bool c.flag, .slice an c.names.length cn, .slice am c.marks.length cm, .slice ak c.kids.length ck] 26)).heap.size = w.heap.size + 4 := by simp
  refine bodyPost_ret (v := .agg #[.int .i64 9, .string ⟨#[65 + UInt8.ofNat q]⟩, .int .i64 (q : Int), .bool false, .slice none 0 0, .slice none 0 0, .slice (some ⟨w.heap.size + 1 + 1 + 1, 0, none⟩) 1 1]) (results_cell rfl rfl (resT hR)) rfl ⟨⟨#[65 + UInt8.ofNat q]⟩, hbl, _, _, _, rfl, .inl ⟨none, 0, rfl, rfl⟩, .inl ⟨none, 0, rfl, rfl⟩, .inr ⟨w.heap.size + 1 + 1 + 1, 0, 1, rfl, by simp [Ty.kids], by rw [hz]; omega, .inr (by omega), liesT_cons.2 ⟨?_, liesT_nil⟩⟩⟩
  have hpk := HP.out.with (B' := fun b => (B b ∧ b < w.heap.size) ∨ w.heap.size ≤ b) (fun b h1 h2 => .inl ⟨h2, h1⟩)
  exact lies_iff.2 ⟨c0, c1, c2, c3, _, _, _, c4, c5, c6, hpk.kept hbl⟩
end Go.Proofs.Ytcmnhkopmkaiaaa

