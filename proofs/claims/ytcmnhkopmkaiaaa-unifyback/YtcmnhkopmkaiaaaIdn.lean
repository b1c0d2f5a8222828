/-
  types.Identical: the step, walked.
-/
import Derived.Test.YtcmnhkopmkaiaaaAlb
import Derived.Test.YtcmnhkopmkaiaaaRid
import Derived.Test.YtcmnhkopmkaiaaaWkr
import Derived.Test.YtcmnhkopmkaiaaaSbp
import Derived.Deep.RegionLaw
namespace Go.Proofs.Ytcmnhkopmkaiaaa
open Go.RowKit
attribute [local go_sem ↓] Go.wp_at_zero Go.wp_at_succ
/-- where the kids of two types stand, side by side -/
def kidR (b o b' o' n : Nat) : List ElR := (List.range n).map fun i => (⟨b, o + i * 7, none⟩, ⟨b', o' + i * 7, none⟩)
theorem kidR_len (b o b' o' n : Nat) : (kidR b o b' o' n).length = n := by simp [kidR]
theorem kidR_succ (b o b' o' n : Nat) : (kidR b o b' o' (n + 1)).flatMap ecR = (kidR b o b' o' n).flatMap ecR ++ [.pointer (some ⟨b, o + n * 7, none⟩), .pointer (some ⟨b', o' + n * 7, none⟩)] := by simp [kidR, List.range_succ, ecR]
/-- what the step answers -/
structure I1Q (w : World) (al : Bool) (l : List ElR) (e : Ending) (w' : World) : Prop where
  bl : Below w.heap.size w w'
  no : al = false → e = .returned (.tuple #[.slice none 0 0, .bool false])
  yes : al = true → ∃ a c, e = .returned (.tuple #[.slice a l.length c, .bool true]) ∧ w'.ownsRow w.heap.size 44 2 (.slice a l.length c) l.length (l.flatMap ecR)
theorem int_bne' {a b : Int} (h : a ≠ b) : (a != b) = true := by simpa using h
theorem int_beq' (a : Int) : (a != a) = false := by simp
set_option maxRecDepth 100000 in
set_option maxHeartbeats 4000000 in
theorem idn1_any {B B' : BQ} {w : World} {x y : Ty} {b o b' o' kb ko kb' ko' ck ck' : Nat} {ak ak' : Option Addr} (h : x.lies B w b o) (h' : y.lies B' w b' o') (c6 : w.cell? ⟨b, o + 6, none⟩ = some (.slice ak x.kids.length ck)) (d6 : w.cell? ⟨b', o' + 6, none⟩ = some (.slice ak' y.kids.length ck'))
    (ha : 0 < x.kids.length → ak = some ⟨kb, ko, none⟩) (ha' : 0 < y.kids.length → ak' = some ⟨kb', ko', none⟩) (hn : x.kids.length ≤ 1000000) :
    Calls Try.prog 23 #[.agg #[pv ⟨b, o, none⟩, pv ⟨b', o', none⟩]] w (I1Q w (x.alk y) (if x.kind = 9 then [] else kidR kb ko kb' ko' x.kids.length)) := by
  have hb1 : Below w.heap.size w (w.alloc (.cells #[pv ⟨b, o, none⟩, pv ⟨b', o', none⟩] 44)) := below_alloc _ _
  have hk1 : Kx (fun _ => False) w (w.alloc (.cells #[pv ⟨b, o, none⟩, pv ⟨b', o', none⟩] 44)) := Kx.of_whole hb1
  have hal := alike_any (lies_to hk1 (fun _ _ h => h) (fun _ _ _ h => h) _ _ _ (fun h => h) h) (lies_to hk1 (fun _ _ h => h) (fun _ _ _ h => h) _ _ _ (fun h => h) h')
  have hnew := heap_new w (.cells #[pv ⟨b, o, none⟩, pv ⟨b', o', none⟩] 44)
  have p0 := cell_of hnew 0
  have p1 := cell_of hnew 1
  simp only [List.getElem?_toArray, List.getElem?_cons_zero, List.getElem?_cons_succ] at p0 p1
  have c0 := kept_cell hb1 (lies_iff.1 h).1
  have q6 := kept_cell hb1 c6
  have r6 := kept_cell hb1 d6
  have hLk : x.alk y = true → x.kind ≠ 9 → x.kids.length = y.kids.length := fun h9 h8 => by
    unfold Ty.alk at h9
    obtain ⟨_, _, _, h9⟩ := of_decide_eq_true h9
    exact (h9.resolve_left h8).2.2.2
  have HLk : Hid (x.alk y = true → x.kind ≠ 9 → x.kids.length = y.kids.length) := hLk
  clear hLk
  obtain ⟨i0, hi, hz0, hz1, hz2⟩ := infoR_ex
  have HB1 : Hid (Below w.heap.size w (w.alloc (.cells #[pv ⟨b, o, none⟩, pv ⟨b', o', none⟩] 44))) := hb1
  clear h h' c6 d6 hk1 hnew hb1
  generalize hAL : x.alk y = al at *
  clear hAL
  generalize x.kids.length = n at *
  generalize y.kids.length = n' at *
  generalize x.kind = k at *
  have hsz : (w.alloc (.cells #[pv ⟨b, o, none⟩, pv ⟨b', o', none⟩] 44)).heap.size = w.heap.size + 1 := by simp
  cases al with
  | false =>
    generalize (if k = 9 then [] else kidR kb ko kb' ko' n) = L at *
    go_enter Try.func23, Try.ntmps23
    go_wp2_with (go_at_call 24; refine hal.mono ?_; rintro e w2 ⟨rfl, q, rfl⟩; clear hal)
    go_ret2
    exact ⟨bthen HB1.out (below_dn _ _), fun _ => rfl, (fun h => by cases h)⟩
  | true =>
    by_cases h9 : k = 9
    · subst h9
      go_enter Try.func23, Try.ntmps23
      go_wp2_with (go_at_call 24; refine hal.mono ?_; rintro e w2 ⟨rfl, q, rfl⟩; clear hal)
      go_loopg [4, 5] 0 (fun g u4 u5 wr => u4 = .slice none 0 0 ∧ wr = (w.alloc (.cells #[pv ⟨b, o, none⟩, pv ⟨b', o', none⟩] 44)).drewN q)
      case atStart => exact ⟨rfl, rfl⟩
      case round =>
        obtain ⟨rfl, rfl⟩ := hrel
        go_wp2_with fail
        go_ret2
        exact ⟨bthen HB1.out (below_dn _ _), (fun h => by cases h), fun _ => ⟨none, 0, rfl, World.ownsRow_nil _ _ _ _⟩⟩
    · have hnn := HLk.out rfl h9
      subst hnn
      have k9 := int_bne h9
      have k9b := int_bne' h9
      rw [if_neg h9]
      have HP0 : Hid _ := p0
      have HP1 : Hid _ := p1
      have HC0 : Hid _ := c0
      have HQ6 : Hid _ := q6
      have HR6 : Hid _ := r6
      clear HLk h9
      go_enter Try.func23, Try.ntmps23
      go_wp2_with (go_at_call 24; refine hal.mono ?_; rintro e w2 ⟨rfl, q, rfl⟩; clear hal)
      generalize hW1 : w.alloc (.cells #[pv ⟨b, o, none⟩, pv ⟨b', o', none⟩] 44) = W1 at *
      clear hW1 p0 p1 c0 q6 r6
      go_loopg [4, 5] n (fun g u4 u5 wr => ∃ (i : Nat) (a9 : Option Addr) (c9 : Nat), i ≤ n ∧ n - i ≤ g ∧ u5 = .int .i64 i ∧ u4 = .slice a9 i c9 ∧ Hid (wr.ownsRow (w.heap.size + 1) 44 2 (.slice a9 i c9) i ((kidR kb ko kb' ko' i).flatMap ecR)) ∧ Hid (Below W1.heap.size W1 wr))
      case atStart => exact ⟨0, none, 0, Nat.zero_le _, Nat.le_refl _, rfl, rfl, World.ownsRow_nil _ _ _ _, below_dn _ _⟩
      case round =>
        obtain ⟨i, a9, c9, hi9, hg, rfl, rfl, HO, HB⟩ := hrel
        have p0 := kept_cell HB.out HP0.out
        have p1 := kept_cell HB.out HP1.out
        have c0 := kept_cell HB.out HC0.out
        have q6 := kept_cell HB.out HQ6.out
        have r6 := kept_cell HB.out HR6.out
        have hszr := HB.out.size
        by_cases hlt : i < n
        · obtain rfl := ha (by omega)
          obtain rfl := ha' (by omega)
          have z1 : (i : Int) < (n : Int) := by omega
          have z0 : (0 : Int) ≤ (i : Int) := by omega
          have z2 : decide ((i : Int) < (n : Int)) = true := by simp [z1]
          go_wp2_with fail
          go_region_law
            (refine step_append_lies _ (by rfl) _ _ _ (by rfl) (w.heap.size + 1) 44 i0 (.agg #[.pointer none, .pointer none]) 2 16 Try.underlying45 hi hz0 hz1 hz2 rfl (by omega) (.slice a9 i c9) i ((kidR kb ko kb' ko' i).flatMap ecR) (by rfl) (own_kept HO.out (bthen (below_drew1 _) (below_alloc _ _))) ⟨wr.heap.size, 0, none⟩ 1 1 [.pointer (some ⟨kb, ko + i * 7, none⟩), .pointer (some ⟨kb', ko' + i * 7, none⟩)] (by rfl) (by rfl) (World.news_of_block (heap_alloc_new wr.drew _)) (by simp [Value.oneCell']) (by omega) (by unfold maxLen; omega) (by omega) (by simp; omega) (wr.heap.size + 1) (by simp) ?_; intro gg cap w9 hown1 hgrow hat hlt1; have HO9 : Hid (w9.ownsRow (w.heap.size + 1) 44 2 (.slice (some ⟨gg, 0, none⟩) (i + 1) cap) (i + 1) ((kidR kb ko kb' ko' i).flatMap ecR ++ [.pointer (some ⟨kb, ko + i * 7, none⟩), .pointer (some ⟨kb', ko' + i * 7, none⟩)])) := hown1; have HG9 : Hid _ := hgrow; clear hown1 hgrow hat)
          all_goals
            go_wp2_with fail
            go_roundg (n - (i + 1))
            case measure => omega
            case rel =>
              refine ⟨i + 1, _, _, by omega, Nat.le_refl _, by go_num, rfl, by rw [kidR_succ]; exact HO9, ?_⟩
              exact (HB.out.trans ((bthen (below_alloc wr _) (below_drew1 _)).mono hszr)).grown HG9.out (by simp; omega) (fun j ej => by have := (HO.out.lt j ej).1; omega)
        · obtain rfl : i = n := by omega
          have z1 : ¬ (i : Int) < (i : Int) := by omega
          go_wp2_with fail
          go_ret2
          refine ⟨bthen HB1.out HB.out, (fun h => by cases h), fun _ => ⟨a9, c9, by rw [kidR_len]; rfl, by rw [kidR_len]; exact ownsRow_down HO.out (by omega)⟩⟩
end Go.Proofs.Ytcmnhkopmkaiaaa

