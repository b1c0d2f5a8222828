/-
  The library's sort, search and clone contracts at slices of edits, and '==' of two edits.
-/
import Derived.Test.YtbgkdofjndocfabWalkA
import Derived.Test.YtbgkdofjndocfabShelf
import Derived.WalkKit
import Derived.WalkSpells
import Derived.WalkLawsBesides
import Derived.Deep.RegionHeld3
import Derived.Deep.DrawnRows
import Derived.Deep.QuietTactic
import Derived.BigQuiet
import Derived.Laws.StructEq
import Derived.Shelf.SlSortCmp.SmallK
namespace Go.Proofs.Ytbgkdofjndocfab
open Go.RowKit Go.Shelf Go.Lib Go.Sort
attribute [local go_sem ↓] Go.wp_at_zero Go.wp_at_succ
abbrev Ed := ByteArray × Int × Int × ByteArray
def encE (x : Ed) : List Value := [.string x.1, .int .i64 x.2.1, .int .i64 x.2.2.1, .string x.2.2.2]
theorem encE_len (x : Ed) : (encE x).length = 4 := rfl
theorem encE_one (x : Ed) (v : Value) (hv : v ∈ encE x) : v.oneCell' = true := by
  simp [encE] at hv; rcases hv with rfl | rfl | rfl | rfl <;> rfl
def cfE (x y : Ed) : Int := inOrd x.1 x.2.1 x.2.2.1 y.1 y.2.1 y.2.2.1
theorem cmpLaysE (blk off size : Nat) (w : World) : CmpLays Try.prog 21 #[] encE 4 cfE blk off size w := fun m os dk _ x y => by
  refine (inOrder_any x.1 x.2.2.2 y.1 y.2.2.2 x.2.1 x.2.2.1 y.2.1 y.2.2.1 _).mono ?_
  rintro e w' ⟨rfl, rfl⟩
  exact ⟨rfl, 1, _, by rw [alloc_eq_grow, alloc_eq_grow, alloc_eq_grow, grow_grow, grow_grow]; rfl⟩
theorem predNoSp (w : World) : PredBelow Try.prog 18 #[] (fun x => .agg (encE x).toArray) (fun x => noSp x.2.1 x.2.2.1) w := fun W x hb => by
  refine (noSpan_any x.1 x.2.2.2 x.2.1 x.2.2.1 W).mono ?_
  rintro e w' ⟨rfl, rfl⟩
  exact ⟨rfl, hb.alloc hb.size _⟩
theorem eg22 : ∀ args w, (callFunc 18 args).run Try.prog w = .ok (.enter 18 args) w := enters_of Try.func18 (by kernel_rfl) rfl
theorem eg25 : ∀ args w, (callFunc 21 args).run Try.prog w = .ok (.enter 21 args) w := enters_of Try.func21 (by kernel_rfl) rfl
theorem contains_any (b off n c : Nat) (zs : List Ed) (w : World) (hz : n ≤ zs.length) (hbig : n ≤ 9223372036854775807) (hb : b < w.heap.size)
    (hc : ∀ j, j < zs.length → ∀ i v, (encE zs[j]!)[i]? = some v → w.cell? ⟨b, off + j * 4 + i, none⟩ = some v) :
    Calls Try.prog 17 #[.slice (some ⟨b, off, none⟩) n c, .func (.func 18) #[] #[]] w fun e w' => e = .returned (.bool ((zs.take n).any fun x => noSp x.2.1 x.2.2.1)) ∧ Below w.heap.size w w' :=
  AnyQ.slices_ContainsFunc Try.containsEd 4 Try.isAgg26 Try.sizeOf26 encE encE_len (fun x => noSp x.2.1 x.2.2.1) 18 #[] eg22 b off n c zs w (predNoSp w) hz hbig hb hc
set_option maxRecDepth 100000 in
theorem cloneE_any (b off n c : Nat) (news : List Value) (w : World) (hl : news.length = n * 4) (hn : n ≤ maxLen) (hbig : n * 48 ≤ 140737488355328)
    (hc : ∀ j u, news[j]? = some u → w.cell? ⟨b, off + j, none⟩ = some u) (h1 : ∀ u ∈ news, u.oneCell' = true) :
    Calls Try.prog 19 #[.slice (some ⟨b, off, none⟩) n c] w fun e w' => ∃ v', e = .returned v' ∧ w'.ownsRow w.heap.size 26 4 v' n news ∧ v' ≠ .slice none 0 0 ∧ Below w.heap.size w w' :=
  AnyE.slices_Clone Try.cloneEd _ _ 4 48 rfl rfl rfl rfl rfl (by omega) Try.sizeOf26 b off n c news w hl hn hbig hc h1
theorem hlenE (n : Nat) (W : World) (h : n ≤ 12) : Calls Try.prog 30 #[.int .u64 n] W fun e w' => (∃ l : Int, e = .returned (.int .i64 l)) ∧ w' = W :=
  (Any.bits_Len Try.bitsLen n W (by omega) (by omega)).mono fun _ _ ⟨he, hw⟩ => ⟨⟨_, he⟩, hw⟩
theorem sortSmall_any (blk off cap : Nat) (d : Array Ed) (w : World) (hH : HoldsK encE 4 w blk off d) (hblk : blk < w.heap.size) (h12 : d.size ≤ 12) :
    Calls Try.prog 20 #[.slice (some ⟨blk, off, none⟩) d.size cap, .func (.func 21) #[] #[]] w fun e w' => e = .returned (.tuple #[]) ∧ ∃ n os, w' = sortWorldK encE 4 w blk off n (Sort.insertionSort (ltOf cfE) d 0 d.size) os :=
  AnyQ.slices_SortFunc_small Try.sortEd 4 Try.isAgg26 Try.sizeOf26 encE encE_len encE_one cfE 21 #[] blk off cap d w eg25 (cmpLaysE blk off d.size w) hH hblk h12 hlenE
theorem below_grow_ahead (w : World) (n : Nat) (os : Array Obj) : Go.RowKit.Below w.heap.size w (grow (Sort.ahead w n) os) :=
  ⟨rfl, rfl, rfl, by simp [grow, Sort.ahead], fun k hk => by simp [grow, Sort.ahead, Array.getElem?_append, hk]⟩
theorem ins2_same (x y : Ed) (h : ¬ cfE y x < 0) : Sort.insertionSort (ltOf cfE) #[x, y] 0 2 = #[x, y] := by
  unfold insertionSort
  rw [insOuter, if_pos (by omega), insOuter, if_neg (by omega)]
  simp [insInner, ltOf, h]
theorem sort2_any (blk cap : Nat) (x y : Ed) (w : World) (hH : HoldsK encE 4 w blk 0 #[x, y]) (hblk : blk < w.heap.size) (ho : ¬ cfE y x < 0) :
    Calls Try.prog 20 #[.slice (some ⟨blk, 0, none⟩) 2 cap, .func (.func 21) #[] #[]] w fun e w' => e = .returned (.tuple #[]) ∧ Below (w.heap.size) w w' := by
  refine (sortSmall_any blk 0 cap #[x, y] w hH hblk (by simp)).mono ?_
  rintro e w' ⟨rfl, n, os, rfl⟩
  refine ⟨rfl, ?_⟩
  rw [show (#[x, y] : Array Ed).size = 2 from rfl, ins2_same x y ho]
  unfold sortWorldK
  rw [putRowK_self encE 4 _ _ _ _ (holdsK_ahead encE 4 _ _ _ _ _ hH)]
  exact below_grow_ahead w n os
def eqE (x y : Ed) : Bool := x.1.toList == y.1.toList && x.2.1 == y.2.1 && x.2.2.1 == y.2.2.1 && x.2.2.2.toList == y.2.2.2.toList
theorem eqEd : EqlAt Try.prog 26 (fun x => .agg (encE x).toArray) eqE := by
  refine ⟨fun x y w => ?_, GuardAt.agg _ (by kernel_rfl)⟩
  have u3 := Try.underlying3
  have a3 := Try.isAgg3
  have z3 := Try.sizeOf3
  have u9 := Try.underlying9
  have a9 := Try.isAgg9
  have z9 := Try.sizeOf9
  have hS : Try.prog.underlying 26 = some (.struct (Try.prog.fieldsOf 26)) := by kernel_rfl
  have hp : Try.prog.stoodInHeld 26 = false := by kernel_rfl
  simp only [encE]
  rw [run_eql_struct, show (10000 : Nat) = 9999 + 1 from rfl, run_equalIn_agg w 9999 26 _ _ hS hp]
  simp only [Program.fieldsOf, Try.underlying26, eqE]
  go_simp
  by_cases h1 : x.1.toList = y.1.toList <;> by_cases h2 : x.2.1 = y.2.1 <;> by_cases h3 : x.2.2.1 = y.2.2.1 <;> by_cases h4 : x.2.2.2.toList = y.2.2.2.toList <;> simp [h1, h2, h3, h4]
end Go.Proofs.Ytbgkdofjndocfab
