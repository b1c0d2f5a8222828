/-
  The methods of parts: rank, holds.
-/
import Derived.Test.YtleiohccaagalaaGreatRed3
namespace Go.Proofs.YtleiohccaagalaaGreat
open Go.RowKit
attribute [local go_sem ↓] Go.wp_at_zero Go.wp_at_succ
/-- a call through the interface part comes to function K at receiver x' -/
structure Mth (p : Pt) (nm : String) (t : TypeId) (x : Value) (K : FuncId) (x' : Value) : Prop where
  e : enc p = .iface t x
  m : ∀ w : World, (method 236 t x nm).run Tryz.prog w = .ok (K, x') w
  c : ∀ (args : Array Value) (w : World), (callFunc K args).run Tryz.prog w = .ok (.enter K args) w
/-- a slice reads as these texts -/
structure TxV (w : World) (a : Option Addr) (n c : Nat) (l : List Bs) : Prop where
  len : n = l.length
  cap : n ≤ c
  at_ : (a = none ∧ l = []) ∨ ∃ g o, a = some ⟨g, o, none⟩ ∧ ∀ i t, l[i]? = some t → w.cell? ⟨g, o + i, none⟩ = some (.string (bs t))
theorem TxV.kept {w w' : World} {a : Option Addr} {n c : Nat} {l : List Bs} (h : TxV w a n c l) (k : ∀ x v, w.cell? x = some v → w'.cell? x = some v) : TxV w' a n c l :=
  ⟨h.len, h.cap, h.at_.imp id fun ⟨g, o, e, hc⟩ => ⟨g, o, e, fun i t ht => k _ _ (hc i t ht)⟩⟩
theorem TxV.whole {w w' : World} {a : Option Addr} {n c : Nat} {l : List Bs} (h : TxV w a n c l) (k : Below w.heap.size w w') : TxV w' a n c l := h.kept fun _ _ hc => kept_cell k hc
theorem cell_new2 (w : World) (v u : Value) (T : TypeId) : (w.alloc (.cells #[v, u] T)).cell? ⟨w.heap.size, 1, none⟩ = some u := by
  simp only [World.cell?, Go.heap_alloc_new]; rfl
theorem cell_new21 (w : World) (v u : Value) (T : TypeId) : (w.alloc (.cells #[v, u] T)).cell? ⟨w.heap.size, 0, none⟩ = some v := by
  simp only [World.cell?, Go.heap_alloc_new]; rfl
theorem bs_app (a b : Bs) : bs a ++ bs b = bs (a ++ b) := ByteArray.mk_append_mk a b
theorem contains_any {w : World} {a : Option Addr} {n c : Nat} {l : List Bs} (h : TxV w a n c l) (hn : n ≤ 9223372036854775807) (s : Bs) : Calls Tryz.prog 119 #[.slice a n c, .string (bs s)] w fun e w' => e = .returned (.bool (l.contains s)) ∧ w' = w := by
  obtain rfl := h.len
  cases l with
  | nil => exact Tryz.slices_Contains_empty (α := Nat) a c _ w
  | cons t r =>
    obtain ⟨g, o, rfl, hc⟩ := h.at_.resolve_left (fun h => by cases h.2)
    have h1 := Tryz.slices_Contains Value.string (fun x y => x.toList == y.toList) (Go.Proofs.EqlAt.string _ _) g o (t :: r).length c ((t :: r).map bs) (bs s) w (by simp) hn (fun j hj => by
      have hj' : j < (t :: r).length := by simpa using hj
      rw [hc j (t :: r)[j] (List.getElem?_eq_getElem hj'), getElem!_pos _ j hj, List.getElem_map])
    refine h1.mono ?_
    rintro e w' ⟨rfl, rfl⟩
    refine ⟨ret_bool ?_, rfl⟩
    rw [List.take_of_length_le (by simp), List.any_map, List.contains_eq_any_beq]
    congr 1
    funext y
    simp only [Function.comp, bs_toList]
theorem mth_holds (p : Pt) : ∃ t x K x', Mth p "recast/tags.holds" t x K x' ∧ (match p with | .yes => K = 99 ∧ x' = .agg #[] | .tag s => K = 115 ∧ x' = .string (bs s) | .not q => K = 111 ∧ x' = .agg #[enc q] | .both l r => K = 108 ∧ x' = .agg #[enc l, enc r] | .either l r => K = 105 ∧ x' = .agg #[enc l, enc r]) := by
  cases p with
  | yes => exact ⟨_, _, _, _, ⟨rfl, fun _ => by kernel_rfl, fun _ _ => by kernel_rfl⟩, rfl, rfl⟩
  | tag s => exact ⟨_, _, _, _, ⟨rfl, fun _ => by kernel_rfl, fun _ _ => by kernel_rfl⟩, rfl, rfl⟩
  | not q => exact ⟨_, _, _, _, ⟨rfl, fun _ => by kernel_rfl, fun _ _ => by kernel_rfl⟩, rfl, rfl⟩
  | both l r => exact ⟨_, _, _, _, ⟨rfl, fun _ => by kernel_rfl, fun _ _ => by kernel_rfl⟩, rfl, rfl⟩
  | either l r => exact ⟨_, _, _, _, ⟨rfl, fun _ => by kernel_rfl, fun _ _ => by kernel_rfl⟩, rfl, rfl⟩
set_option maxRecDepth 100000 in
set_option maxHeartbeats 4000000 in
theorem holds_any (p : Pt) : ∃ t x K x', Mth p "recast/tags.holds" t x K x' ∧ ∀ (w : World) a n c l, TxV w a n c l → n ≤ 9223372036854775807 → Calls Tryz.prog K #[x', .slice a n c] w fun e w' => e = .returned (.bool (p.holds l)) ∧ Below w.heap.size w w' := by
  induction p with
  | yes =>
    obtain ⟨_, _, _, _, hm, rfl, rfl⟩ := mth_holds .yes
    refine ⟨_, _, _, _, hm, ?_⟩
    clear hm
    intro w a n c l _ _
    go_enter Tryz.func99, Tryz.ntmps99
    go_wp2_with fail
    go_ret
    exact ⟨rfl, (Below.refl _ _).alloc (Nat.le_refl _) _⟩
  | tag s =>
    obtain ⟨_, _, _, _, hm, rfl, rfl⟩ := mth_holds (.tag s)
    refine ⟨_, _, _, _, hm, ?_⟩
    clear hm
    intro w a n c l hT hn
    have h1 := contains_any hT hn s
    rw [show (Pt.tag s).holds l = l.contains s from rfl]
    generalize l.contains s = b at *
    clear hT
    go_enter Tryz.func115, Tryz.ntmps115
    go_wp2_with (go_at_call 119; refine h1.mono ?_; rintro e w1 ⟨rfl, hw1⟩; obtain rfl := hw1.symm)
    go_ret
    exact ⟨rfl, Below.refl _ _⟩
  | not q ih =>
    obtain ⟨_, _, _, _, hm, rfl, rfl⟩ := mth_holds (.not q)
    refine ⟨_, _, _, _, hm, ?_⟩
    clear hm
    intro w a n c L hT hn
    obtain ⟨tq, xq, Kq, yq, hmq, hq⟩ := ih
    rw [hmq.e]
    have mq := hmq.m
    have cq := hmq.c
    have hP : (Pt.not q).holds L = !q.holds L := rfl
    rw [hP]
    have h1 := fun W (h : Below w.heap.size w W) => hq W a n c L (hT.whole h) hn
    have H1 : Hid _ := h1
    clear hmq hT hq hP h1
    generalize q.holds L = b at *
    go_enter Tryz.func111, Tryz.ntmps111
    go_wp2_with fail
    have hb0 : Below w.heap.size w (w.alloc (.cells #[.iface tq xq] 104)) := (Below.refl _ _).alloc (Nat.le_refl _) _
    refine (H1.out _ hb0).mono ?_
    rintro e w1 ⟨rfl, hb1⟩
    have HB : Hid (Below w.heap.size w w1) := hb0.trans (hb1.mono (by simp))
    clear hb0 hb1
    go_wp2_with fail
    go_ret
    exact ⟨rfl, HB.out⟩
  | both l r ihl ihr =>
    obtain ⟨_, _, _, _, hm, rfl, rfl⟩ := mth_holds (.both l r)
    refine ⟨_, _, _, _, hm, ?_⟩
    clear hm
    intro w a n c L hT hn
    obtain ⟨tl, xl, Kl, yl, hml, hl⟩ := ihl
    obtain ⟨tr, xr, Kr, yr, hmr, hr⟩ := ihr
    rw [hml.e, hmr.e]
    have ml := hml.m
    have cl := hml.c
    have mr := hmr.m
    have cr := hmr.c
    have hl1 := fun W (h : Below w.heap.size w W) => hl W a n c L (hT.whole h) hn
    have hr1 := fun W (h : Below w.heap.size w W) => hr W a n c L (hT.whole h) hn
    have hP : (Pt.both l r).holds L = (l.holds L && r.holds L) := rfl
    rw [hP]
    clear hml hmr hT hl hr hP
    generalize l.holds L = bl at *
    generalize r.holds L = br at *
    have HL : Hid _ := hl1
    have HR : Hid _ := hr1
    clear hl1 hr1
    cases bl with
    | false =>
      go_enter Tryz.func108, Tryz.ntmps108
      go_wp2_with fail
      have hb0 : Below w.heap.size w (w.alloc (.cells #[.iface tl xl, .iface tr xr] 88)) := (Below.refl _ _).alloc (Nat.le_refl _) _
      refine (HL.out _ hb0).mono ?_
      rintro e w1 ⟨rfl, hb1⟩
      have HB : Hid (Below w.heap.size w w1) := hb0.trans (hb1.mono (by simp))
      clear hb0 hb1
      go_wp2_with fail
      go_ret
      exact ⟨rfl, HB.out⟩
    | true =>
      go_enter Tryz.func108, Tryz.ntmps108
      go_wp2_with fail
      have hb0 : Below w.heap.size w (w.alloc (.cells #[.iface tl xl, .iface tr xr] 88)) := (Below.refl _ _).alloc (Nat.le_refl _) _
      refine (HL.out _ hb0).mono ?_
      rintro e w1 ⟨rfl, hb1⟩
      have c1 : w1.cell? ⟨w.heap.size, 1, none⟩ = some (.iface tr xr) := kept_cell hb1 (cell_new2 _ _ _ _)
      have hz1 := hb1.size
      have HB : Hid (Below w.heap.size w w1) := hb0.trans (hb1.mono (by simp))
      clear hb0 hb1
      go_wp2_with fail
      refine (HR.out _ HB.out).mono ?_
      rintro e w2 ⟨rfl, hb2⟩
      have HB2 : Hid (Below w.heap.size w w2) := HB.out.trans (hb2.mono (by simp at hz1; omega))
      clear hb2
      go_wp2_with fail
      go_ret
      exact ⟨rfl, HB2.out⟩
  | either l r ihl ihr =>
    obtain ⟨_, _, _, _, hm, rfl, rfl⟩ := mth_holds (.either l r)
    refine ⟨_, _, _, _, hm, ?_⟩
    clear hm
    intro w a n c L hT hn
    obtain ⟨tl, xl, Kl, yl, hml, hl⟩ := ihl
    obtain ⟨tr, xr, Kr, yr, hmr, hr⟩ := ihr
    rw [hml.e, hmr.e]
    have ml := hml.m
    have cl := hml.c
    have mr := hmr.m
    have cr := hmr.c
    have hl1 := fun W (h : Below w.heap.size w W) => hl W a n c L (hT.whole h) hn
    have hr1 := fun W (h : Below w.heap.size w W) => hr W a n c L (hT.whole h) hn
    have hP : (Pt.either l r).holds L = (l.holds L || r.holds L) := rfl
    rw [hP]
    clear hml hmr hT hl hr hP
    generalize l.holds L = bl at *
    generalize r.holds L = br at *
    have HL : Hid _ := hl1
    have HR : Hid _ := hr1
    clear hl1 hr1
    cases bl with
    | true =>
      go_enter Tryz.func105, Tryz.ntmps105
      go_wp2_with fail
      have hb0 : Below w.heap.size w (w.alloc (.cells #[.iface tl xl, .iface tr xr] 80)) := (Below.refl _ _).alloc (Nat.le_refl _) _
      refine (HL.out _ hb0).mono ?_
      rintro e w1 ⟨rfl, hb1⟩
      have HB : Hid (Below w.heap.size w w1) := hb0.trans (hb1.mono (by simp))
      clear hb0 hb1
      go_wp2_with fail
      go_ret
      exact ⟨rfl, HB.out⟩
    | false =>
      go_enter Tryz.func105, Tryz.ntmps105
      go_wp2_with fail
      have hb0 : Below w.heap.size w (w.alloc (.cells #[.iface tl xl, .iface tr xr] 80)) := (Below.refl _ _).alloc (Nat.le_refl _) _
      refine (HL.out _ hb0).mono ?_
      rintro e w1 ⟨rfl, hb1⟩
      have c1 : w1.cell? ⟨w.heap.size, 1, none⟩ = some (.iface tr xr) := kept_cell hb1 (cell_new2 _ _ _ _)
      have hz1 := hb1.size
      have HB : Hid (Below w.heap.size w w1) := hb0.trans (hb1.mono (by simp))
      clear hb0 hb1
      go_wp2_with fail
      refine (HR.out _ HB.out).mono ?_
      rintro e w2 ⟨rfl, hb2⟩
      have HB2 : Hid (Below w.heap.size w w2) := HB.out.trans (hb2.mono (by simp at hz1; omega))
      clear hb2
      go_wp2_with fail
      go_ret
      exact ⟨rfl, HB2.out⟩
end Go.Proofs.YtleiohccaagalaaGreat
