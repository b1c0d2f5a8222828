/-
  spans.replaced and spans.joined: the text with each sorted span of it replaced by its edit's text.
-/
import Derived.Test.YtbgkdofjndocfabWalkB
import Derived.Deep.AppendLies
import Derived.Deep.Onto
namespace Go.Proofs.Ytbgkdofjndocfab
open Go.RowKit
attribute [local go_sem ↓] Go.wp_at_zero Go.wp_at_succ
def pcs (s : ByteArray) : Nat → List Ed → List ByteArray
  | _, [] => []
  | d, x :: r => s.extract d x.2.1.toNat :: x.2.2.2 :: pcs s x.2.2.1.toNat r
def lastTo : Nat → List Ed → Nat
  | d, [] => d
  | _, x :: r => lastTo x.2.2.1.toNat r
def okE (s : ByteArray) : Nat → List Ed → Prop
  | d, [] => d ≤ s.size
  | d, x :: r => (d : Int) ≤ x.2.1 ∧ x.2.1 ≤ x.2.2.1 ∧ x.2.2.1 ≤ s.size ∧ okE s x.2.2.1.toNat r
theorem pcs_append (s : ByteArray) (x : Ed) : ∀ (d : Nat) (l : List Ed), pcs s d (l ++ [x]) = pcs s d l ++ [s.extract (lastTo d l) x.2.1.toNat, x.2.2.2]
  | _, [] => rfl
  | d, y :: r => by simp [pcs, lastTo, pcs_append s x _ r]
theorem lastTo_append (x : Ed) : ∀ (d : Nat) (l : List Ed), lastTo d (l ++ [x]) = x.2.2.1.toNat
  | _, [] => rfl
  | d, y :: r => by simp [lastTo, lastTo_append x _ r]
theorem pcs_length (s : ByteArray) : ∀ (d : Nat) (l : List Ed), (pcs s d l).length = 2 * l.length
  | _, [] => rfl
  | d, y :: r => by simp [pcs, pcs_length s _ r]; omega
theorem okE_at (s : ByteArray) : ∀ (l : List Ed) (d : Nat) (k : Nat) (h : k < l.length), okE s d l → (lastTo d (l.take k) : Int) ≤ l[k].2.1 ∧ l[k].2.1 ≤ l[k].2.2.1 ∧ l[k].2.2.1 ≤ s.size
  | [], _, _, h, _ => by simp at h
  | x :: r, d, 0, _, ⟨h1, h2, h3, _⟩ => ⟨h1, h2, h3⟩
  | x :: r, d, k + 1, h, ⟨_, _, _, h4⟩ => by
    have := okE_at s r x.2.2.1.toNat k (by simpa using h) h4
    simpa [lastTo] using this
theorem okE_last (s : ByteArray) : ∀ (l : List Ed) (d : Nat), okE s d l → lastTo d l ≤ s.size
  | [], _, h => h
  | _ :: r, _, ⟨_, _, _, h4⟩ => okE_last s r _ h4
theorem snocE (l : List Ed) (k : Nat) (h : k < l.length) : l.take (k + 1) = l.take k ++ [l[k]] := by
  rw [List.take_succ_eq_append_getElem h]
set_option maxRecDepth 100000 in
theorem info9_ex : ∃ i0, Try.prog.info? 9 = some i0 ∧ i0.zero = some (.string ⟨#[]⟩) ∧ i0.size = 1 ∧ i0.bytes = 16 := ⟨_, rfl, rfl, rfl, rfl⟩
set_option maxHeartbeats 400000 in
theorem joined_any (bk c n : Nat) (xs : List ByteArray) (w : World) (hn : xs.length = n) (hcells : ∀ (j : Nat) x, xs[j]? = some x → w.cell? ⟨bk, 0 + j, none⟩ = some (.string x)) (hbk : bk < w.heap.size) (hN : xs.length ≤ 140737488355328) (hcap : xs.length ≤ c) (hlen : (Lib.join (xs.map (·.data.toList)) []).length ≤ 140737488355328) :
    Calls Try.prog 28 #[.slice (some ⟨bk, 0, none⟩) n c] w fun e w' => e = .returned (.string ⟨(Lib.join (xs.map (·.data.toList)) []).toArray⟩) ∧ Below w.heap.size w w' := by
  have h := Try.strings_Join bk 0 c xs ⟨#[]⟩ w hcells hbk hN hcap hlen
  have e : ((⟨#[]⟩ : ByteArray).data.toList) = [] := rfl
  rw [e] at h
  rw [hn] at h
  clear hcells hlen hN hcap hn
  generalize (Lib.join (xs.map (·.data.toList)) []).toArray = r at *
  go_enter Try.func28, Try.ntmps28
  go_wp2_with fail
  refine h.mono ?_
  rintro e w' ⟨rfl, hb⟩
  go_wp2
  go_ret
  exact ⟨rfl, hb⟩
theorem news_top (w : World) (A : Obj) (u v : Value) : ∀ j x, [u, v][j]? = some x → ((w.alloc A).alloc (.cells #[u, v] 9)).drew.cell? ((⟨w.heap.size + 1, 0, none⟩ : Addr).add j) = some x := by
  have h := heap_alloc_new (w.alloc A) (.cells #[u, v] 9)
  rw [World.size_alloc] at h
  exact World.news_of_block (w := ((w.alloc A).alloc (.cells #[u, v] 9)).drew) h
theorem news_top1 (w : World) (u : Value) : ∀ j x, [u][j]? = some x → (w.alloc (.cells #[u] 9)).cell? ((⟨w.heap.size, 0, none⟩ : Addr).add j) = some x :=
  World.news_of_block (w := w.alloc (.cells #[u] 9)) (heap_alloc_new w (.cells #[u] 9))
set_option maxRecDepth 100000 in
set_option maxHeartbeats 1000000 in
theorem replaced_any (s : ByteArray) (g c n : Nat) (zs : List Ed) (w : World) (hn : n = zs.length) (hg : g < w.heap.size) (_hs : s.size ≤ maxLen) (hsm : zs.length ≤ 1000000000)
    (hc : ∀ j (h : j < zs.length), w.cell? ⟨g, j * 4, none⟩ = some (.string zs[j].1) ∧ w.cell? ⟨g, j * 4 + 1, none⟩ = some (.int .i64 zs[j].2.1) ∧ w.cell? ⟨g, j * 4 + 2, none⟩ = some (.int .i64 zs[j].2.2.1) ∧ w.cell? ⟨g, j * 4 + 3, none⟩ = some (.string zs[j].2.2.2))
    (hok : okE s 0 zs) (hlen : (Lib.join ((pcs s 0 zs ++ [s.extract (lastTo 0 zs) s.size]).map (·.data.toList)) []).length ≤ 140737488355328) :
    Calls Try.prog 16 #[.string s, .slice (some ⟨g, 0, none⟩) n c] w fun e w' => e = .returned (.string ⟨(Lib.join ((pcs s 0 zs ++ [s.extract (lastTo 0 zs) s.size]).map (·.data.toList)) []).toArray⟩) ∧ Below w.heap.size w w' := by
  have HC : Hid (∀ j (h : j < zs.length), w.cell? ⟨g, j * 4, none⟩ = some (.string zs[j].1) ∧ w.cell? ⟨g, j * 4 + 1, none⟩ = some (.int .i64 zs[j].2.1) ∧ w.cell? ⟨g, j * 4 + 2, none⟩ = some (.int .i64 zs[j].2.2.1) ∧ w.cell? ⟨g, j * 4 + 3, none⟩ = some (.string zs[j].2.2.2)) := hc
  have HOK : Hid (okE s 0 zs) := hok
  have HLN : Hid ((Lib.join ((pcs s 0 zs ++ [s.extract (lastTo 0 zs) s.size]).map (·.data.toList)) []).length ≤ 140737488355328) := hlen
  clear hlen
  unfold maxLen at _hs
  clear hc hok
  have Hn : Hid (n = zs.length) := hn
  have hn1 : n ≤ zs.length := by omega
  have hn2 : zs.length ≤ n := by omega
  clear hn
  obtain ⟨info9, info9_is, info9_zero, info9_size, info9_bytes⟩ := info9_ex
  have HI : Hid (Try.prog.info? 9 = some info9 ∧ info9.zero = some (.string ⟨#[]⟩) ∧ info9.size = 1 ∧ info9.bytes = 16) := ⟨info9_is, info9_zero, info9_size, info9_bytes⟩
  clear info9_is info9_zero info9_size info9_bytes
  go_enter Try.func16, Try.ntmps16
  go_wp2_with fail
  go_loopw [5, 6, 11] (fun v d i w' => ∃ k : Nat, k ≤ n ∧ i = .int .i64 k ∧ d = .int .i64 (lastTo 0 (zs.take k)) ∧ w'.ownsRow w.heap.size 9 1 v (2 * k) ((pcs s 0 (zs.take k)).map .string) ∧ Below w.heap.size w w') (fun _ _ i _ => n - (intOf i).toNat)
  case atStart => exact ⟨0, by omega, rfl, rfl, World.ownsRow_nil _ _ _ _, Below.refl _ _⟩
  case round =>
    obtain ⟨k, hk, rfl, rfl, hown, hbl⟩ := hrel
    by_cases hlt : k < n
    · have hkz : k < zs.length := by omega
      obtain ⟨q0, q1, q2, q3⟩ := HC.out k hkz
      have hx := okE_at s zs 0 k hkz HOK.out
      have HS : Hid (zs.take (k + 1) = zs.take k ++ [zs[k]]) := snocE zs k hkz
      generalize zs[k] = x at *
      obtain ⟨p, a, b, t⟩ := x
      obtain ⟨hx1, hx2, hx3⟩ := hx
      have r0 := (hbl.cell (p := ⟨g, k * 4, none⟩) hg).trans q0
      have r1 := (hbl.cell (p := ⟨g, k * 4 + 1, none⟩) hg).trans q1
      have r2 := (hbl.cell (p := ⟨g, k * 4 + 2, none⟩) hg).trans q2
      have r3 := (hbl.cell (p := ⟨g, k * 4 + 3, none⟩) hg).trans q3
      clear q0 q1 q2 q3
      simp only at hx1 hx2 hx3 r0 r1 r2 r3
      have HL : Hid (∀ d, lastTo 0 (zs.take k) = d → pcs s 0 (zs.take (k + 1)) = pcs s 0 (zs.take k) ++ [s.extract d a.toNat, t] ∧ lastTo 0 (zs.take (k + 1)) = b.toNat) := fun d hd => by
        rw [HS.out, pcs_append, lastTo_append, hd]; exact ⟨rfl, rfl⟩
      generalize hd : lastTo 0 (zs.take k) = d at *
      have HL' := HL.out d rfl
      have HLL : Hid (pcs s 0 (zs.take (k + 1)) = pcs s 0 (zs.take k) ++ [s.extract d a.toNat, t] ∧ lastTo 0 (zs.take (k + 1)) = b.toNat) := HL'
      clear HL HL' hd
      obtain ⟨A, rfl⟩ : ∃ A : Nat, a = A := ⟨a.toNat, by omega⟩
      have z1 : (0 : Int) ≤ (d : Int) := by omega
      have z2 : (0 : Int) ≤ (A : Int) := by omega
      have z3 : (A : Int) ≤ (s.size : Int) := by omega
      have hne : u5.ownBlock ≠ some wr.heap.size := fun h => by have := (hown.lt _ h).2; omega
      have HO : Hid (wr.ownsRow w.heap.size 9 1 u5 (2 * k) (List.map Value.string (pcs s 0 (List.take k zs)))) := hown
      have HB : Hid (Below w.heap.size w wr) := hbl
      have hz := hbl.size
      clear hown hbl
      go_wp2_with fail
      clear r0 r1 r2 r3
      go_region_held3 (fun w' => w'.cell? ⟨wr.heap.size, 1, none⟩ = some (.int .i64 A) ∧ w'.cell? ⟨wr.heap.size, 2, none⟩ = some (.int .i64 b) ∧ w'.cell? ⟨wr.heap.size, 3, none⟩ = some (.string t))
        (first
          | go_keep
          | (go_split_ands
             refine ⟨?_, ?_, ?_⟩
             · (rw [hgrow.cell_far _ (by simp; omega) (Ne.symm hne)]; assumption)
             · (rw [hgrow.cell_far _ (by simp; omega) (Ne.symm hne)]; assumption)
             · (rw [hgrow.cell_far _ (by simp; omega) (Ne.symm hne)]; assumption)))
        ((refine step_append_lies _ (by rfl) _ _ _ (by rfl) w.heap.size 9 info9 _ 1 16 Try.underlying56 HI.out.1 HI.out.2.1 HI.out.2.2.1 HI.out.2.2.2 rfl (by omega) u5 (2 * k) _ (by rfl) (((HO.out.alloc _).alloc _).drew)
            ⟨wr.heap.size + 1, 0, none⟩ 2 2 [.string (s.extract d A), .string t] (by rfl) (by rfl) (news_top wr _ _ _) (by simp [Value.oneCell'])
            (by omega) (by unfold maxLen; omega) (by omega) (by simp; omega) (wr.heap.size + 1 + 1) (by simp) ?_; intro gg cap w1 hown1 hgrow hat hlt1))
      go_wp2_with fail
      refine ⟨⟨k + 1, by omega, by go_num, by rw [HLL.out.2, Int.toNat_of_nonneg (by omega)], ?_, ?_⟩, by simp [intOf]; omega⟩
      · rw [HLL.out.1, List.map_append, Int.toNat_natCast]; exact hown1
      · exact (((HB.out.alloc hz _).alloc (by simp; omega) _).drew).grown hgrow (by simp; omega) (fun k hk => (HO.out.lt k hk).1)
    · have ht : zs.take k = zs := List.take_of_length_le (by omega)
      have hkn : 2 * k = 2 * zs.length := by omega
      rw [ht] at hown
      generalize hd : lastTo 0 (zs.take k) = d at *
      rw [ht] at hd
      have hlast := okE_last s zs 0 HOK.out
      rw [hd] at hlast
      have HD : Hid (lastTo 0 zs = d) := hd
      have HK : Hid (2 * k = 2 * zs.length) := hkn
      have HO : Hid (wr.ownsRow w.heap.size 9 1 u5 (2 * k) (List.map Value.string (pcs s 0 zs))) := hown
      have HB : Hid (Below w.heap.size w wr) := hbl
      have hz := hbl.size
      clear hd hown hbl ht hkn
      go_wp2_with (at_builtin; refine wpList_append_lies _ rfl _ _ _ rfl w.heap.size 9 info9 _ 1 16 Try.underlying56 HI.out.1 HI.out.2.1 HI.out.2.2.1 HI.out.2.2.2 rfl (by omega) u5 (2 * k) _ rfl (HO.out.alloc _) ⟨wr.heap.size, 0, none⟩ 1 1 [.string (s.extract d s.size)] rfl rfl (news_top1 wr _) (by simp [Value.oneCell']) (by omega) (by unfold maxLen; omega) (by omega) (by simp; omega) (wr.heap.size + 1) (by simp) ?_; intro gg cap w1 hown1 hgrow hat hlt1)
      have hcap : 2 * k + 1 ≤ cap := by rcases hown1.2 with ⟨h, _⟩ | ⟨g', cap', cur, h, _, _, h2, _⟩ <;> simp at h; omega
      have h43 := joined_any gg cap (2 * k + 1) (pcs s 0 zs ++ [s.extract d s.size]) w1 (by simp [pcs_length, HK.out])
        (fun j x hj => by
          rw [Nat.zero_add, hown1.cellAt j (by have := (List.getElem?_eq_some_iff.1 hj).1; simp [pcs_length] at this; have := HK.out; omega)]
          rw [show (List.map Value.string (pcs s 0 zs) ++ [Value.string (s.extract d s.size)]) = (pcs s 0 zs ++ [s.extract d s.size]).map Value.string by simp, List.getElem?_map, hj]; rfl)
        hlt1 (by simp [pcs_length]; have := HK.out; omega) (by simp [pcs_length]; have := HK.out; omega) (by have := HLN.out; rw [HD.out] at this; exact this)
      refine h43.mono ?_
      rintro e w2 ⟨rfl, hb2⟩
      clear h43
      have hb1 : Below w.heap.size w w1 := (HB.out.alloc hz _).grown hgrow (by simp; omega) (fun k hk => (HO.out.lt k hk).1)
      have hfin : Below w.heap.size w w2 := hb1.trans (hb2.mono hb1.size)
      clear hb1 hb2
      generalize hr : (Lib.join (List.map (fun x => x.data.toList) (pcs s 0 zs ++ [s.extract d s.size])) []).toArray = r
      have HR : Hid ((Lib.join (List.map (fun x => x.data.toList) (pcs s 0 zs ++ [s.extract d s.size])) []).toArray = r) := hr
      clear hr
      go_wp2
      go_ret
      refine ⟨?_, hfin⟩
      rw [HD.out, HR.out]
      rfl
end Go.Proofs.Ytbgkdofjndocfab
