/-
  Edits of one path: how many, and the text with them made, wherever they lie; what a text is with sorted spans replaced, from the front and from the back.
-/
import Derived.Test.YtbgkdofjndocfabMoved
import Derived.Test.YtbgkdofjndocfabWalkW
namespace Go.Proofs.Ytbgkdofjndocfab
open Go.RowKit Go.Maps
attribute [local go_sem ↓] Go.wp_at_zero Go.wp_at_succ
set_option maxHeartbeats 1000000 in
theorem closure42o (p t p0 : ByteArray) (a b : Int) (Bx g o n c : Nat) (w : World) (hn : 0 < n)
    (h1 : w.cell? ⟨Bx, 0, none⟩ = some (.slice (some ⟨g, o, none⟩) n c)) (h2 : w.cell? ⟨g, o, none⟩ = some (.string p0)) :
    Calls Try.prog 27 #[.agg #[.string p, .int .i64 a, .int .i64 b, .string t], .pointer (some ⟨Bx, 0, none⟩)] w fun e w' => e = .returned (.bool (!(p.toList == p0.toList))) ∧ Below w.heap.size w w' := by
  have z1 : (0 : Int) < (n : Int) := by omega
  have n1 := World.new_ne w _ h1
  have n2 := World.new_ne w _ h2
  go_enter Try.func27, Try.ntmps27
  go_wp2
  go_region_held3 (fun w' => w'.cell? ⟨w.heap.size, 0, none⟩ = some (.string p) ∧ w'.cell? ⟨Bx, 0, none⟩ = some (.slice (some ⟨g, o, none⟩) n c) ∧ w'.cell? ⟨g, o, none⟩ = some (.string p0)) (go_keep) (fail)
  go_wp2
  go_ret
  exact ⟨rfl, ((Below.refl _ _).alloc (Nat.le_refl _) _).drew⟩
theorem pred42o (p0 : ByteArray) (Bx g o n c : Nat) (w : World) (hn : 0 < n) (hB : Bx < w.heap.size) (hg : g < w.heap.size)
    (h1 : w.cell? ⟨Bx, 0, none⟩ = some (.slice (some ⟨g, o, none⟩) n c)) (h2 : w.cell? ⟨g, o, none⟩ = some (.string p0)) :
    PredBelow Try.prog 27 #[.pointer (some ⟨Bx, 0, none⟩)] (fun x => .agg (encE x).toArray) (othP p0) w := fun W x hb => by
  refine (closure42o x.1 x.2.2.2 p0 x.2.1 x.2.2.1 Bx g o n c W hn ((hb.cell (p := ⟨Bx, 0, none⟩) hB).trans h1) ((hb.cell (p := ⟨g, o, none⟩) hg).trans h2)).mono ?_
  rintro e w' ⟨rfl, hb'⟩
  exact ⟨rfl, hb.trans (hb'.mono hb.size)⟩
set_option maxHeartbeats 1000000 in
theorem ofOnePath_off (g o n c : Nat) (zs : List Ed) (w : World) (hn : n = zs.length) (h0 : 0 < n) (hsm : n ≤ 9223372036854775807) (hg : g < w.heap.size)
    (hc : ∀ j, j < zs.length → ∀ i v, (encE zs[j]!)[i]? = some v → w.cell? ⟨g, o + j * 4 + i, none⟩ = some v) :
    Calls Try.prog 15 #[.slice (some ⟨g, o, none⟩) n c] w fun e w' => e = .returned (.int .i64 (ofOne zs)) ∧ Below w.heap.size w w' := by
  have h2 : w.cell? ⟨g, o, none⟩ = some (.string zs[0]!.1) := hc 0 (by omega) 0 _ rfl
  have hcon := AnyQ.slices_IndexFunc Try.indexEd 4 Try.isAgg26 Try.sizeOf26 encE encE_len (othP zs[0]!.1) 27 #[.pointer (some ⟨w.heap.size, 0, none⟩)] eg42 g o n c zs (w.alloc (.cells #[.slice (some ⟨g, o, none⟩) n c] 22))
    (pred42o zs[0]!.1 w.heap.size g o n c _ h0 (by simp) (by simp; omega) (by simp) (Lib.cell?_alloc_some _ h2)) (by omega) hsm (by simp; omega) (fun j hj i v hi => Lib.cell?_alloc_some _ (hc j hj i v hi))
  change Calls Try.prog 26 _ _ _ at hcon
  have e : (ofOne zs) = if Lib.idxBy (fun _ y => othP zs[0]!.1 y) (zs.take n) default < 0 then (n : Int) else Lib.idxBy (fun _ y => othP zs[0]!.1 y) (zs.take n) default := by
    rw [hn, List.take_length]; rfl
  rw [e]
  clear e hc h2
  generalize Lib.idxBy (fun _ y => othP zs[0]!.1 y) (zs.take n) default = r at hcon ⊢
  have Hn : Hid (n = zs.length) := hn
  clear hn
  go_enter Try.func15, Try.ntmps15
  go_wp2_with fail
  refine hcon.mono ?_
  rintro e w1 ⟨rfl, hb1⟩
  have hcx : w1.cell? ⟨w.heap.size, 0, none⟩ = some (.slice (some ⟨g, o, none⟩) n c) := by rw [hb1.cell (p := ⟨w.heap.size, 0, none⟩) (by simp)]; simp
  have hfin : Below w.heap.size w w1 := ((Below.refl _ w).alloc (Nat.le_refl _) _).trans (hb1.mono (by simp))
  clear hcon hb1
  go_wp2
  · go_ret
    exact ⟨rfl, hfin⟩
  · go_ret
    exact ⟨rfl, hfin⟩
set_option maxRecDepth 100000 in
set_option maxHeartbeats 1000000 in
theorem replaced_off (s : ByteArray) (g o c n : Nat) (zs : List Ed) (w : World) (hn : n = zs.length) (hg : g < w.heap.size) (_hs : s.size ≤ maxLen) (hsm : zs.length ≤ 1000000000)
    (hc : ∀ j (h : j < zs.length), w.cell? ⟨g, o + j * 4, none⟩ = some (.string zs[j].1) ∧ w.cell? ⟨g, o + j * 4 + 1, none⟩ = some (.int .i64 zs[j].2.1) ∧ w.cell? ⟨g, o + j * 4 + 2, none⟩ = some (.int .i64 zs[j].2.2.1) ∧ w.cell? ⟨g, o + j * 4 + 3, none⟩ = some (.string zs[j].2.2.2))
    (hok : okE s 0 zs) (hlen : (Lib.join ((pcs s 0 zs ++ [s.extract (lastTo 0 zs) s.size]).map (·.data.toList)) []).length ≤ 140737488355328) :
    Calls Try.prog 16 #[.string s, .slice (some ⟨g, o, none⟩) n c] w fun e w' => e = .returned (.string ⟨(Lib.join ((pcs s 0 zs ++ [s.extract (lastTo 0 zs) s.size]).map (·.data.toList)) []).toArray⟩) ∧ Below w.heap.size w w' := by
  have HC : Hid (∀ j (h : j < zs.length), w.cell? ⟨g, o + j * 4, none⟩ = some (.string zs[j].1) ∧ w.cell? ⟨g, o + j * 4 + 1, none⟩ = some (.int .i64 zs[j].2.1) ∧ w.cell? ⟨g, o + j * 4 + 2, none⟩ = some (.int .i64 zs[j].2.2.1) ∧ w.cell? ⟨g, o + j * 4 + 3, none⟩ = some (.string zs[j].2.2.2)) := hc
  have HOK : Hid (okE s 0 zs) := hok
  have HLN : Hid ((Lib.join ((pcs s 0 zs ++ [s.extract (lastTo 0 zs) s.size]).map (·.data.toList)) []).length ≤ 140737488355328) := hlen
  clear hlen
  unfold maxLen at _hs
  clear hc hok
  have Hn : Hid (n = zs.length) := hn
  have hn1 : n ≤ zs.length := by omega
  have hn2 : zs.length ≤ n := by omega
  clear hn
  obtain ⟨info9, info9_is, info9_zero, info9_size, info9_bytes⟩ := info9_ex
  have HI : Hid (Try.prog.info? 9 = some info9 ∧ info9.zero = some (.string ⟨#[]⟩) ∧ info9.size = 1 ∧ info9.bytes = 16) := ⟨info9_is, info9_zero, info9_size, info9_bytes⟩
  clear info9_is info9_zero info9_size info9_bytes
  go_enter Try.func16, Try.ntmps16
  go_wp2_with fail
  go_loopw [5, 6, 11] (fun v d i w' => ∃ k : Nat, k ≤ n ∧ i = .int .i64 k ∧ d = .int .i64 (lastTo 0 (zs.take k)) ∧ w'.ownsRow w.heap.size 9 1 v (2 * k) ((pcs s 0 (zs.take k)).map .string) ∧ Below w.heap.size w w') (fun _ _ i _ => n - (intOf i).toNat)
  case atStart => exact ⟨0, by omega, rfl, rfl, World.ownsRow_nil _ _ _ _, Below.refl _ _⟩
  case round =>
    obtain ⟨k, hk, rfl, rfl, hown, hbl⟩ := hrel
    by_cases hlt : k < n
    · have hkz : k < zs.length := by omega
      obtain ⟨q0, q1, q2, q3⟩ := HC.out k hkz
      have hx := okE_at s zs 0 k hkz HOK.out
      have HS : Hid (zs.take (k + 1) = zs.take k ++ [zs[k]]) := snocE zs k hkz
      generalize zs[k] = x at *
      obtain ⟨p, a, b, t⟩ := x
      obtain ⟨hx1, hx2, hx3⟩ := hx
      have r0 := (hbl.cell (p := ⟨g, o + k * 4, none⟩) hg).trans q0
      have r1 := (hbl.cell (p := ⟨g, o + k * 4 + 1, none⟩) hg).trans q1
      have r2 := (hbl.cell (p := ⟨g, o + k * 4 + 2, none⟩) hg).trans q2
      have r3 := (hbl.cell (p := ⟨g, o + k * 4 + 3, none⟩) hg).trans q3
      clear q0 q1 q2 q3
      simp only at hx1 hx2 hx3 r0 r1 r2 r3
      have HL : Hid (∀ d, lastTo 0 (zs.take k) = d → pcs s 0 (zs.take (k + 1)) = pcs s 0 (zs.take k) ++ [s.extract d a.toNat, t] ∧ lastTo 0 (zs.take (k + 1)) = b.toNat) := fun d hd => by
        rw [HS.out, pcs_append, lastTo_append, hd]; exact ⟨rfl, rfl⟩
      generalize hd : lastTo 0 (zs.take k) = d at *
      have HL' := HL.out d rfl
      have HLL : Hid (pcs s 0 (zs.take (k + 1)) = pcs s 0 (zs.take k) ++ [s.extract d a.toNat, t] ∧ lastTo 0 (zs.take (k + 1)) = b.toNat) := HL'
      clear HL HL' hd
      obtain ⟨A, rfl⟩ : ∃ A : Nat, a = A := ⟨a.toNat, by omega⟩
      have z1 : (0 : Int) ≤ (d : Int) := by omega
      have z2 : (0 : Int) ≤ (A : Int) := by omega
      have z3 : (A : Int) ≤ (s.size : Int) := by omega
      have hne : u5.ownBlock ≠ some wr.heap.size := fun h => by have := (hown.lt _ h).2; omega
      have HO : Hid (wr.ownsRow w.heap.size 9 1 u5 (2 * k) (List.map Value.string (pcs s 0 (List.take k zs)))) := hown
      have HB : Hid (Below w.heap.size w wr) := hbl
      have hz := hbl.size
      clear hown hbl
      go_wp2_with fail
      clear r0 r1 r2 r3
      go_region_held3 (fun w' => w'.cell? ⟨wr.heap.size, 1, none⟩ = some (.int .i64 A) ∧ w'.cell? ⟨wr.heap.size, 2, none⟩ = some (.int .i64 b) ∧ w'.cell? ⟨wr.heap.size, 3, none⟩ = some (.string t))
        (first
          | go_keep
          | (go_split_ands
             refine ⟨?_, ?_, ?_⟩
             · (rw [hgrow.cell_far _ (by simp; omega) (Ne.symm hne)]; assumption)
             · (rw [hgrow.cell_far _ (by simp; omega) (Ne.symm hne)]; assumption)
             · (rw [hgrow.cell_far _ (by simp; omega) (Ne.symm hne)]; assumption)))
        ((refine step_append_lies _ (by rfl) _ _ _ (by rfl) w.heap.size 9 info9 _ 1 16 Try.underlying56 HI.out.1 HI.out.2.1 HI.out.2.2.1 HI.out.2.2.2 rfl (by omega) u5 (2 * k) _ (by rfl) (((HO.out.alloc _).alloc _).drew)
            ⟨wr.heap.size + 1, 0, none⟩ 2 2 [.string (s.extract d A), .string t] (by rfl) (by rfl) (news_top wr _ _ _) (by simp [Value.oneCell'])
            (by omega) (by unfold maxLen; omega) (by omega) (by simp; omega) (wr.heap.size + 1 + 1) (by simp) ?_; intro gg cap w1 hown1 hgrow hat hlt1))
      go_wp2_with fail
      refine ⟨⟨k + 1, by omega, by go_num, by rw [HLL.out.2, Int.toNat_of_nonneg (by omega)], ?_, ?_⟩, by simp [intOf]; omega⟩
      · rw [HLL.out.1, List.map_append, Int.toNat_natCast]; exact hown1
      · exact (((HB.out.alloc hz _).alloc (by simp; omega) _).drew).grown hgrow (by simp; omega) (fun k hk => (HO.out.lt k hk).1)
    · have ht : zs.take k = zs := List.take_of_length_le (by omega)
      have hkn : 2 * k = 2 * zs.length := by omega
      rw [ht] at hown
      generalize hd : lastTo 0 (zs.take k) = d at *
      rw [ht] at hd
      have hlast := okE_last s zs 0 HOK.out
      rw [hd] at hlast
      have HD : Hid (lastTo 0 zs = d) := hd
      have HK : Hid (2 * k = 2 * zs.length) := hkn
      have HO : Hid (wr.ownsRow w.heap.size 9 1 u5 (2 * k) (List.map Value.string (pcs s 0 zs))) := hown
      have HB : Hid (Below w.heap.size w wr) := hbl
      have hz := hbl.size
      clear hd hown hbl ht hkn
      go_wp2_with (at_builtin; refine wpList_append_lies _ rfl _ _ _ rfl w.heap.size 9 info9 _ 1 16 Try.underlying56 HI.out.1 HI.out.2.1 HI.out.2.2.1 HI.out.2.2.2 rfl (by omega) u5 (2 * k) _ rfl (HO.out.alloc _) ⟨wr.heap.size, 0, none⟩ 1 1 [.string (s.extract d s.size)] rfl rfl (news_top1 wr _) (by simp [Value.oneCell']) (by omega) (by unfold maxLen; omega) (by omega) (by simp; omega) (wr.heap.size + 1) (by simp) ?_; intro gg cap w1 hown1 hgrow hat hlt1)
      have hcap : 2 * k + 1 ≤ cap := by rcases hown1.2 with ⟨h, _⟩ | ⟨g', cap', cur, h, _, _, h2, _⟩ <;> simp at h; omega
      have h43 := joined_any gg cap (2 * k + 1) (pcs s 0 zs ++ [s.extract d s.size]) w1 (by simp [pcs_length, HK.out])
        (fun j x hj => by
          rw [Nat.zero_add, hown1.cellAt j (by have := (List.getElem?_eq_some_iff.1 hj).1; simp [pcs_length] at this; have := HK.out; omega)]
          rw [show (List.map Value.string (pcs s 0 zs) ++ [Value.string (s.extract d s.size)]) = (pcs s 0 zs ++ [s.extract d s.size]).map Value.string by simp, List.getElem?_map, hj]; rfl)
        hlt1 (by simp [pcs_length]; have := HK.out; omega) (by simp [pcs_length]; have := HK.out; omega) (by have := HLN.out; rw [HD.out] at this; exact this)
      refine h43.mono ?_
      rintro e w2 ⟨rfl, hb2⟩
      clear h43
      have hb1 : Below w.heap.size w w1 := (HB.out.alloc hz _).grown hgrow (by simp; omega) (fun k hk => (HO.out.lt k hk).1)
      have hfin : Below w.heap.size w w2 := hb1.trans (hb2.mono hb1.size)
      clear hb1 hb2
      generalize hr : (Lib.join (List.map (fun x => x.data.toList) (pcs s 0 zs ++ [s.extract d s.size])) []).toArray = r
      have HR : Hid ((Lib.join (List.map (fun x => x.data.toList) (pcs s 0 zs ++ [s.extract d s.size])) []).toArray = r) := hr
      clear hr
      go_wp2
      go_ret
      refine ⟨?_, hfin⟩
      rw [HD.out, HR.out]
      rfl
/-- The bytes from d on, with sorted spans replaced. -/
def repL (s : List UInt8) : Nat → List Ed → List UInt8
  | d, [] => s.drop d
  | d, x :: r => (s.drop d).take (x.2.1.toNat - d) ++ x.2.2.2.data.toList ++ repL s x.2.2.1.toNat r
/-- The same by the last span first. -/
def repR (s : List UInt8) : List Ed → List UInt8
  | [] => s
  | x :: r => (repR s r).take x.2.1.toNat ++ x.2.2.2.data.toList ++ (repR s r).drop x.2.2.1.toNat
theorem join_nil : ∀ xs : List (List UInt8), Lib.join xs [] = xs.flatten
  | [] => rfl
  | [x] => by simp [Lib.join, List.intercalate]
  | x :: y :: r => by
    have := join_nil (y :: r)
    simp [Lib.join, List.intercalate] at this ⊢
    exact this
theorem ext_list (s : ByteArray) (a b : Nat) : (s.extract a b).data.toList = (s.data.toList.drop a).take (b - a) := by
  rw [ByteArray.data_extract, Array.toList_extract, List.extract_eq_take_drop]
theorem join_repL (s : ByteArray) : ∀ (L : List Ed) (d : Nat), Lib.join ((pcs s d L ++ [s.extract (lastTo d L) s.size]).map (·.data.toList)) [] = repL s.data.toList d L
  | [], d => by
    rw [join_nil]
    simp only [pcs, lastTo, repL, List.nil_append, List.map_cons, List.map_nil, List.flatten_cons, List.flatten_nil, List.append_nil]
    rw [ext_list]
    exact List.take_of_length_le (by simp)
  | x :: r, d => by
    have ih := join_repL s r x.2.2.1.toNat
    rw [join_nil] at ih ⊢
    simp only [pcs, lastTo, repL, List.cons_append, List.map_cons, List.flatten_cons] at ih ⊢
    rw [ih, ext_list, List.append_assoc]
theorem repR_eq (s : ByteArray) : ∀ (L : List Ed) (d : Nat), okE s d L → repR s.data.toList L = s.data.toList.take d ++ repL s.data.toList d L
  | [], d, _ => by simp [repR, repL]
  | x :: r, d, ⟨h1, h2, h3, h4⟩ => by
    have ih := repR_eq s r x.2.2.1.toNat h4
    have hs : s.data.toList.length = s.size := rfl
    have hl : (s.data.toList.take x.2.2.1.toNat).length = x.2.2.1.toNat := by simp; omega
    rw [repR, ih, repL, List.take_append_of_le_length (by omega), List.take_take, show min x.2.1.toNat x.2.2.1.toNat = x.2.1.toNat by omega, List.drop_append_of_le_length (by omega), List.drop_eq_nil_of_le (by omega), List.nil_append, ← List.append_assoc, ← List.append_assoc]
    congr 2
    rw [← List.take_append_drop d (s.data.toList.take x.2.1.toNat), List.take_take, show min d x.2.1.toNat = d by omega, List.drop_take]
theorem repL_len (s : List UInt8) (M : Nat) (hs : s.length ≤ M) : ∀ (L : List Ed) (d : Nat), (∀ x ∈ L, x.2.2.2.size ≤ M) → (repL s d L).length ≤ (2 * L.length + 1) * M
  | [], d, _ => by simp [repL]; omega
  | x :: r, d, h => by
    have ih := repL_len s M hs r x.2.2.1.toNat fun y hy => h y (by simp [hy])
    have h1 : x.2.2.2.data.toList.length ≤ M := h x (by simp)
    simp only [repL, List.length_append, List.length_take, List.length_drop, List.length_cons]
    have e : (2 * (r.length + 1) + 1) * M = (2 * r.length + 1) * M + M + M := by
      rw [show 2 * (r.length + 1) + 1 = (2 * r.length + 1) + 1 + 1 by omega, Nat.add_mul, Nat.add_mul, Nat.one_mul]
    omega
/-- The edits of one path. -/
def ofP (p : ByteArray) (out : List Ed) : List Ed := out.filter fun e => e.1.toList == p.toList
def newF (out : List Ed) (f : Fi) : Fi := (f.1, ⟨(repL f.2.data.toList 0 (ofP f.1 out)).toArray⟩)
def Fit (fs : List Fi) (out : List Ed) : Prop := ∀ e ∈ out, ∃ k, k < fs.length ∧ (fs.getD k default).1 = e.1 ∧ e.2.2.1 ≤ ((fs.getD k default).2.size : Int)
def Apart (fs : List Fi) (n : Nat) : Prop := ∀ a b, a < b → b < n → (fs.getD a default).1 ≠ (fs.getD b default).1
/-- Edits of one path that stand in order lie in a text that the last one fits. -/
theorem okE_of (s : ByteArray) : ∀ (L : List Ed) (d : Nat), (∀ x ∈ L, okSp x ∧ (d : Int) ≤ x.2.1 ∧ x.2.2.1 ≤ (s.size : Int)) → L.Pairwise AH → (∀ x ∈ L, ∀ y ∈ L, x.1 = y.1) → d ≤ s.size → okE s d L
  | [], d, _, _, _, hd => hd
  | x :: r, d, h, hp, he, hd => by
    have hx := h x (by simp)
    rw [List.pairwise_cons] at hp
    have h0 := hx.1.1
    have h1 := hx.1.2
    refine ⟨hx.2.1, hx.1.2, hx.2.2, okE_of s r x.2.2.1.toNat (fun y hy => ?_) hp.2 (fun y hy z hz => he y (by simp [hy]) z (by simp [hz])) (by omega)⟩
    have hy' := h y (by simp [hy])
    refine ⟨hy'.1, ?_, hy'.2.2⟩
    rcases hp.1 y hy with ha | ha
    · rw [he x (by simp) y (by simp [hy]), bl_irrefl] at ha; cases ha
    · omega
theorem ofP_mem {p : ByteArray} {out : List Ed} {e : Ed} : e ∈ ofP p out ↔ e ∈ out ∧ e.1 = p := by
  unfold ofP
  rw [List.mem_filter]
  constructor
  · rintro ⟨h1, h2⟩; exact ⟨h1, toList_inj (by simpa using h2)⟩
  · rintro ⟨h1, rfl⟩; exact ⟨h1, by simp⟩
theorem ofP_okE {l out : List Ed} {p s : ByteArray} (h : Srt l out) (hf : ∀ e ∈ out, e.1 = p → e.2.2.1 ≤ (s.size : Int)) : okE s 0 (ofP p out) := by
  refine okE_of s _ 0 (fun x hx => ?_) (h.pw.filter _) (fun x hx y hy => ?_) (by omega)
  · obtain ⟨h1, h2⟩ := ofP_mem.1 hx
    have h3 := h.good.1 x ((h.mem x).1 h1)
    exact ⟨h3, by have := h3.1; omega, hf x h1 h2⟩
  · rw [(ofP_mem.1 hx).2, (ofP_mem.1 hy).2]
end Go.Proofs.Ytbgkdofjndocfab
