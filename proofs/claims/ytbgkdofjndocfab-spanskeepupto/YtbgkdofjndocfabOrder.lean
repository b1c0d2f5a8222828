/-
  The same edits in another order: spans.Apply answers the same.
-/
import Derived.Test.YtbgkdofjndocfabApplyAll
import Derived.Test.YtbgkdofjndocfabWalkX
namespace Go.Proofs.Ytbgkdofjndocfab
open Go.RowKit Go.Maps
attribute [local go_sem ↓] Go.wp_at_zero Go.wp_at_succ
theorem Good.same {l m : List Ed} (h : ∀ x, x ∈ l ↔ x ∈ m) (hg : Good l) : Good m := hg.mono fun x hx => (h x).2 hx
theorem Srt.same {l m out : List Ed} (h : ∀ x, x ∈ l ↔ x ∈ m) (hs : Srt l out) : Srt m out := ⟨hs.good.same h, hs.pw, fun x => (hs.mem x).trans (h x)⟩
theorem ap_same {fs : List Fi} {l m : List Ed} {w w' u u' : World} {e f : Ending} (hm : ∀ x, x ∈ l ↔ x ∈ m) (h : ApPost fs l w e w') (h2 : ApPost fs m u f u') :
    (∃ out v v', e = .returned (.tuple #[v, .int .i64 0]) ∧ f = .returned (.tuple #[v', .int .i64 0]) ∧ w'.ownsRow w.heap.size 32 2 v fs.length (flatF (fs.map (newF out))) ∧ u'.ownsRow u.heap.size 32 2 v' fs.length (flatF (fs.map (newF out)))) ∨
    (e = .returned (.tuple #[.slice none 0 0, .int .i64 1]) ∧ f = .returned (.tuple #[.slice none 0 0, .int .i64 1])) := by
  rcases h.2 with ⟨out, v, hs, ha, hf, rfl, hr⟩ | ⟨hbad, rfl⟩
  · rcases h2.2 with ⟨out2, v2, hs2, _, _, rfl, hr2⟩ | ⟨hbad, _⟩
    · rw [(hs.same hm).unique hs2] at hr
      exact .inl ⟨out2, v, v2, rfl, rfl, hr, hr2⟩
    · exfalso
      rcases hbad with hb | hb | ⟨o, ho, hb⟩
      · exact hb (hs.good.same hm)
      · exact hb ha
      · rw [(hs.same hm).unique ho] at hf; exact hb hf
  · rcases h2.2 with ⟨out2, v2, hs2, ha, hf, rfl, hr2⟩ | ⟨_, rfl⟩
    · exfalso
      have hm' : ∀ x, x ∈ m ↔ x ∈ l := fun x => (hm x).symm
      rcases hbad with hb | hb | ⟨o, ho, hb⟩
      · exact hb (hs2.good.same hm')
      · exact hb ha
      · rw [(hs2.same hm').unique ho] at hf; exact hb hf
    · exact .inr ⟨rfl, rfl⟩
set_option maxRecDepth 100000 in
set_option maxHeartbeats 1000000 in
theorem files_zero (a b : Option Addr) (c c' : Nat) (w : World) : Calls Try.prog 12 #[.slice a 0 c, .slice b 0 c'] w fun e w' => e = .returned (.bool true) ∧ w' = w := by
  go_enter Try.func12, Try.ntmps12
  go_wp2
  refine wp_loop_rounds 1 ?_
  rw [rounds_succ]
  go_wp2
  go_ret
  exact ⟨rfl, rfl⟩
theorem ownF_shape {w : World} {base n : Nat} {v : Value} {xs : List Value} (h : w.ownsRow base 32 2 v n xs) : ∃ a cap, v = .slice a n cap ∧ (0 < n → ∃ g, a = some ⟨g, 0, none⟩ ∧ base ≤ g ∧ g < w.heap.size) := by
  rcases h.2 with ⟨h', rfl⟩ | ⟨g, cap, cur, h, h1, h2, h3, _⟩
  · exact ⟨none, 0, h', fun h => absurd h (by omega)⟩
  · exact ⟨some ⟨g, 0, none⟩, cap, h, fun _ => ⟨g, rfl, h1, (Array.getElem?_eq_some_iff.1 h2).1⟩⟩
theorem ownF_files {w : World} {base n g cap : Nat} {fs : List Fi} (h : w.ownsRow base 32 2 (.slice (some ⟨g, 0, none⟩) n cap) n (flatF fs)) : FilesAt w g 0 fs := by
  have hl : fs.length * 2 = n * 2 := by have := h.1; rw [flatF_len] at this; exact this
  exact ⟨fun j hj => by rw [Nat.zero_add, h.cellAt _ (by omega)]; exact (flatF_get fs j hj).1, fun j hj => by rw [Nat.zero_add, h.cellAt _ (by omega)]; exact (flatF_get fs j hj).2⟩
theorem files_rows {w : World} {b1 b2 n : Nat} {v v' : Value} {fs : List Fi} (hn : n ≤ 1000000) (h : w.ownsRow b1 32 2 v n (flatF fs)) (h2 : w.ownsRow b2 32 2 v' n (flatF fs)) : Calls Try.prog 12 #[v, v'] w fun e w' => e = .returned (.bool true) ∧ ∃ q, w' = w.drewN q := by
  obtain ⟨a, c, rfl, hs⟩ := ownF_shape h
  obtain ⟨a', c', rfl, hs'⟩ := ownF_shape h2
  have hl : n = fs.length := by have := h.1; rw [flatF_len] at this; omega
  rcases Nat.eq_zero_or_pos n with h0 | h0
  · rw [h0]
    exact (files_zero _ _ _ _ _).mono fun _ _ ⟨he, hw⟩ => ⟨he, 0, hw⟩
  · obtain ⟨g, rfl, _, _⟩ := hs h0
    obtain ⟨g', rfl, _, _⟩ := hs' h0
    exact files_any g c g' 0 c' n fs w hl hn (ownF_files h) (ownF_files h2)
theorem own_grown {w w' : World} {base n size : Nat} {e : TypeId} {v : Value} {xs : List Value} {row : Option Nat} (h : w.ownsRow base e size v n xs) (hg : w.grownBy w' row) (hne : ∀ g, row = some g → g < base) : w'.ownsRow base e size v n xs := by
  refine ⟨h.1, ?_⟩
  rcases h.2 with h' | ⟨g, cap, cur, hv, h1, h2, h3⟩
  · exact .inl h'
  · exact .inr ⟨g, cap, cur, hv, h1, (hg.block g (Array.getElem?_eq_some_iff.1 h2).1 (fun e => by have := hne g e.symm; omega)).trans h2, h3⟩
def rv (l : List Ed) (k : Nat) : List Ed := (l.drop (l.length - k)).reverse
theorem rv_succ (l : List Ed) (k : Nat) (hk : k < l.length) : rv l (k + 1) = rv l k ++ [l.getD (l.length - 1 - k) default] := by
  unfold rv
  rw [show l.length - 1 - k = l.length - (k + 1) by omega, drop_getD l (l.length - (k + 1)) (by omega), List.reverse_cons, show l.length - (k + 1) + 1 = l.length - k by omega]
theorem rv_len (l : List Ed) (k : Nat) (hk : k ≤ l.length) : (rv l k).length = k := by
  unfold rv; simp; omega
theorem rv_all (l : List Ed) : rv l l.length = l.reverse := by simp [rv]
theorem flatE_append (l m : List Ed) : flatE (l ++ m) = flatE l ++ flatE m := by simp [flatE]
set_option maxRecDepth 100000 in
set_option maxHeartbeats 1000000 in
theorem fits_zero (w : World) : Calls Try.prog 11 #[.slice none 0 0] w fun e w' => e = .returned (.bool true) ∧ w' = w := by
  go_enter Try.func11, Try.ntmps11
  go_wp2
  refine wp_loop_rounds 1 ?_
  rw [rounds_succ]
  go_wp2
  go_ret
  exact ⟨by first | rfl | exact ret_bool (by decide), rfl⟩
theorem fits_arg (v : Value) (fs : List Fi) (w : World) (hF : FiArg w v fs) (hn : fs.length ≤ 140737488355328) (hsz : ∀ j, j < fs.length → (fs.getD j default).1.size ≤ 140737488355328 ∧ (fs.getD j default).2.size ≤ 140737488355328) : Calls Try.prog 11 #[v] w fun e w' => FitsPost fs fs.length w e w' := by
  rcases hF with ⟨rfl, rfl⟩ | ⟨F, fo, c, rfl, _, he⟩
  · refine (fits_zero w).mono ?_
    rintro e w' ⟨rfl, rfl⟩
    exact ⟨true, rfl, fun _ => ⟨by simp, fun j hj => by simp at hj⟩, 0, rfl⟩
  · exact fits_any F fo c fs.length fs w rfl hn he hsz
theorem news_top4 (w : World) (x : Ed) : ∀ j u, (encE x)[j]? = some u → (w.alloc (.cells (encE x).toArray 26)).cell? ((⟨w.heap.size, 0, none⟩ : Addr).add j) = some u :=
  World.news_of_block (w := w.alloc (.cells (encE x).toArray 26)) (heap_alloc_new w (.cells (encE x).toArray 26))
set_option maxRecDepth 100000 in
set_option maxHeartbeats 4000000 in
theorem orderLaw_any (vf vl : Value) (fs : List Fi) (l : List Ed) (w : World) (hF : FiArg w vf fs) (hE : EdArg w vl l) (hl1 : 2 * l.length ≤ 1048576) (hf1 : fs.length ≤ 1048576)
    (hsz : ∀ j, j < fs.length → (fs.getD j default).1.size ≤ 1048576 ∧ (fs.getD j default).2.size ≤ 1048576) (hesz : ∀ x ∈ l, x.1.size ≤ 1048576 ∧ x.2.2.2.size ≤ 1048576) :
    Calls Try.prog 4 #[vf, vl] w fun e w' => e = .returned (.bool true) ∧ Below w.heap.size w w' := by
  have h11 := fits_arg vf fs w hF (by omega) fun j hj => by have := hsz j hj; omega
  have HF : Hid (FiArg w vf fs) := hF
  have HE : Hid (EdArg w vl l) := hE
  have HSZ : Hid (∀ j, j < fs.length → (fs.getD j default).1.size ≤ 1048576 ∧ (fs.getD j default).2.size ≤ 1048576) := hsz
  have HESZ : Hid (∀ x ∈ l, x.1.size ≤ 1048576 ∧ x.2.2.2.size ≤ 1048576) := hesz
  clear hF hE hsz hesz
  obtain ⟨info26, i1, i2, i3, i4⟩ := info33_ex
  have HI : Hid (Try.prog.info? 26 = some info26 ∧ info26.zero = some (.agg #[.string ⟨#[]⟩, .int .i64 0, .int .i64 0, .string ⟨#[]⟩]) ∧ info26.size = 4 ∧ info26.bytes = 48) := ⟨i1, i2, i3, i4⟩
  clear i1 i2 i3 i4
  go_enter Try.func4, Try.ntmps4
  go_wp2_with fail
  refine h11.mono ?_
  rintro e w1 ⟨fb, rfl, hfb, q, rfl⟩
  clear h11
  have hb0 : Below w.heap.size w (w.drewN q) := below_drewN (Below.refl _ _) q
  have hE1 := HE.out.below hb0
  have hF1 := HF.out.below hb0
  generalize hW : w.drewN q = W at *
  have hz : w.heap.size ≤ W.heap.size := hb0.size
  have HB0 : Hid (Below w.heap.size w W) := hb0
  clear hW hb0
  cases fb
  · go_wp2_with fail
    refine (awake_any _).mono ?_
    rintro e w2 ⟨rfl, hb2⟩
    go_wp2
    go_ret
    exact ⟨rfl, HB0.out.trans (hb2.mono hz)⟩
  obtain ⟨hn6, _⟩ := hfb rfl
  clear hfb
  have h6 := much_any vl l W (by omega) hE1
  go_wp2_with fail
  refine h6.mono ?_
  rintro e w1 ⟨q1, rfl, mb, rfl⟩
  clear h6
  have hb1 : Below W.heap.size W (W.drewN q1) := below_drewN (Below.refl _ _) q1
  have hE2 := hE1.below hb1
  have hF2 := hF1.below hb1
  have HB1 : Hid (Below w.heap.size w (W.drewN q1)) := HB0.out.trans (hb1.mono hz)
  have hz1 : w.heap.size ≤ (W.drewN q1).heap.size := HB1.out.size
  clear hE1 hF1 hb1
  generalize W.drewN q1 = W1 at *
  cases mb
  · obtain ⟨la, lc, rfl, hls⟩ := hE2.shape
    have HE2 : Hid (EdArg W1 (.slice la l.length lc) l) := hE2
    have HF2 : Hid (FiArg W1 vf fs) := hF2
    clear hE2 hF2
    generalize hL : l.length = n at *
    have HL : Hid (l.length = n) := hL
    have hLn : n ≤ l.length := by omega
    have hLn2 : l.length ≤ n := by omega
    clear hL
    have ew0 : IntKind.i64.wrap ((n : Int) - 1) = (n : Int) - 1 := IntWalk.i64_in _ (by omega)
    go_wp2_with fail
    go_loopw [5, 6] (fun m i w' => ∃ k : Nat, k ≤ n ∧ i = .int .i64 ((n : Int) - 1 - k) ∧ w'.ownsRow W1.heap.size 26 4 m k (flatE (rv l k)) ∧ Below W1.heap.size W1 w') (fun _ i _ => (intOf i + 1).toNat)
    case atStart => exact ⟨0, by omega, by simp, by rw [show rv l 0 = [] by simp [rv]]; exact World.ownsRow_nil _ _ _ _, Below.refl _ _⟩
    case round =>
      obtain ⟨k, hk, rfl, hown, hbl⟩ := hrel
      have HO : Hid (wr.ownsRow W1.heap.size 26 4 u5 k (flatE (rv l k))) := hown
      have HB : Hid (Below W1.heap.size W1 wr) := hbl
      have hz2 := hbl.size
      by_cases hlt : k < n
      · obtain ⟨B, o, rfl, hB, he⟩ := hls (by omega)
        obtain ⟨x0, x1, x2, x3⟩ := xed (he.below (fun _ => hB) hbl) (n - 1 - k) (by omega)
        have HRV : Hid (rv l (k + 1) = rv l k ++ [l.getD (n - 1 - k) default]) := by
          have := rv_succ l k (by omega)
          rw [HL.out] at this
          exact this
        generalize l.getD (n - 1 - k) default = x at *
        obtain ⟨p, xa, xb, t⟩ := x
        simp only at x0 x1 x2 x3
        have ej : ((n : Int) - 1 - (k : Int)).toNat = n - 1 - k := by omega
        have ew1 : IntKind.i64.wrap ((n : Int) - 1 - (k : Int) - 1) = (n : Int) - 1 - (k : Int) - 1 := IntWalk.i64_in _ (by omega)
        have z1 : (0 : Int) ≤ (n : Int) - 1 - (k : Int) := by omega
        have z2 : (n : Int) - 1 - (k : Int) < (n : Int) := by omega
        have hlf : (flatE (rv l k)).length = k * 4 := by rw [flatE_len, rv_len l k (by omega)]
        clear hown hbl he
        generalize hix : (n : Int) - 1 - (k : Int) = ix at *
        go_wp2_with (at_builtin; refine wpList_append_lies _ rfl _ _ _ rfl W1.heap.size 26 info26 _ 4 48 Try.underlying22 HI.out.1 HI.out.2.1 HI.out.2.2.1 HI.out.2.2.2 rfl (by omega) u5 k _ rfl (HO.out.alloc _) ⟨wr.heap.size, 0, none⟩ 1 1 (encE (p, xa, xb, t)) rfl rfl (news_top4 wr _) (by simp [encE, Value.oneCell']) (by omega) (by unfold maxLen; omega) (by omega) (by simp; omega) (wr.heap.size + 1) (by simp) ?_; intro gg cap1 w2 hown2 hgrow2 hat2 hlt2)
        go_roundw
        case rel => exact ⟨k + 1, by omega, by rw [show ix - 1 = (n : Int) - 1 - ((k + 1 : Nat) : Int) by omega], by rw [HRV.out, flatE_append]; exact hown2, (HB.out.alloc hz2 _).grown hgrow2 (by simp; omega) (fun k hk => (HO.out.lt k hk).1)⟩
        case measure => simp [intOf]; omega
      · obtain rfl : k = n := by omega
        have hEr := HE2.out.below hbl
        have hFr := HF2.out.below hbl
        have h8 := applyAll_any vf (.slice la k lc) fs l wr hFr hEr (by omega) (by omega) HSZ.out HESZ.out
        have hrl : rv l k = l.reverse := by rw [← HL.out]; exact rv_all l
        rw [hrl] at hown
        have HO1 : Hid (wr.ownsRow W1.heap.size 26 4 u5 k (flatE l.reverse)) := hown
        have ei : (k : Int) - 1 - (k : Int) = -1 := by omega
        rw [ei]
        have HUB : Hid (∀ b, u5.ownBlock = some b → W1.heap.size ≤ b ∧ b < wr.heap.size) := fun b hb => HO1.out.lt b hb
        clear hown hbl HO hrl ei
        go_wp2_with fail
        refine h8.mono ?_
        intro e w2 hp
        clear h8
        have hfm : ∃ v c, e = .returned (.tuple #[v, .int .i64 c]) := by
          rcases hp.2 with ⟨out, v, _, _, _, rfl, _⟩ | ⟨_, rfl⟩
          · exact ⟨_, _, rfl⟩
          · exact ⟨_, _, rfl⟩
        obtain ⟨va, ca, rfl⟩ := hfm
        have HP1 : Hid (ApPost fs l wr (.returned (.tuple #[va, .int .i64 ca])) w2) := hp
        have hs2 := hp.1.size
        have hE3 := hEr.below hp.1
        have hF3 := hFr.below hp.1
        have HO2 : Hid (w2.ownsRow W1.heap.size 26 4 u5 k (flatE l.reverse)) := own_below HO1.out hp.1
        clear hp hEr hFr HO1
        have hW1 : W1.heap.size ≤ w2.heap.size := by omega
        have hmem : ∀ x, x ∈ l ↔ x ∈ l.reverse ++ l := fun x => by simp
        -- behind the append: the edits once more
        have fin : ∀ (vm : Value) (w3 : World), EdArg w3 vm (l.reverse ++ l) → FiArg w3 vf fs → w2.grownBy w3 u5.ownBlock → Calls Try.prog 8 #[vf, vm] w3 fun f w4 => Below w3.heap.size w3 w4 ∧ Below W1.heap.size W1 w4 ∧ ∃ vb, f = .returned (.tuple #[vb, .int .i64 ca]) ∧ ∀ w5 : World, (∃ q, w5 = w4.drewN q) → Calls Try.prog 12 #[va, vb] w5 fun e w6 => e = .returned (.bool true) ∧ ∃ q, w6 = w5.drewN q := by
          intro vm w3 hE4 hF4 hg3
          have h8 := applyAll_any vf vm fs (l.reverse ++ l) w3 hF4 hE4 (by omega) (by simp; omega) HSZ.out (fun x hx => HESZ.out x ((hmem x).2 hx))
          refine h8.mono ?_
          intro f w4 hp2
          have hbw3 : Below W1.heap.size W1 w3 := (HB.out.trans (HP1.out.1.mono hz2)).grown hg3 hW1 (fun b hb => (HUB.out b hb).1)
          refine ⟨hp2.1, hbw3.trans (hp2.1.mono hbw3.size), ?_⟩
          rcases ap_same hmem HP1.out hp2 with ⟨out, v, v', he, rfl, hr, hr2⟩ | ⟨he, rfl⟩
          · injection he with he
            injection he with he
            simp at he
            obtain ⟨rfl, rfl⟩ := he
            refine ⟨v', rfl, ?_⟩
            rintro w5 ⟨q, rfl⟩
            exact files_rows (fs := fs.map (newF out)) (by omega) (own_below (own_below (own_grown hr hg3 fun b hb => (HUB.out b hb).2) hp2.1) (below_drewN (Below.refl _ _) q)) (own_below hr2 (below_drewN (Below.refl _ _) q))
          · injection he with he
            injection he with he
            simp at he
            obtain ⟨rfl, rfl⟩ := he
            refine ⟨_, rfl, ?_⟩
            rintro w5 ⟨q, rfl⟩
            exact (files_zero _ _ _ _ _).mono fun _ _ ⟨h1, h2⟩ => ⟨h1, 0, h2⟩
        have FIN : Hid _ := fin
        clear fin
        rcases Nat.eq_zero_or_pos k with hk0 | hk0
        · subst hk0
          have hl0 : l = [] := List.eq_nil_of_length_eq_zero HL.out
          have hu5 : u5 = .slice none 0 0 ∨ ∃ g cap, u5 = .slice (some ⟨g, 0, none⟩) 0 cap ∧ g < w2.heap.size := by
            rcases HO2.out.2 with ⟨h, _⟩ | ⟨g, cap, cur, h, _, h2, _⟩
            · exact .inl h
            · exact .inr ⟨g, cap, h, (Array.getElem?_eq_some_iff.1 h2).1⟩
          have hE5 : EdArg w2 u5 (l.reverse ++ l) := by
            rw [hl0]
            rcases hu5 with h | ⟨g, cap, h, hg⟩
            · exact .inl ⟨h, rfl⟩
            · exact .inr ⟨g, 0, cap, h, fun _ => hg, fun j u hu => by simp [flatE] at hu⟩
          have hbw3 : Below W1.heap.size W1 w2 := HB.out.trans (HP1.out.1.mono hz2)
          have hF5 : FiArg w2 vf fs := HF2.out.below hbw3
          have h8b := FIN.out u5 w2 hE5 hF5 ⟨rfl, rfl, rfl, Nat.le_refl _, fun _ _ _ => rfl⟩
          clear hE5 hF5 hE3 hF3 hls
          rcases hu5 with h | ⟨g, cap, h, hg⟩
          all_goals
            subst h
            cases la
            all_goals
             go_wp2_with fail
             refine h8b.mono ?_
             rintro f w4 ⟨hb4, hbW, vb, rfl, hfl⟩
             clear h8b
             have h12 := hfl w4 ⟨0, rfl⟩
             have HBW : Hid (Below w.heap.size w w4) := HB1.out.trans (hbW.mono hz1)
             clear hfl
             go_wp2_with fail
             refine h12.mono ?_
             rintro e w6 ⟨rfl, q6, rfl⟩
             clear h12
             go_wp2_with fail
             refine (awake_any _).mono ?_
             rintro e w7 ⟨rfl, hb7⟩
             go_wp2
             go_ret
             exact ⟨rfl, (below_drewN HBW.out q6).trans (hb7.mono (by have := HBW.out.size; simp; omega))⟩
        · obtain ⟨B, o, rfl, hB, he⟩ := hls hk0
          have hcl : ∀ j u, (flatE l)[j]? = some u → w2.cell? ((⟨B, o, none⟩ : Addr).add j) = some u := fun j u hu => by
            rw [Go.WideShapes.add_plain]
            exact ((he.below (fun _ => hB) HB.out).below (fun _ => Nat.lt_of_lt_of_le hB hz2) HP1.out.1) j u hu
          have HCL : Hid _ := hcl
          clear hcl
          go_wp2_with (at_builtin; refine wpList_append_lies _ rfl _ _ _ rfl W1.heap.size 26 info26 _ 4 48 Try.underlying22 HI.out.1 HI.out.2.1 HI.out.2.2.1 HI.out.2.2.2 rfl (by omega) u5 k _ rfl HO2.out ⟨B, o, none⟩ k lc (flatE l) rfl (by rw [flatE_len, HL.out]) HCL.out (flatE_one l) hk0 (by unfold maxLen; omega) (by omega) hW1 w2.heap.size (by rfl) ?_; intro gg cap1 w3 hown3 hgrow3 hat3 hlt3)
          have hE5 : EdArg w3 (.slice (some ⟨gg, 0, none⟩) (k + k) cap1) (l.reverse ++ l) := by
            have hll : (l.reverse ++ l).length = k + k := by simp [HL.out]
            rw [← flatE_append] at hown3
            refine .inr ⟨gg, 0, cap1, by rw [hll], fun _ => hlt3, fun j u hu => ?_⟩
            rw [Nat.zero_add, hown3.cellAt j (by have := (List.getElem?_eq_some_iff.1 hu).1; rw [flatE_len, hll] at this; exact this)]
            exact hu
          have hbw3 : Below W1.heap.size W1 w3 := (HB.out.trans (HP1.out.1.mono hz2)).grown hgrow3 hW1 (fun b hb => (HUB.out b hb).1)
          have hF5 : FiArg w3 vf fs := HF2.out.below hbw3
          have h8b := FIN.out _ w3 hE5 hF5 hgrow3
          clear hE5 hF5 hown3 hgrow3 hat3
          refine h8b.mono ?_
          rintro f w4 ⟨hb4, hbW, vb, rfl, hfl⟩
          clear h8b
          have h12 := hfl w4 ⟨0, rfl⟩
          have HBW : Hid (Below w.heap.size w w4) := HB1.out.trans (hbW.mono hz1)
          clear hfl
          go_wp2_with fail
          refine h12.mono ?_
          rintro e w6 ⟨rfl, q6, rfl⟩
          clear h12
          go_wp2_with fail
          refine (awake_any _).mono ?_
          rintro e w7 ⟨rfl, hb7⟩
          go_wp2
          go_ret
          exact ⟨rfl, (below_drewN HBW.out q6).trans (hb7.mono (by have := HBW.out.size; simp; omega))⟩
  · go_wp2_with fail
    refine (awake_any _).mono ?_
    rintro e w2 ⟨rfl, hb2⟩
    go_wp2
    go_ret
    exact ⟨rfl, HB1.out.trans (hb2.mono hz1)⟩
end Go.Proofs.Ytbgkdofjndocfab
