/-
  types.walk over texts, walked for any step and any beginning.
-/
import Derived.Test.YtdofhlmffponoaaJdF
namespace Go.Proofs.Ytdofhlmffponoaa
open Go.RowKit
attribute [local go_sem] Oper.semAt_some
abbrev tvS (x : ByteArray) : Value := .string x

set_option maxRecDepth 100000 in
set_option maxHeartbeats 2000000 in
/-- slices.Backward's closure at a slice that is not empty -/
theorem bwdS1 (m l Bs b off cap : Nat) (xs : List ByteArray) (hreach : xs.length ≤ 1000000000) (J Jx : List (Nat × ByteArray) → World → Prop)
    (hY : ∀ pre x W, J pre W → pre.length < xs.length → YieldAt Fence.wide (m - 1) Try.prog l #[.int .i64 (x.1 : Nat), tvS x.2] W fun e W' =>
      (e = .returned (.bool true) ∧ J (pre ++ [x]) W' ∧ Kb Bs b W W') ∨ (e = .returned (.bool false) ∧ Jx (pre ++ [x]) W'))
    (W : World) (hBs : W.cell? ⟨Bs, 0, none⟩ = some (.slice (some ⟨b, off, none⟩) xs.length cap)) (hc : ∀ j x, xs[j]? = some x → W.cell? ⟨b, off + j, none⟩ = some (tvS x)) (h0 : J [] W) :
    CallsIn Fence.wide m Try.prog 72 #[.func (.yield l) #[] #[], .pointer (some ⟨Bs, 0, none⟩)] W fun e W' => (∃ v, e = .returned v) ∧
      ((∃ ys, ys.map Prod.snd = xs.reverse ∧ J ys W') ∨ (∃ pre, True ∧ Jx pre W')) := by
  refine callsIn_of_wp Try.func72 rfl trivial ?_ rfl
  simp only [Try.ntmps72, List.size_toArray, List.length_cons, List.length_nil, Nat.reduceAdd, Nat.reduceSub, Array.replicate_succ, Array.replicate_zero, List.push_toArray, List.append_toArray, List.nil_append, List.cons_append]
  have hwp : wrap64 ((xs.length : Int) - 1) = (xs.length : Int) - 1 := by unfold wrap64; omega
  gi_wp2
  gi_loopw [3] (fun i wr => ∃ (k : Nat) (pre : List (Nat × ByteArray)), k ≤ xs.length ∧ i = .int .i64 ((xs.length : Int) - 1 - (k : Int)) ∧ pre.length = k ∧ pre.map Prod.snd = xs.reverse.take k ∧ J pre wr ∧ Kb Bs b W wr)
    (fun i _ => (intOf i + 1).toNat)
  case atStart => exact ⟨0, [], Nat.zero_le _, by simp, rfl, by simp, h0, Kb.refl _ _ _⟩
  case round =>
    obtain ⟨k, pre, hk, rfl, hpl, hpm, hJs, hnx⟩ := hrel
    have hBs' : wr.cell? ⟨Bs, 0, none⟩ = some (.slice (some ⟨b, off, none⟩) xs.length cap) := (World.cell?_of_block hnx.s).trans hBs
    clear hwp
    by_cases hlt : k < xs.length
    · obtain ⟨i, hi⟩ : ∃ i, xs.length = i + k + 1 := ⟨xs.length - 1 - k, by omega⟩
      have hix : (xs.length : Int) - 1 - (k : Int) = (i : Int) := by omega
      obtain ⟨x, hx⟩ : ∃ x, xs[i]? = some x := ⟨xs[i], List.getElem?_eq_getElem (by omega)⟩
      have hcx : wr.cell? ⟨b, off + i, none⟩ = some (tvS x) := (World.cell?_of_block hnx.r).trans (hc i x hx)
      obtain ⟨fn, tmps, assign, body, hy, hR⟩ := hY pre (i, x) wr hJs (by omega)
      have h1 : (i : Int) < (xs.length : Int) := by omega
      have h2 : 0 ≤ (i : Int) := by omega
      have h3 : i < xs.length := by omega
      have hw1 : wrap64 ((i : Int) - 1) = (i : Int) - 1 := by unfold wrap64; omega
      have HPM : Hid (pre.map Prod.snd = xs.reverse.take k) := hpm
      have HPL : Hid (pre.length = k) := hpl
      have HNX : Hid (Kb Bs b W wr) := hnx
      have HX : Hid (xs[i]? = some x) := hx
      have HI : Hid (xs.length = i + k + 1) := hi
      have HC : Hid (∀ j x, xs[j]? = some x → W.cell? ⟨b, off + j, none⟩ = some (tvS x)) := hc
      have HB0 : Hid (W.cell? ⟨Bs, 0, none⟩ = some (.slice (some ⟨b, off, none⟩) xs.length cap)) := hBs
      rw [hix]
      clear hpm hpl hnx hx hc hBs hi
      gi_wp2
      refine ⟨fun h => by simp [Fence.wide] at h, ?_⟩
      refine hR.mono ?_
      rintro e W3 (⟨rfl, hJ3, hk3⟩ | ⟨rfl, hJx3⟩)
      · gi_wp2
        go_roundw
        case rel =>
          refine ⟨k + 1, pre ++ [(i, x)], by omega, ?_, by simp [HPL.out], ?_, hJ3, HNX.out.trans hk3⟩
          · have := HI.out
            first | omega | (congr 1; omega) | (simp; omega)
          · rw [List.map_append, HPM.out, List.take_add_one]
            congr 1
            have := HI.out
            rw [List.getElem?_reverse (by omega), show xs.length - 1 - k = i by omega, HX.out]
            simp
        case measure => simp [intOf]
      · gi_wp2
        refine bodyPost_ret (results_none rfl _ _ _) rfl ?_
        exact ⟨⟨_, rfl⟩, .inr ⟨_, trivial, hJx3⟩⟩
    · obtain rfl : k = xs.length := by omega
      have hix : (xs.length : Int) - 1 - (xs.length : Int) = -1 := by omega
      rw [hix]
      have HPM : Hid (pre.map Prod.snd = xs.reverse.take xs.length) := hpm
      clear hpm hpl
      gi_wp2
      go_end0
      exact ⟨⟨_, rfl⟩, .inl ⟨pre, by rw [HPM.out, List.take_of_length_le (by simp)], hJs⟩⟩
set_option maxRecDepth 100000 in
set_option maxHeartbeats 2000000 in
theorem bwdS0 (m l Bs : Nat) (a : Option Addr) (cap : Nat) (J : List (Nat × ByteArray) → World → Prop) (W : World) (hBs : W.cell? ⟨Bs, 0, none⟩ = some (.slice a 0 cap)) (h0 : J [] W) :
    CallsIn Fence.wide m Try.prog 72 #[.func (.yield l) #[] #[], .pointer (some ⟨Bs, 0, none⟩)] W fun e W' => (∃ v, e = .returned v) ∧ J [] W' := by
  refine callsIn_of_wp Try.func72 rfl trivial ?_ rfl
  simp only [Try.ntmps72, List.size_toArray, List.length_cons, List.length_nil, Nat.reduceAdd, Nat.reduceSub, Array.replicate_succ, Array.replicate_zero, List.push_toArray, List.append_toArray, List.nil_append, List.cons_append]
  gi_wp2
  refine wpIn_loop_rounds 1 ?_
  rw [roundsIn_succ]
  gi_wp2
  go_end0
  exact ⟨⟨_, rfl⟩, h0⟩
set_option maxHeartbeats 1000000 in
/-- slices.Backward: the slice is boxed -/
theorem bwdS (a : Option Addr) (len cap : Nat) (w : World) :
    Calls Try.prog 57 #[.slice a len cap] w fun e w' => e = .returned (.func (.func 72) #[] #[.pointer (some ⟨w.heap.size, 0, none⟩)]) ∧ w' = w.alloc (.cells #[.slice a len cap] 25) := by
  have hmf := mkf
  go_enter Try.func57, Try.ntmps57
  go_wp2
  go_ret
  exact ⟨rfl, rfl⟩
/-- a slice of pointers to types -/
abbrev RwS := RowV tvS
/-- what Backward tells -/
theorem bwdS_stops (m Bs b : Nat) (zv : Value) (xs : List ByteArray) (hreach : xs.length ≤ 1000000000) (w : World) (hBs : Bs < w.heap.size) (hc : w.cell? ⟨Bs, 0, none⟩ = some zv) (hI : RwS (fun c => c = b) w zv xs) :
    SeqStopsK Fence.wide m Try.prog 72 #[.pointer (some ⟨Bs, 0, none⟩)] (fun x : Nat × ByteArray => #[Value.int .i64 (x.1 : Nat), tvS x.2]) (Kb Bs b) (fun ys => ys.map Prod.snd = xs.reverse) (fun _ => True) xs.length w := fun l J Jx W hW _ _ hY h0 => by
  have hc' := (hW.cell (p := ⟨Bs, 0, none⟩) hBs).trans hc
  rcases hI with ⟨a, c, rfl, rfl⟩ | ⟨b', o, c, rfl, hlen, hb1, rfl, hcs⟩
  · exact (bwdS0 m l Bs a c J W hc' h0).mono fun e W' ⟨he, hj⟩ => ⟨he, .inl ⟨_, rfl, hj⟩⟩
  · exact bwdS1 m l Bs b' o c xs hreach J Jx hY W hc' (fun j x hx => (hW.cell (p := ⟨b', o + j, none⟩) hb1).trans (hcs j x hx)) h0
theorem revS_own {w : World} {a : Option Addr} {n c base : Nat} {l : List ByteArray} (hm : l.length ≤ 1000000) (h : w.ownsRow base 9 1 (.slice a n c) n (l.map tvS)) : Calls Try.prog 56 #[.slice a n c] w fun e w' => (∃ v, e = .returned v) ∧ Kx (fun b => (Value.slice a n c).ownBlock = some b) w w' ∧ w'.ownsRow base 9 1 (.slice a n c) n (l.reverse.map tvS) := by
  have hl : n = l.length := by have := h.1; simp at this; exact this.symm
  rcases h.2 with ⟨h1, h2⟩ | ⟨g, cap, cur, e, h1⟩
  · simp at h1
    obtain ⟨rfl, rfl, rfl⟩ := h1
    have hnil : l = [] := List.eq_nil_of_length_eq_zero hl.symm
    subst hnil
    refine revS_nil.mono fun e w' hq => ?_
    obtain ⟨hv, rfl⟩ := hq
    exact ⟨hv, Kx.refl _ _, h⟩
  · simp at e
    obtain ⟨rfl, rfl⟩ := e
    refine (revS_any hl (by omega) h).mono fun e w' hq => ?_
    obtain ⟨hv, hk, ho⟩ := hq
    exact ⟨hv, ⟨hk.os, hk.tape, hk.output, hk.size, fun b x hb hne => hk.keep b x hb (fun e => hne (by simp [Value.ownBlock, e]))⟩, ho⟩
/-- what a step gives: what is to follow, or an end -/
def SpS (I : Nat → (Nat → Prop) → List ByteArray → World → Prop) (Bad : (Nat → Prop) → World → Prop) (g : Nat) (X : Nat → Prop) (r : List ByteArray) (W : World) (e : Ending) (W' : World) : Prop :=
  (∃ a n c ns g' X', e = .returned (.tuple #[.slice a n c, .bool true]) ∧ RwS X' W' (.slice a n c) ns ∧ g' < g ∧ I g' X' (ns ++ r) W' ∧ Kx X W W' ∧ (∀ b, b < W.heap.size → X' b → X b)) ∨
  (∃ a n c X', e = .returned (.tuple #[.slice a n c, .bool false]) ∧ Bad X' W' ∧ Kx X W W' ∧ (∀ b, b < W.heap.size → X' b → X b))
/-- what walk answers -/
def WqS (I : Nat → (Nat → Prop) → List ByteArray → World → Prop) (Bad : (Nat → Prop) → World → Prop) (e : Ending) (w' : World) : Prop :=
  (e = .returned (.bool true) ∧ ∃ g X, I g X [] w') ∨ (e = .returned (.bool false) ∧ ∃ X, Bad X w')
/-- the list that is still to come, in its box -/
structure TdS (B : Nat) (X : Nat → Prop) (l : List ByteArray) (W : World) (v : Value) : Prop where
  box : Boxed W B 25 v
  row : W.ownsRow 0 9 1 v l.length (l.reverse.map tvS)
  nb : ¬ X B
  nr : ∀ k, v.ownBlock = some k → ¬ X k
/-- where the walk's loop stands -/
structure WsS (I : Nat → (Nat → Prop) → List ByteArray → World → Prop) (B g : Nat) (X : Nat → Prop) (l : List ByteArray) (Ds : List Nat) (W : World) : Prop where
  inv : I g X l W
  tdo : ∃ v, TdS B X l W v
  nd : Ds.Nodup
  ds : ∀ D, D ∈ Ds → W.heap[D]? = some (.deferred (some [])) ∧ ¬ X D
theorem RwS_one {X : Nat → Prop} {W : World} {v : Value} {l : List ByteArray} (h : RwS X W v l) : ∃ b, (b = W.heap.size ∨ X b) ∧ RwS (fun c => c = b) W v l := by
  rcases h with h | ⟨b, o, c, e, hl, hb, h1, h2⟩
  · exact ⟨_, .inl rfl, .inl h⟩
  · exact ⟨b, .inr h1, .inr ⟨b, o, c, e, hl, hb, rfl, h2⟩⟩
/-- where the loop over what follows stands -/
structure InT (B gb n : Nat) (r : List ByteArray) (W3 : World) (pre : List (Nat × ByteArray)) (W : World) : Prop where
  mk' ::
  ex : ∃ v, Boxed W B 25 v ∧ W.ownsRow 0 9 1 v (n + pre.length) ((r.reverse ++ pre.map Prod.snd).map tvS) ∧ (∀ k, v.ownBlock = some k → k = gb ∨ W3.heap.size ≤ k) ∧ Kx (fun c => c = B ∨ c = gb) W3 W
theorem InT.own {B gb n : Nat} {r : List ByteArray} {W3 : World} : OwnFrom W3.heap.size (InT B gb n r W3) := by
  rintro pre W W' row ⟨v, h1, h2, h3, h4⟩ hg hr
  refine ⟨v, h1.kept hg (fun e => ?_), h2.kept hg ?_, h3, ?_⟩
  · obtain ⟨_, o, ho, hc⟩ := hr B e.symm
    rw [show W.heap[B]? = _ from h1] at ho; cases ho; cases hc
  · rcases h2.2 with ⟨rfl, _⟩ | ⟨g, cap, cur, rfl, _, hgb, _⟩
    · exact .inl rfl
    · refine .inr fun e => ?_
      obtain ⟨_, o, ho, hc⟩ := hr g (by simpa [Value.ownBlock] using e.symm)
      rw [hgb] at ho; cases ho; cases hc
  · refine ⟨hg.os.trans h4.os, hg.tape.trans h4.tape, hg.output.trans h4.output, Nat.le_trans h4.size hg.size, fun b o hb hx => ?_⟩
    have hlt := (Array.getElem?_eq_some_iff.1 hb).1
    refine (hg.block b (Nat.lt_of_lt_of_le hlt h4.size) (fun e => ?_)).trans (h4.keep b o hb hx)
    have := (hr b e.symm).1
    omega
set_option maxRecDepth 100000 in
set_option maxHeartbeats 4000000 in
theorem walkS {I : Nat → (Nat → Prop) → List ByteArray → World → Prop} {Bad : (Nat → Prop) → World → Prop} (K : FuncId) (caps : Array Value) (hK : ∀ args w, (callFunc K args).run Try.prog w = .ok (.enter K args) w)
    (hS : ∀ g X l W W', I g X l W → Kx (fun b => ¬ X b) W W' → I g X l W') (hSB : ∀ X W W', Bad X W → Kx (fun b => ¬ X b) W W' → Bad X W')
    (hX : ∀ g X l W, I g X l W → ∀ b, X b → b < W.heap.size) (hN : ∀ g X l W, I g X l W → l.length ≤ 1000000)
    (hstep : ∀ g X x r W, I g X (x :: r) W → Calls Try.prog K (#[tvS x] ++ caps) W (SpS I Bad g X r W))
    (g : Nat) (fs : List ByteArray) (fa : Option Addr) (fc : Nat) (w : World) (hf : Src w (.slice fa fs.length fc) fs.length (fs.map tvS)) (h0 : I g (fun b => b < w.heap.size) fs w) :
    Calls Try.prog 37 #[.func (.func K) #[] caps, .slice fa fs.length fc] w (WqS I Bad) := by
  refine (callsIn_wide (n := 3)).1 ?_
  have hN' := hN
  have hfl := hN _ _ _ _ h0
  have hcl := cloneS hf (by simp) (fun u hu => by
    obtain ⟨y, _, rfl⟩ := List.mem_map.1 hu
    rfl) (by omega)
  have hwd : ∀ k : Nat, (Fence.wide.depth.isSome = true → 1 ≤ k) := fun k h => by simp [Fence.wide] at h
  refine callsIn_of_wp_marks Try.func37 rfl trivial ?_ rfl
  simp only [Try.ntmps37, List.size_toArray, List.length_cons, List.length_nil, Nat.reduceAdd, Nat.reduceSub, Array.replicate_succ, Array.replicate_zero, List.push_toArray, List.append_toArray, List.nil_append, List.cons_append]
  gi_wp2_with (first
    | (refine ⟨trivial, ?_⟩; (try refine ⟨hwd _, ?_⟩); gi_at_call 31; refine (callsIn_wide.2 hcl).mono ?_; intro e w1 hq; obtain ⟨a1, c1, rfl, hr1⟩ := hq.slice; have HR1 : Hid (w1.ownsRow w.heap.size 9 1 (.slice a1 fs.length c1) fs.length (fs.map tvS)) := hr1; have HB1 : Hid (Below w.heap.size w w1) := hq.bl; have hrev := revS_own hfl (hr1.alloc (.cells #[.slice a1 fs.length c1] 25)); clear hq hr1 hcl)
    | (refine ⟨trivial, ?_⟩; (try refine ⟨hwd _, ?_⟩); gi_at_call 56; refine (callsIn_wide.2 hrev).mono ?_; rintro e w2 ⟨⟨rv, rfl⟩, hk2, ho2⟩; have HK2 : Hid (Kx (fun b => (Value.slice a1 fs.length c1).ownBlock = some b) (w1.alloc (.cells #[.slice a1 fs.length c1] 25)) w2) := hk2; have HO2 : Hid (w2.ownsRow w.heap.size 9 1 (.slice a1 fs.length c1) fs.length (fs.reverse.map tvS)) := ho2; clear hrev hk2 ho2))
  have hown : ∀ k, (Value.slice a1 fs.length c1).ownBlock = some k → w.heap.size ≤ k ∧ k < w1.heap.size := fun k e => HR1.out.lt k e
  have hnB : ¬ (Value.slice a1 fs.length c1).ownBlock = some w1.heap.size := fun e => by have := (hown _ e).2; omega
  have ht0 : ∃ v, TdS w1.heap.size (fun b => b < w.heap.size) fs w2 v := by
    refine ⟨.slice a1 fs.length c1, HK2.out.keep _ _ (Boxed.new w1 25 (.slice a1 fs.length c1)) hnB, ?_, by have := HB1.out.size; show ¬ _ < _; omega, fun k hk => by have := (hown k hk).1; show ¬ _ < _; omega⟩
    exact ownsRow_down HO2.out (Nat.zero_le _)
  have hs0 : WsS I w1.heap.size g (fun b => b < w.heap.size) fs [] w2 :=
    ⟨hS _ _ _ _ _ h0 ((Kx.of_whole (bthen HB1.out (below_alloc _ _))).andThen HK2.out (fun b _ h => h) (fun b hb h => by have := (hown b h).1; omega)), ht0, List.nodup_nil, fun D hD => by cases hD⟩
  generalize w1.heap.size = B at hs0 ⊢
  have HS0 : Hid (WsS I B g (fun b => b < w.heap.size) fs [] w2) := hs0
  clear hs0 ht0 HR1 HB1 h0 hf hown hnB HK2 HO2
  rename_i Kz hKz
  refine loopG (fun g a W => ∃ X l Ds u2 u3 u6 u7 u8 u9 u10 u11 u12 u13 u14 u15 u16 u17 u18 u19 u20 u21 u22 u23 u24 u25 u26 u27 u28 u29 u30 u31 u32 u33 u34 u35 u36 u37 u38 u39 u40 u41 u42 u43 u44, a = { tmps := #[.func (.func K) #[] caps, .slice fa fs.length fc, u2, u3, .bool false, .pointer (some ⟨B, 0, none⟩), u6, u7, u8, u9, u10, u11, u12, u13, u14, u15, u16, u17, u18, u19, u20, u21, u22, u23, u24, u25, u26, u27, u28, u29, u30, u31, u32, u33, u34, u35, u36, u37, u38, u39, u40, u41, u42, u43, u44], defers := marks Ds } ∧ Hid (WsS I B g X l Ds W)) g ?start ?round
  case start => exact ⟨_, _, [], _, _, _, _, _, _, _, _, _, _, _, _, _, _, _, _, _, _, _, _, _, _, _, _, _, _, _, _, _, _, _, _, _, _, _, _, _, _, _, _, _, rfl, HS0⟩
  case round =>
    clear HS0
    rintro g a W ⟨X, l, Ds, u2, u3, u6, u7, u8, u9, u10, u11, u12, u13, u14, u15, u16, u17, u18, u19, u20, u21, u22, u23, u24, u25, u26, u27, u28, u29, u30, u31, u32, u33, u34, u35, u36, u37, u38, u39, u40, u41, u42, u43, u44, rfl, HW⟩
    cases l with
    | nil =>
      obtain ⟨v, hv⟩ := HW.out.tdo
      have hc := hv.box.cell
      rcases hv.row.2 with ⟨hv0, _⟩ | ⟨gb, cap, cur, hv0, _⟩
      · subst hv0
        clear hv
        gi_wp2
        refine leaves_marks (fun w => results_tmp rfl _ _ _) Ds W HW.out.nd (fun D hD => (HW.out.ds D hD).1) (fun w' hk => .inl ⟨rfl, g, X, hS _ _ _ _ _ HW.out.inv ?_⟩)
        exact hk.andThen (Kx.refl (fun _ => False) _) (fun b _ hb => (HW.out.ds b hb).2) (fun _ _ h => h.elim)
      · subst hv0
        clear hv
        gi_wp2
        refine leaves_marks (fun w => results_tmp rfl _ _ _) Ds W HW.out.nd (fun D hD => (HW.out.ds D hD).1) (fun w' hk => .inl ⟨rfl, g, X, hS _ _ _ _ _ HW.out.inv ?_⟩)
        exact hk.andThen (Kx.refl (fun _ => False) _) (fun b _ hb => (HW.out.ds b hb).2) (fun _ _ h => h.elim)
    | cons y r =>
      obtain ⟨v, hv⟩ := HW.out.tdo
      obtain ⟨n, hn⟩ : ∃ n, r.length = n := ⟨_, rfl⟩
      have hN1 : n + 1 ≤ 1000000 := by have := hN _ _ _ _ HW.out.inv; simpa [hn] using this
      have hrow : W.ownsRow 0 9 1 v (n + 1) (r.reverse.map tvS ++ [tvS y]) := by have := hv.row; simpa [hn] using this
      obtain ⟨gb, cap, rfl⟩ := ownsRow_succ hrow
      have hc := hv.box.cell
      have hfz := hv.box.frozen
      have hcy : W.cell? ⟨gb, n, none⟩ = some (tvS y) := by
        have := hrow.cells (g := gb) rfl n (tvS y) (by rw [List.getElem?_append_right (by simp [hn])]; simp [hn])
        rw [Addr.add_lit] at this; simpa using this
      have hgbB : gb ≠ B := fun e => by have := hv.box.not_row (by decide) hv.row; exact this (by simp [Value.ownBlock, e])
      have hncap : n + 1 ≤ cap := by
        rcases hrow.2 with ⟨h, _⟩ | ⟨g', cap', cur, h, _, _, h4, _⟩
        · cases h
        · cases h; exact h4
      have hpop := ownsRow_pop (n := n) (by simp [hn]) hrow
      have hkx1 : Kx (fun b => ¬ X b) W (W.setCell ⟨B, 0, none⟩ (.slice (some ⟨gb, 0, none⟩) n cap)) := kx_cell hv.nb
      have hi1 := hS _ _ _ _ _ HW.out.inv hkx1
      have hstp := hstep g X y r _ hi1
      have hbx1 := hv.box.set (.slice (some ⟨gb, 0, none⟩) n cap)
      have hrw1 : (W.setCell ⟨B, 0, none⟩ (.slice (some ⟨gb, 0, none⟩) n cap)).ownsRow 0 9 1 (.slice (some ⟨gb, 0, none⟩) n cap) n (r.reverse.map tvS) := hpop.kept (grownBy_setCell' W B _) (.inr (by simp [Value.ownBlock]; exact hgbB))
      have hnr : ¬ X gb := hv.nr gb rfl
      have hds1 : ∀ D, D ∈ Ds → (W.setCell ⟨B, 0, none⟩ (.slice (some ⟨gb, 0, none⟩) n cap)).heap[D]? = some (.deferred (some [])) ∧ ¬ X D := fun D hD => by
        have h := HW.out.ds D hD
        refine ⟨(Below.heap_setCell _ _ _ D (fun e => ?_)).trans h.1, h.2⟩
        have hb := hv.box
        unfold Boxed at hb
        rw [show D = B from e, hb] at h
        simp at h
      have hnd := HW.out.nd
      have HN1 : Hid (¬ X B) := hv.nb
      have HBX : Hid (Boxed (W.setCell ⟨B, 0, none⟩ (.slice (some ⟨gb, 0, none⟩) n cap)) B 25 (.slice (some ⟨gb, 0, none⟩) n cap)) := hbx1
      have HRW : Hid ((W.setCell ⟨B, 0, none⟩ (.slice (some ⟨gb, 0, none⟩) n cap)).ownsRow 0 9 1 (.slice (some ⟨gb, 0, none⟩) n cap) n (r.reverse.map tvS)) := hrw1
      have HDS : Hid (∀ D, D ∈ Ds → (W.setCell ⟨B, 0, none⟩ (.slice (some ⟨gb, 0, none⟩) n cap)).heap[D]? = some (.deferred (some [])) ∧ ¬ X D) := hds1
      have HND : Hid Ds.Nodup := hnd
      have HRN : Hid (r.length = n) := hn
      have HNR : Hid (¬ X gb) := hnr
      have HGB : Hid (gb ≠ B) := hgbB
      have HST : Hid (Calls Try.prog K (#[tvS y] ++ caps) (W.setCell ⟨B, 0, none⟩ (.slice (some ⟨gb, 0, none⟩) n cap)) (SpS I Bad g X r (W.setCell ⟨B, 0, none⟩ (.slice (some ⟨gb, 0, none⟩) n cap)))) := hstp
      have hw1 : wrap64 ((n : Int) + 1 - 1) = (n : Int) := by unfold wrap64; omega
      have hw2 : ((n : Int) + 1 - 1) = (n : Int) := by omega
      clear hv hrow hpop hkx1 hi1 hstp hbx1 hrw1 hds1 hnd hn hnr hgbB HW hN
      gi_wp2
      refine ⟨trivial, ?_⟩
      refine (callsIn_wide.2 HST.out).mono ?_
      rintro e W2 (⟨a2, n2, c2, ns, g', X', rfl, hP, hg', hi2, hk2, hx2⟩ | ⟨a2, n2, c2, X', rfl, hb2, hk2, hx2⟩)
      rotate_left
      · have hds2 : ∀ D, D ∈ Ds → W2.heap[D]? = some (.deferred (some [])) ∧ ¬ X' D := fun D hD => by
          have h := HDS.out D hD
          exact ⟨hk2.keep _ _ h.1 h.2, fun h' => h.2 (hx2 D (Array.getElem?_eq_some_iff.1 h.1).1 h')⟩
        clear HST hk2 hx2
        gi_wp2
        refine leaves_marks (fun w => results_tmp rfl _ _ _) Ds W2 HND.out (fun D hD => (hds2 D hD).1) (fun w' hk => .inr ⟨rfl, X', hSB _ _ _ hb2 ?_⟩)
        exact hk.andThen (Kx.refl (fun _ => False) _) (fun b _ hb => (hds2 b hb).2) (fun _ _ h => h.elim)
      have hbt := fun w => bwdS a2 n2 c2 w
      have HP : Hid (RwS X' W2 (.slice a2 n2 c2) ns) := hP
      have HI2 : Hid (I g' X' (ns ++ r) W2) := hi2
      have HK2 : Hid (Kx X (W.setCell ⟨B, 0, none⟩ (.slice (some ⟨gb, 0, none⟩) n cap)) W2) := hk2
      have HX2 : Hid (∀ b, b < (W.setCell ⟨B, 0, none⟩ (.slice (some ⟨gb, 0, none⟩) n cap)).heap.size → X' b → X b) := hx2
      clear hP hi2 hk2 hx2 HST
      gi_wp2_with (refine ⟨trivial, ?_⟩; (try refine ⟨hwd _, ?_⟩); gi_at_call 57; refine (callsIn_wide.2 (hbt _)).mono ?_; rintro e W3 ⟨rfl, rfl⟩; clear hbt)
      have hsz1 : (W.setCell ⟨B, 0, none⟩ (.slice (some ⟨gb, 0, none⟩) n cap)).heap.size ≤ W2.heap.size := HK2.out.size
      have hbx2 : Boxed W2 B 25 (.slice (some ⟨gb, 0, none⟩) n cap) := HK2.out.keep _ _ HBX.out HN1.out
      have hgb1 : gb < (W.setCell ⟨B, 0, none⟩ (.slice (some ⟨gb, 0, none⟩) n cap)).heap.size := (HRW.out.lt gb rfl).2
      have hB1 : B < (W.setCell ⟨B, 0, none⟩ (.slice (some ⟨gb, 0, none⟩) n cap)).heap.size := HBX.out.lt
      have hrw2 : W2.ownsRow 0 9 1 (.slice (some ⟨gb, 0, none⟩) n cap) n (r.reverse.map tvS) := ownsRow_kx HRW.out HK2.out (fun k hk => by cases hk; exact HNR.out)
      have hnB : ¬ X' B := fun h => HN1.out (HX2.out B hB1 h)
      have hng : ¬ X' gb := fun h => HNR.out (HX2.out gb hgb1 h)
      have hds2 : ∀ D, D ∈ Ds → W2.heap[D]? = some (.deferred (some [])) ∧ ¬ X' D := fun D hD => by
        have h := HDS.out D hD
        exact ⟨HK2.out.keep _ _ h.1 h.2, fun h' => h.2 (HX2.out D (Array.getElem?_eq_some_iff.1 h.1).1 h')⟩
      have hnl := hN' _ _ _ _ HI2.out
      rw [List.length_append, HRN.out] at hnl
      obtain ⟨b, hb, hPb⟩ := RwS_one HP.out
      have hbX : b < W2.heap.size → X' b := fun h => hb.resolve_left (by omega)
      have hbl : b ≤ W2.heap.size := by
        rcases hb with h | h
        · omega
        · have := hX _ _ _ _ HI2.out b h; omega
      have hPb3 := hPb.kept (below_alloc W2 (.cells #[.slice a2 n2 c2] 25))
      have hne : ∀ c, c = W2.heap.size ∨ c = b → c ≠ B ∧ c ≠ gb := fun c hc => by
        have hB2 := hbx2.lt
        have hg2 := (hrw2.lt gb rfl).2
        rcases hc with rfl | rfl
        · omega
        · rcases hb with h | h
          · omega
          · exact ⟨fun e => hnB (e ▸ h), fun e => hng (e ▸ h)⟩
      obtain ⟨i0, ii, iz0, iz1, iz2⟩ := infoS_ex
      clear HK2 HX2 HBX HRW HDS HN1 HNR HP hPb hsz1 hgb1 hB1
      have hszA : (W2.alloc (.cells #[.slice a2 n2 c2] 25)).heap.size = W2.heap.size + 1 := by simp
      refine wpIn_rangeFunc_ownF rfl (by omega) (gf := 72) (lb := #[.pointer (some ⟨W2.heap.size, 0, none⟩)]) rfl trivial (enters_of Try.func72 (by kernel_rfl) rfl)
        (bwdS_stops (3 - 1) W2.heap.size b (.slice a2 n2 c2) ns (by omega) (W2.alloc (.cells #[.slice a2 n2 c2] 25)) (by rw [hszA]; omega) (Boxed.new W2 _ _).cell hPb3) Kb.trans
        (fun W' l o o' hl _ _ _ => ⟨World.putObj_heap_other (by rw [hszA] at hl; omega), World.putObj_heap_other (by rw [hszA] at hl; omega)⟩) (Below.refl _ _) (fun _ => rfl)
        (InT B gb n r (W2.alloc (.cells #[.slice a2 n2 c2] 25))) (fun _ _ _ => False) InT.own (fun _ _ _ _ _ h _ _ => h)
        ⟨_, (hbx2.alloc _), by simpa using hrw2.alloc _, fun k hk => .inl (by cases hk; rfl), Kx.refl _ _⟩
        (fun x => { tmps := #[.func (.func K) #[] caps, .slice fa fs.length fc, u2, u3, .bool false, .pointer (some ⟨B, 0, none⟩), tvS y, .slice a2 n2 c2, .bool true, u9, tvS x.2, u11, u12, u13, u14, .slice (some ⟨gb, 0, none⟩) (n + 1) cap, .int .i64 ((n : Int) + 1), .bool true, .slice (some ⟨gb, 0, none⟩) (n + 1) cap, .slice (some ⟨gb, 0, none⟩) (n + 1) cap, .int .i64 ((n : Int) + 1), .int .i64 (n : Int), .pointer (some ⟨gb, n, none⟩), tvS y, .slice (some ⟨gb, 0, none⟩) (n + 1) cap, .slice (some ⟨gb, 0, none⟩) (n + 1) cap, .int .i64 ((n : Int) + 1), .int .i64 (n : Int), .slice (some ⟨gb, 0, none⟩) n cap, .tuple #[.slice a2 n2 c2, .bool true], .func (.func K) #[] caps, tvS y, .tuple #[.slice a2 n2 c2, .bool true], .slice a2 n2 c2, .bool true, .bool true, .bool false, .slice a2 n2 c2, .func (.func 72) #[] #[.pointer (some ⟨W2.heap.size, 0, none⟩)], .int .i64 (x.1 : Nat), tvS x.2, u41, u42, u43, u44], defers := [] }) ?assign ?body ?done ?stop
      case assign =>
        intro l x W' K' hK'
        gi_wp2
        exact hK'
      case stop =>
        rintro D c pre W' _ _ h _
        exact h.elim
      case done =>
        rintro D ys W' hD hys ⟨v', hbx', hrw', hvb', hkx'⟩ hDe
        have hkk : Kx (fun b => ¬ X' b) W2 W' := (Kx.of_whole (X := fun b => ¬ X' b) (below_alloc W2 (.cells #[.slice a2 n2 c2] 25))).andThen hkx' (fun _ _ h => h) (fun c _ h => by rcases h with rfl | rfl; exact hnB; exact hng)
        have hDX : ¬ X' D := fun h => by have := hX _ _ _ _ HI2.out D h; rw [hszA] at hD; omega
        have hws : WsS I B g' X' (ns ++ r) (D :: Ds) W' := by
          refine ⟨hS _ _ _ _ _ HI2.out hkk, ⟨v', hbx', ?_, hnB, fun k hk h => ?_⟩, List.nodup_cons.2 ⟨fun h => ?_, HND.out⟩, fun D' hD' => ?_⟩
          · have e1 : ys.length = ns.length := by have := congrArg List.length hys; simpa using this
            rw [hys, e1, ← List.reverse_append] at hrw'
            rw [List.length_append, HRN.out, Nat.add_comm]
            exact hrw'
          · rcases hvb' k hk with h' | h'
            · exact hng (h' ▸ h)
            · have := hX _ _ _ _ HI2.out k h; rw [hszA] at h'; omega
          · have := (Array.getElem?_eq_some_iff.1 (hds2 D h).1).1; rw [hszA] at hD; omega
          · rcases List.mem_cons.1 hD' with rfl | hD'
            · exact ⟨hDe, hDX⟩
            · have h := hds2 D' hD'
              refine ⟨hkx'.keep _ _ ((Below.heap_alloc _ _ _ (Array.getElem?_eq_some_iff.1 h.1).1).trans h.1) (fun e => ?_), h.2⟩
              rcases e with rfl | rfl
              · have := h.1.symm.trans hbx2; simp at this
              · obtain ⟨cur, hcur⟩ := ownsRow_cells hrw2
                have := h.1.symm.trans hcur; simp at this
        have HWS : Hid (WsS I B g' X' (ns ++ r) (D :: Ds) W') := hws
        clear hws hkk hbx' hrw' hkx'
        gi_wp2
        exact ⟨g', hg', X', ns ++ r, D :: Ds, _, _, _, _, _, _, _, _, _, _, _, _, _, _, _, _, _, _, _, _, _, _, _, _, _, _, _, _, _, _, _, _, _, _, _, _, _, _, _, _, _, rfl, HWS⟩
      case body =>
        rintro l pre x W' ⟨v', hv, hrow, hvb, hkx⟩ hpre
        have hcv := hv.cell
        have HV : Hid (Boxed W' B 25 v') := hv
        have HR : Hid (W'.ownsRow 0 9 1 v' (n + pre.length) ((r.reverse ++ pre.map Prod.snd).map tvS)) := hrow
        have HVB : Hid (∀ k, v'.ownBlock = some k → k = gb ∨ (W2.alloc (.cells #[.slice a2 n2 c2] 25)).heap.size ≤ k) := hvb
        have HKX : Hid (Kx (fun c => c = B ∨ c = gb) (W2.alloc (.cells #[.slice a2 n2 c2] 25)) W') := hkx
        have hszW := hkx.size
        rw [hszA] at hszW
        have hbd1 : n + pre.length + 1 ≤ 1000000 := by omega
        clear hv hrow hvb hkx
        obtain ⟨va, vn, vc, rfl⟩ : ∃ va vn vc, v' = .slice va vn vc := by
          rcases HR.out.2 with ⟨rfl, _⟩ | ⟨g, cap, cur, rfl, _⟩
          · exact ⟨_, _, _, rfl⟩
          · exact ⟨_, _, _, rfl⟩
        gi_wp2_with (gi_at_builtin; refine wpListIn_append_at _ rfl _ _ 25 rfl 0 9 i0 (.string ⟨#[]⟩) 1 16 Try.underlying25 ii iz0 iz1 iz2 rfl (by decide) _ _ _ rfl (HR.out.alloc _) ⟨W'.heap.size, 0, none⟩ 1 1 [tvS x.2] rfl rfl (cell_one_new _ _ _) (by simp [Value.oneCell']) (by simp [maxLen]; omega) (by omega) (Nat.zero_le _) ?_; intro v2 w1 hown' hgrow hblk; obtain ⟨g9, cap9, rfl⟩ := ownsRow_succ hown'; obtain ⟨hv1, hv2, hr2, hk2, hb2⟩ := HV.out.appended (by decide) HR.out (Nat.zero_le _) (Nat.zero_le _) hown' hgrow; have hc1 := hv1.cell; have hf1 := hv1.frozen; have HGR : Hid _ := hgrow; have HBK : Hid _ := hblk; clear hgrow hblk)
        have hkall : Kx (fun c => c = B ∨ (Value.slice va vn vc).ownBlock = some c) W' (w1.setCell ⟨B, 0, none⟩ (.slice (some ⟨g9, 0, none⟩) (n + pre.length + 1) cap9)) := by
          have k1 : Kx (fun c => c = B ∨ (Value.slice va vn vc).ownBlock = some c) W' w1 := (Kx.of_whole (X := fun c => c = B ∨ (Value.slice va vn vc).ownBlock = some c) (below_alloc W' _)).andThen (grownBy_kx HGR.out) (fun _ _ h => h) (fun c _ h => .inr h)
          exact k1.andThen (kx_set1 (W := w1) (B := B)) (fun _ _ h => h) (fun c _ h => .inl h)
        have hvb2 : ∀ c, c < W2.heap.size + 1 → (Value.slice va vn vc).ownBlock = some c → c = gb := fun c hc h => by
          rcases HVB.out c h with h | h
          · exact h
          · rw [hszA] at h; omega
        refine ⟨hk2, ⟨?_, ?_⟩, _, hv2, ?_, fun k hk => ?_, ?_⟩
        · have e := hne W2.heap.size (.inl rfl)
          obtain ⟨o, ho⟩ : ∃ o, W'.heap[W2.heap.size]? = some o := ⟨_, Array.getElem?_eq_getElem (by omega)⟩
          rw [ho]; exact hkall.keep _ _ ho (fun h => by rcases h with h | h; exact e.1 h; exact e.2 (hvb2 _ (by omega) h))
        · have e := hne b (.inr rfl)
          obtain ⟨o, ho⟩ : ∃ o, W'.heap[b]? = some o := ⟨_, Array.getElem?_eq_getElem (by omega)⟩
          rw [ho]; exact hkall.keep _ _ ho (fun h => by rcases h with h | h; exact e.1 h; exact e.2 (hvb2 _ (by omega) h))
        · rw [show n + (pre ++ [x]).length = n + pre.length + 1 by simp; omega, show List.map tvS (r.reverse ++ List.map Prod.snd (pre ++ [x])) = List.map tvS (r.reverse ++ List.map Prod.snd pre) ++ [tvS x.2] by simp]
          exact hr2
        · cases hk
          rcases HBK.out g9 rfl with h | h
          · exact HVB.out _ h
          · refine .inr ?_; show _ ≤ g9; rw [hszA]; rw [World.size_alloc] at h; omega
        · exact HKX.out.andThen hkall (fun _ _ h => h) (fun c hc h => by rcases h with h | h; exact .inl h; exact .inr (hvb2 c (by rw [hszA] at hc; exact hc) h))
end Go.Proofs.Ytdofhlmffponoaa

/-
  (types.table).circular, walked: a step of taking away.
-/
namespace Go.Proofs.Ytdofhlmffponoaa
open Go.RowKit
attribute [local go_sem ↓] Go.wp_at_zero Go.wp_at_succ
section
variable {α : Type} [DecidableEq α]
/-- how often -/
def cntB (l : List α) (x : α) : Nat := l.count x
theorem cntB_append (a b : List α) (x : α) : cntB (a ++ b) x = cntB a x + cntB b x := by unfold cntB; exact List.count_append ..
/-- one, where they are the same -/
def eqN (y x : α) : Nat := if y = x then 1 else 0
theorem eqN_same (y : α) : eqN y y = 1 := if_pos rfl
theorem eqN_ne {y x : α} (h : y ≠ x) : eqN y x = 0 := if_neg h
theorem cntB_one (y x : α) : cntB [y] x = eqN y x := by
  unfold cntB eqN
  rw [List.count_singleton]
  by_cases e : y = x
  · simp [e]
  · simp [e]
theorem cntB_pos {l : List α} {x : α} : 0 < cntB l x ↔ x ∈ l := by unfold cntB; exact List.count_pos_iff
theorem cntB_le (l : List α) (x : α) : cntB l x ≤ l.length := by unfold cntB; exact List.count_le_length
theorem cntB_zero {l : List α} {x : α} (h : x ∉ l) : cntB l x = 0 := by unfold cntB; exact List.count_eq_zero.2 h
end
/-- a map has no more entries than names -/
theorem MpS.tight {w : World} {b n : Nat} {f : ByteArray → Option Value} {ks : List ByteArray} (h : MpS w b n f ks) : MpS w b ks.length f ks := by
  obtain ⟨D, ⟨es, clock, h1, h2, h3, h4⟩, h5⟩ := h.ex
  refine ⟨D, ⟨es, clock, h1, h2, ?_, h4⟩, h5⟩
  have := h5.size
  rw [h4] at this
  simp [Maps.size, length_sorted] at this
  omega
/-- the numbers of a map -/
def wtI (f : ByteArray → Option Value) (wt : ByteArray → Int) : Prop := ∀ s, (f s).getD (.int .i64 0) = .int .i64 (wt s)
theorem zeroI (w : World) : (zeroValue 3).run Try.prog w = .ok (.int .i64 0) w := by
  have hi : (Try.prog.info? 3).map (fun i => (i.zero, i.size, i.bytes)) = some (some (.int .i64 0), 1, 8) := by kernel_rfl
  obtain ⟨i0, h1, h2, _, _⟩ := info_parts hi
  simp [zeroValue, typeInfo, h1, h2]
theorem zeroSl (w : World) : (zeroValue 25).run Try.prog w = .ok (.slice none 0 0) w := by
  have hi : (Try.prog.info? 25).map (fun i => (i.zero, i.size, i.bytes)) = some (some (.slice none 0 0), 1, 24) := by kernel_rfl
  obtain ⟨i0, h1, h2, _, _⟩ := info_parts hi
  simp [zeroValue, typeInfo, h1, h2]
theorem wtI.ups {f : ByteArray → Option Value} {wt : ByteArray → Int} (h : wtI f wt) (s : ByteArray) (v : Int) : wtI (ups f s (.int .i64 v)) (fun x => if x = s then v else wt x) := fun x => by
  unfold Go.Proofs.Ytdofhlmffponoaa.ups
  by_cases e : x = s
  · simp [e]
  · simp only [if_neg e]; exact h x
/-- what a step answers -/
structure CiQ (W0 : World) (tb bw : Nat) (tk : Int) (hs : List ByteArray) (wt : ByteArray → Int) (kw : List ByteArray) (e : Ending) (W' : World) : Prop where
  ex : ∃ (fr : List ByteArray) (a : Option Addr) (c : Nat), e = .returned (.tuple #[.slice a fr.length c, .bool true]) ∧ W'.ownsRow W0.heap.size 9 1 (.slice a fr.length c) fr.length (fr.map Value.string) ∧ fr.Nodup ∧ (∀ s, s ∈ fr ↔ s ∈ hs ∧ wt s - (cntB hs s : Int) = 0)
  tk : W'.cell? ⟨tb, 0, none⟩ = some (.int .i64 (tk + 1))
  nf : W'.frozen? ⟨tb, 0, none⟩ = false
  wt : ∃ fw, MpS W' bw kw.length fw kw ∧ wtI fw (fun s => wt s - (cntB hs s : Int))
  kx : Kx (fun b => b = bw ∨ b = tb) W0 W'
set_option maxRecDepth 100000 in
set_option maxHeartbeats 8000000 in
theorem ci_step {W0 : World} {tb hb wb bh bw nh hc : Nat} {ha : Option Addr} {tk : Int} {x : ByteArray} {hs kh kw : List ByteArray} {fh fw : ByteArray → Option Value} {wt : ByteArray → Int} {B : BQ}
    (htb : W0.cell? ⟨tb, 0, none⟩ = some (.int .i64 tk)) (hnf : W0.frozen? ⟨tb, 0, none⟩ = false) (hhb : W0.cell? ⟨hb, 0, none⟩ = some (.map (some bh))) (hwb : W0.cell? ⟨wb, 0, none⟩ = some (.map (some bw)))
    (hH : MpS W0 bh nh fh kh) (hW : MpS W0 bw kw.length fw kw) (hwt : wtI fw wt) (hval : (fh x).getD (.slice none 0 0) = .slice ha hs.length hc) (hrow : StrV B W0 (.slice ha hs.length hc) hs) (hB : ∀ b, B b → b ≠ bw ∧ b ≠ tb)
    (hne : bw ≠ tb ∧ hb ≠ tb ∧ wb ≠ tb ∧ bh ≠ bw ∧ bh ≠ tb ∧ bw ≠ hb ∧ bw ≠ wb) (hx : x.size ≤ maxLen) (hlen : hs.length ≤ 1000000) (hcnt : ∀ s, (cntB hs s : Int) ≤ wt s) (hmax : ∀ s, wt s ≤ 1000000) (htk : 0 ≤ tk ∧ tk ≤ 1000000) (hkw : kw.length ≤ 1000000) (hks : ∀ s ∈ hs, s.size ≤ maxLen) :
    Calls Try.prog 38 #[.string x, .pointer (some ⟨tb, 0, none⟩), .pointer (some ⟨hb, 0, none⟩), .pointer (some ⟨wb, 0, none⟩)] W0 (CiQ W0 tb bw tk hs wt kw) := by
  obtain ⟨i0, hi, hz0, hz1, hz2⟩ := infoS_ex
  obtain ⟨W1, hW1⟩ : ∃ W1, W1 = W0.setCell ⟨tb, 0, none⟩ (.int .i64 (tk + 1)) := ⟨_, rfl⟩
  have hk1 : Kx (· = tb) W0 W1 := by rw [hW1]; exact kx_set
  have c1 : W1.cell? ⟨tb, 0, none⟩ = some (.int .i64 (tk + 1)) := by rw [hW1]; exact cell_same htb
  have f1 : W1.frozen? ⟨tb, 0, none⟩ = false := by rw [hW1]; exact frz_set hnf
  have c2 : W1.cell? ⟨hb, 0, none⟩ = some (.map (some bh)) := hk1.cell hhb hne.2.1
  have c3 : W1.cell? ⟨wb, 0, none⟩ = some (.map (some bw)) := hk1.cell hwb hne.2.2.1
  have hH1 : MpS W1 bh nh fh kh := hH.to hk1 hne.2.2.2.2.1
  have hW1m : MpS W1 bw kw.length fw kw := hW.to hk1 hne.1
  have hrow1 : StrV B W1 (.slice ha hs.length hc) hs := hrow.to hk1 (fun _ _ h => h) (fun b _ hb => (hB b hb).2)
  have hlk := hH1.look1 Try.underlying90 (zeroSl W1) hx
  rw [hval] at hlk
  have ht1 : tk + 1 ≤ 9223372036854775807 := by omega
  have HK1 : Hid (Kx (· = tb) W0 W1) := hk1
  have HC1 : Hid (W1.cell? ⟨tb, 0, none⟩ = some (.int .i64 (tk + 1)) ∧ W1.frozen? ⟨tb, 0, none⟩ = false) := ⟨c1, f1⟩
  have HC3 : Hid (W1.cell? ⟨wb, 0, none⟩ = some (.map (some bw))) := c3
  have HR1 : Hid (StrV B W1 (.slice ha hs.length hc) hs) := hrow1
  have HM1 : Hid (MpS W1 bw kw.length fw kw ∧ wtI fw wt) := ⟨hW1m, hwt⟩
  have HBB : Hid (∀ b, B b → b ≠ bw ∧ b ≠ tb) := hB
  have HCN : Hid ((∀ s, (cntB hs s : Int) ≤ wt s) ∧ (∀ s, wt s ≤ 1000000) ∧ (∀ s ∈ hs, s.size ≤ maxLen) ∧ kw.length ≤ 1000000) := ⟨hcnt, hmax, hks, hkw⟩
  have HBW : Hid (bw < W0.heap.size) := hW.lt
  have HS1 : Hid (W1.heap.size = W0.heap.size) := by
    show _ = _
    rw [hW1]; simp [World.setCell]
  have HNE : Hid (bw ≠ tb ∧ hb ≠ tb ∧ wb ≠ tb ∧ bh ≠ bw ∧ bh ≠ tb ∧ bw ≠ hb ∧ bw ≠ wb) := hne
  clear hk1 c1 f1 c3 hH1 hW1m hrow1 hH hW hwt hval hrow hB hcnt hmax hks hkw hne hhb hwb
  subst hW1
  go_enter Try.func38, Try.ntmps38
  go_wp2_with fail
  generalize W0.setCell ⟨tb, 0, none⟩ (.int .i64 (tk + 1)) = W1 at *
  go_loopg [7, 16] hs.length (fun gh u7 u16 wr => ∃ (k : Nat) (fr : List ByteArray) (fa : Option Addr) (fc : Nat), k ≤ hs.length ∧ hs.length - k ≤ gh ∧ u16 = .int .i64 k ∧ u7 = .slice fa fr.length fc ∧ fr.length ≤ k ∧ Hid (wr.ownsRow W0.heap.size 9 1 (.slice fa fr.length fc) fr.length (fr.map Value.string)) ∧ Hid (fr.Nodup ∧ (∀ s, s ∈ fr ↔ s ∈ hs.take k ∧ wt s - (cntB (hs.take k) s : Int) = 0)) ∧ Hid (Kx (· = bw) W1 wr ∧ ∃ fw', MpS wr bw kw.length fw' kw ∧ wtI fw' (fun s => wt s - (cntB (hs.take k) s : Int))))
  case atStart => exact ⟨0, [], none, 0, Nat.zero_le _, Nat.le_refl _, rfl, rfl, Nat.le_refl _, World.ownsRow_nil _ _ _ _, ⟨List.nodup_nil, fun s => by simp⟩, Kx.refl _ _, fw, HM1.out.1, by
    have h0 : ∀ s : ByteArray, cntB ([] : List ByteArray) s = 0 := fun s => rfl
    intro s
    simp only [List.take_zero, h0]
    have := HM1.out.2 s
    simpa using this⟩
  case round =>
    obtain ⟨k, fr, fa, fc, hk, hg, rfl, rfl, hfk, HO, HF, HX⟩ := hrel
    obtain ⟨hkx, fw', hmp, hwI⟩ := HX.out
    have hrw := HR1.out.to hkx (fun _ _ h => h) (fun b _ hb => (HBB.out b hb).1)
    have c3 : wr.cell? ⟨wb, 0, none⟩ = some (.map (some bw)) := hkx.cell HC3.out (fun e => HNE.out.2.2.2.2.2.2 e.symm)
    have HKX : Hid (Kx (· = bw) W1 wr) := hkx
    have HHO : Hid (wr.ownsRow W0.heap.size 9 1 (.slice fa fr.length fc) fr.length (fr.map Value.string)) := HO.out
    by_cases hlt : k < hs.length
    · have z1 : (k : Int) < (hs.length : Int) := by omega
      have z0 : (0 : Int) ≤ (k : Int) := by omega
      obtain ⟨rb, ro, rfl, hcy⟩ := hrw.get hlt
      have HLT : Hid (k < hs.length) := hlt
      obtain ⟨y, hy⟩ : ∃ y, y = hs[k] := ⟨_, rfl⟩
      have hcy2 : wr.cell? ⟨rb, ro + k, none⟩ = some (.string y) := by rw [hy]; exact hcy
      have htk2 : ∀ s, cntB (hs.take (k + 1)) s = cntB (hs.take k) s + eqN y s := fun s => by
        rw [List.take_succ_eq_append_getElem hlt, cntB_append, cntB_one, hy]
        rfl
      have HYM : Hid (y ∈ hs) := by rw [hy]; exact List.getElem_mem _
      have HTK : Hid (hs.take (k + 1) = hs.take k ++ [y]) := by rw [hy]; exact List.take_succ_eq_append_getElem hlt
      clear hcy hy
      have hle : ∀ s, cntB (hs.take (k + 1)) s ≤ cntB hs s := fun s => by
        have := cntB_append (hs.take (k + 1)) (hs.drop (k + 1)) s
        rw [List.take_append_drop] at this
        omega
      have hys := HCN.out.2.2.1 y HYM.out
      obtain ⟨v, hv⟩ : ∃ v, v = wt y - (cntB (hs.take k) y : Int) := ⟨_, rfl⟩
      have hv1 : 1 ≤ v := by
        have h1 := HCN.out.1 y
        have h2 := hle y
        have h3 := htk2 y
        rw [eqN_same] at h3
        omega
      have hv2 : v ≤ 1000000 := by have := HCN.out.2.1 y; omega
      have hl1 := hmp.look1 Try.underlying89 (zeroI wr) hys
      rw [hwI y] at hl1
      simp only at hl1
      rw [← hv] at hl1
      have hin : y ∈ kw := by
        obtain ⟨D, _, hD⟩ := hmp.ex
        refine (hD.mem y).2 ?_
        have h1 := hwI y
        cases e : fw' y with
        | some u => rfl
        | none =>
          rw [e] at h1
          simp only [Option.getD_none] at h1
          injection h1 with _ h1
          omega
      obtain ⟨w2, hup, hM2, hk2, hzw2⟩ := hmp.upd Try.underlying89 hys (by have := HCN.out.2.2.2; unfold maxLen; omega) (.int .i64 (v - 1))
      rw [insK_in hin] at hM2
      have hM2t := hM2.tight
      have hwI2 : wtI (ups fw' y (.int .i64 (v - 1))) (fun s => wt s - (cntB (hs.take (k + 1)) s : Int)) := fun s => by
        have h1 := (hwI.ups y (v - 1)) s
        rw [h1]
        congr 1
        by_cases e : s = y
        · subst e
          have h3 := htk2 s
          rw [eqN_same] at h3
          simp only [if_pos]
          omega
        · have h3 := htk2 s
          rw [eqN_ne (fun h => e h.symm)] at h3
          simp only [if_neg e]
          omega
      have hl2 := hM2t.look1 Try.underlying89 (zeroI w2) hys
      rw [hwI2 y] at hl2
      simp only at hl2
      have hv3 : wt y - (cntB (hs.take (k + 1)) y : Int) = v - 1 := by
        have h3 := htk2 y
        rw [eqN_same] at h3
        omega
      rw [hv3] at hl2
      have d3 : w2.cell? ⟨wb, 0, none⟩ = some (.map (some bw)) := hk2.cell c3 (fun e => HNE.out.2.2.2.2.2.2 e.symm)
      have hO2 : w2.ownsRow W0.heap.size 9 1 (.slice fa fr.length fc) fr.length (fr.map Value.string) := own_kx HHO.out hk2 (fun k0 e0 => by
        have h1 := (HHO.out.lt k0 e0).1
        have h2 := HNE.out.2.2.2.2.2.2
        have h3 := HBW.out
        omega)
      have HO2 : Hid (w2.ownsRow W0.heap.size 9 1 (.slice fa fr.length fc) fr.length (fr.map Value.string)) := hO2
      have HM2 : Hid (MpS w2 bw kw.length (ups fw' y (.int .i64 (v - 1))) kw ∧ wtI (ups fw' y (.int .i64 (v - 1))) (fun s => wt s - (cntB (hs.take (k + 1)) s : Int))) := ⟨hM2t, hwI2⟩
      have HK2 : Hid (Kx (· = bw) W1 w2) := hkx.trans hk2
      have HZ2 : Hid (W0.heap.size ≤ w2.heap.size) := by
        have h1 := HK1.out.size
        have h2 := hkx.size
        have h3 := hk2.size
        show _ ≤ _
        omega
      have HV : Hid (wt y - (cntB (hs.take (k + 1)) y : Int) = v - 1) := hv3
      have HEN : Hid (∀ s, s ≠ y → cntB (hs.take (k + 1)) s = cntB (hs.take k) s) := fun s e => by
        have h3 := htk2 s
        rw [eqN_ne (fun h => e h.symm)] at h3
        omega
      have HVV : Hid (v = wt y - (cntB (hs.take k) y : Int)) := hv
      have hfl : fr.length ≤ 1000000 := by omega
      have hzz := HZ2.out
      clear hO2 hM2 hM2t hwI2 hk2 hmp hwI hkx htk2 hle hv3 hv hrw hin hzw2
      have b1 : v - 1 ≤ 9223372036854775807 := by omega
      have b2 : -9223372036854775808 ≤ v - 1 := by omega
      by_cases hv0 : v - 1 = 0
      · have e0 : (v - 1 == 0) = true := int_beq hv0
        have HV0 : Hid (v - 1 = 0) := hv0
        clear hv0
        go_wp2_with (at_builtin; refine wpList_append_own _ rfl _ _ 25 rfl W0.heap.size 9 i0 (.string ⟨#[]⟩) 1 16 Try.underlying25 hi hz0 hz1 hz2 rfl (by decide) _ _ _ rfl (HO2.out.alloc _) ⟨w2.heap.size, 0, none⟩ 1 1 [.string y] rfl rfl (cell_one_new _ _ _) (by simp [Value.oneCell']) (by simp [maxLen]; omega) (by omega) (by simp; omega) ?_; intro v' w3 hown' hgrow _; obtain ⟨g9, cap9, rfl⟩ := ownsRow_succ hown'; have HO3 : Hid (w3.ownsRow W0.heap.size 9 1 (.slice (some ⟨g9, 0, none⟩) (fr.length + 1) cap9) (fr.length + 1) (fr.map Value.string ++ [.string y])) := hown'; have HG3 : Hid (Kx (fun b => (Value.slice fa fr.length fc).ownBlock = some b) w2 w3) := (Kx.of_whole (below_alloc _ _)).trans (grownBy_kx hgrow); clear hown' hgrow)
        have hbw2 : ∀ b, (Value.slice fa fr.length fc).ownBlock = some b → W0.heap.size ≤ b := fun b e => (HO2.out.lt b e).1
        have hlw := HBW.out
        go_roundg (hs.length - (k + 1))
        case measure => have := HLT.out; omega
        case rel =>
          refine ⟨k + 1, fr ++ [y], some ⟨g9, 0, none⟩, cap9, by have := HLT.out; omega, Nat.le_refl _, by go_num, by simp, by simp; omega, ?_, ⟨?_, fun s => ?_⟩, HK2.out.andThen HG3.out (fun b _ h => h) (fun b hb h => by have h1 := hbw2 b h; have h2 := HS1.out; omega), _, HM2.out.1.to HG3.out (fun e => by have := hbw2 bw e; omega), HM2.out.2⟩
          · have h1 := HO3.out
            have e1 : (fr ++ [y]).length = fr.length + 1 := by simp
            show World.ownsRow _ _ _ _ _ _ _
            rw [e1, List.map_append]
            exact h1
          · rw [List.nodup_append]
            refine ⟨HF.out.1, by simp, fun a ha c hc hac => ?_⟩
            rw [List.mem_singleton.1 hc] at hac
            rw [hac] at ha
            have h1 := ((HF.out.2 y).1 ha).2
            have h2 := HVV.out
            have h3 := HV0.out
            omega
          · by_cases e : s = y
            · subst e
              have h1 := HV.out
              have h2 := HV0.out
              rw [HTK.out] at h1 ⊢
              simp
              omega
            · have h1 := HF.out.2 s
              have h2 := HEN.out s e
              rw [h2, HTK.out]
              simp only [List.mem_append, List.mem_singleton, e, or_false]
              exact h1
      · have e0 : (v - 1 == 0) = false := int_bne hv0
        have HV0 : Hid (v - 1 ≠ 0) := hv0
        clear hv0
        go_wp2_with fail
        go_roundg (hs.length - (k + 1))
        case measure => have := HLT.out; omega
        case rel =>
          refine ⟨k + 1, fr, fa, fc, by have := HLT.out; omega, Nat.le_refl _, by go_num, rfl, by omega, HO2.out, ⟨HF.out.1, fun s => ?_⟩, HK2.out, _, HM2.out.1, HM2.out.2⟩
          by_cases e : s = y
          · subst e
            have h1 := HV.out
            have h2 := HV0.out
            have h3 := HVV.out
            have h4 := HF.out.2 s
            constructor
            · intro h
              have := (h4.1 h).2
              omega
            · intro h
              have := h.2
              omega
          · have h1 := HF.out.2 s
            have h2 := HEN.out s e
            rw [h2, HTK.out]
            simp only [List.mem_append, List.mem_singleton, e, or_false]
            exact h1
    · have z1 : ¬ (k : Int) < (hs.length : Int) := by omega
      have hke : hs.take k = hs := List.take_of_length_le (by omega)
      have HM2 : Hid (∃ fw, MpS wr bw kw.length fw kw ∧ wtI fw (fun s => wt s - (cntB hs s : Int))) := by
        rw [hke] at hwI
        exact ⟨fw', hmp, hwI⟩
      have HF2 : Hid (fr.Nodup ∧ (∀ s, s ∈ fr ↔ s ∈ hs ∧ wt s - (cntB hs s : Int) = 0)) := by
        have := HF.out
        rw [hke] at this
        exact this
      clear hmp hwI hrw hkx hke
      go_wp2_with fail
      have hk2 : Kx (fun b => b = bw ∨ b = tb) W0 wr := HK1.out.andThen HKX.out (fun b _ h => .inr h) (fun b _ h => .inl h)
      have hnt : ¬ tb = bw := fun e => HNE.out.1 e.symm
      have htz : tb < W1.heap.size := World.block_lt_of_cell? _ _ HC1.out.1
      exact bodyPost_ret (results_duo rfl rfl rfl) rfl ⟨⟨fr, fa, fc, rfl, HHO.out, HF2.out.1, HF2.out.2⟩, HKX.out.cell HC1.out.1 hnt, frz_kx HKX.out HC1.out.2 htz hnt, HM2.out, hk2⟩
end Go.Proofs.Ytdofhlmffponoaa

/-
  (types.table).circular, walked: taking away.
-/
namespace Go.Proofs.Ytdofhlmffponoaa
open Go.RowKit
attribute [local go_sem ↓] Go.wp_at_zero Go.wp_at_succ
theorem lft_cnt {α : Type} [DecidableEq α] (T : List α) (x : α) (hx : x ∉ T) (l : List α) : lft (T ++ [x]) l + cntB l x = lft T l := lft_snoc T x hx l
theorem Khn.took {α : Type} [DecidableEq α] {H : α → List α} {keys T l : List α} {x : α} {wt wt' : α → Int} (h : Khn H keys T (x :: l) wt) {fr : List α} (hw : ∀ s ∈ keys, wt' s = wt s - (cntB (H s) x : Int)) (hf : fr.Nodup) (hm : ∀ s, s ∈ fr ↔ s ∈ keys ∧ x ∈ H s ∧ wt' s = 0) : Khn H keys (T ++ [x]) (fr ++ l) wt' := h.take hw hf hm
/-- what stays while one after another is taken away -/
structure CiC (w0 : World) (tb hb wb bh bw : Nat) (B : BQ) (keys kw : List ByteArray) (H hsF : ByteArray → List ByteArray) : Prop where
  hhb : w0.cell? ⟨hb, 0, none⟩ = some (.map (some bh))
  hwb : w0.cell? ⟨wb, 0, none⟩ = some (.map (some bw))
  hol : ∃ nh fh kh, MpS w0 bh nh fh kh ∧ ∀ x ∈ keys, ∃ ha hc, (fh x).getD (.slice none 0 0) = .slice ha (hsF x).length hc ∧ StrV B w0 (.slice ha (hsF x).length hc) (hsF x)
  hB : ∀ b, B b → b ≠ bw ∧ b ≠ tb
  hne : bw ≠ tb ∧ hb ≠ tb ∧ wb ≠ tb ∧ bh ≠ bw ∧ bh ≠ tb ∧ bw ≠ hb ∧ bw ≠ wb
  low : tb < w0.heap.size ∧ bw < w0.heap.size
  cnt : ∀ x ∈ keys, (∀ s ∈ keys, cntB (hsF x) s = cntB (H s) x) ∧ (∀ s ∈ hsF x, s ∈ keys) ∧ (hsF x).length ≤ 1000000
  sz : (∀ x ∈ keys, x.size ≤ maxLen) ∧ keys.length ≤ 1000000 ∧ kw.length ≤ 1000000
/-- between two steps -/
structure CiI (w0 : World) (tb hb wb bh bw : Nat) (B : BQ) (keys kw : List ByteArray) (H hsF : ByteArray → List ByteArray) (g : Nat) (X : Nat → Prop) (l : List ByteArray) (W : World) : Prop where
  kx : Kx (fun b => b = bw ∨ b = tb) w0 W
  all : ∀ b, b < w0.heap.size → X b
  lt : ∀ b, X b → b < W.heap.size
  nf : W.frozen? ⟨tb, 0, none⟩ = false
  ex : ∃ (T : List ByteArray) (wt : ByteArray → Int) (fw : ByteArray → Option Value), Khn H keys T l wt ∧ T.length + g = keys.length ∧ W.cell? ⟨tb, 0, none⟩ = some (.int .i64 (T.length : Int)) ∧ MpS W bw kw.length fw kw ∧ wtI fw wt ∧ ∀ s, 0 ≤ wt s ∧ wt s ≤ 1000000
section
variable {w0 : World} {tb hb wb bh bw : Nat} {B : BQ} {keys kw : List ByteArray} {H hsF : ByteArray → List ByteArray} {g : Nat} {X : Nat → Prop} {l : List ByteArray} {W W' : World}
theorem CiI.stable (hc : CiC w0 tb hb wb bh bw B keys kw H hsF) (h : CiI w0 tb hb wb bh bw B keys kw H hsF g X l W) (hk : Kx (fun b => ¬ X b) W W') : CiI w0 tb hb wb bh bw B keys kw H hsF g X l W' := by
  obtain ⟨T, wt, fw, e1, e2, e3, e4, e5, e6⟩ := h.ex
  have h1 : ¬ ¬ X tb := fun hn => hn (h.all tb hc.low.1)
  have h2 : ¬ ¬ X bw := fun hn => hn (h.all bw hc.low.2)
  exact ⟨h.kx.andThen hk (fun b _ h => h) (fun b hb hx => absurd (h.all b hb) hx), h.all, fun b hb => Nat.lt_of_lt_of_le (h.lt b hb) hk.size, frz_kx hk h.nf (World.block_lt_of_cell? _ _ e3) h1, T, wt, fw, e1, e2, hk.cell e3 h1, e4.to hk h2, e5, e6⟩
theorem CiI.len (hc : CiC w0 tb hb wb bh bw B keys kw H hsF) (h : CiI w0 tb hb wb bh bw B keys kw H hsF g X l W) : l.length ≤ 1000000 := by
  obtain ⟨T, wt, fw, e1, _⟩ := h.ex
  have := nodup_le e1.nd e1.sub
  have := hc.sz.2.1
  rw [List.length_append] at *
  omega
theorem CiI.call (hc : CiC w0 tb hb wb bh bw B keys kw H hsF) {x : ByteArray} {r : List ByteArray} (h : CiI w0 tb hb wb bh bw B keys kw H hsF g X (x :: r) W) : Calls Try.prog 38 #[tvS x, .pointer (some ⟨tb, 0, none⟩), .pointer (some ⟨hb, 0, none⟩), .pointer (some ⟨wb, 0, none⟩)] W (SpS (CiI w0 tb hb wb bh bw B keys kw H hsF) (fun _ _ => False) g X r W) := by
  obtain ⟨T, wt, fw, hK, hTg, htk, hmp, hwI, hwb⟩ := h.ex
  obtain ⟨nh, fh, kh, hmh, hrows⟩ := hc.hol
  have hxk : x ∈ keys := hK.sub x (by simp)
  obtain ⟨ha, hcc, hval, hrow⟩ := hrows x hxk
  obtain ⟨hc1, hc2, hc3⟩ := hc.cnt x hxk
  have hle := nodup_le hK.nd hK.sub
  simp only [List.length_append, List.length_cons] at hle
  have hkl := hc.sz.2.1
  have hcnt : ∀ s, (cntB (hsF x) s : Int) ≤ wt s := fun s => by
    by_cases hs : s ∈ keys
    · rw [hc1 s hs, hK.cnt s hs]
      have hxT : x ∉ T := fun hx => by
        have := hK.nd
        rw [List.nodup_append] at this
        exact this.2.2 x hx x (by simp) rfl
      have h3 := lft_cnt T x hxT (H s)
      omega
    · rw [cntB_zero (fun hin => hs (hc2 s hin))]
      have := (hwb s).1
      simpa using this
  refine (ci_step (B := B) htk h.nf (h.kx.cell hc.hhb (fun e => by rcases e with e | e; exact hc.hne.2.2.2.2.2.1 e.symm; exact hc.hne.2.1 e)) (h.kx.cell hc.hwb (fun e => by rcases e with e | e; exact hc.hne.2.2.2.2.2.2 e.symm; exact hc.hne.2.2.1 e)) (hmh.to h.kx (fun e => by rcases e with e | e; exact hc.hne.2.2.2.1 e; exact hc.hne.2.2.2.2.1 e)) hmp hwI hval (hrow.to h.kx (fun _ _ h => h) (fun b _ hb e => by rcases e with e | e; exact (hc.hB b hb).1 e; exact (hc.hB b hb).2 e)) hc.hB hc.hne (hc.sz.1 x hxk) hc3 hcnt (fun s => (hwb s).2) ⟨by omega, by omega⟩ hc.sz.2.2 (fun s hs => hc.sz.1 s (hc2 s hs))).mono ?_
  intro e W5 hq
  obtain ⟨fr, a5, c5, rfl, ho, hfn, hfm⟩ := hq.ex
  obtain ⟨fw5, hm5, hw5⟩ := hq.wt
  have hfk : ∀ s ∈ fr, s ∈ keys := fun s hs => hc2 s ((hfm s).1 hs).1
  have hfl := nodup_le hfn hfk
  have hK5 : Khn H keys (T ++ [x]) (fr ++ r) (fun s => wt s - (cntB (hsF x) s : Int)) := hK.took (fun s hs => by rw [← hc1 s hs]) hfn (fun s => by
      rw [hfm s]
      constructor
      · rintro ⟨h1, h2⟩
        have hs := hc2 s h1
        refine ⟨hs, ?_, h2⟩
        rw [← cntB_pos, ← hc1 s hs, cntB_pos]
        exact h1
      · rintro ⟨h1, h2, h3⟩
        refine ⟨?_, h3⟩
        rw [← cntB_pos, hc1 s h1, cntB_pos]
        exact h2)
  refine .inl ⟨a5, fr.length, c5, fr, g - 1, fun b => X b ∨ (W.heap.size ≤ b ∧ b < W5.heap.size), rfl, ?_, by omega, ?_, ?_, fun b hb hx => hx.resolve_right (by omega)⟩
  · exact rowV_own (f := tvS) (w := W5) ho rfl (by omega) (fun k hk => by have := ho.lt k hk; exact .inr ⟨this.1, this.2⟩) (Nat.le_refl _) (fun _ _ _ _ h => h)
  · refine ⟨h.kx.andThen hq.kx (fun b _ h => h) (fun b _ h => h), fun b hb => .inl (h.all b hb), ?_, hq.nf, T ++ [x], _, fw5, hK5, by simp; omega, by rw [hq.tk]; simp, hm5, hw5, fun s => ?_⟩
    · rintro b (hx | hx)
      · have := h.lt b hx; have := hq.kx.size; omega
      · exact hx.2
    · have h1 := hcnt s
      have h2 := (hwb s).2
      show 0 ≤ wt s - (cntB (hsF x) s : Int) ∧ wt s - (cntB (hsF x) s : Int) ≤ 1000000
      omega
  · have hk5 := hq.kx
    exact ⟨hk5.os, hk5.tape, hk5.output, hk5.size, fun b x hb hX => hk5.keep b x hb (fun hx => hX (by
      rcases hx with hx | hx
      · rw [hx]; exact h.all bw hc.low.2
      · rw [hx]; exact h.all tb hc.low.1))⟩
end
theorem enterCi : ∀ args w, (callFunc 38 args).run Try.prog w = .ok (.enter 38 args) w := enters_of Try.func38 (by kernel_rfl) rfl
/-- taking away ends with as many taken as can be -/
theorem ciW {w0 : World} {tb hb wb bh bw fc : Nat} {fa : Option Addr} {B : BQ} {keys kw fs : List ByteArray} {H hsF : ByteArray → List ByteArray} {wt : ByteArray → Int} {fw : ByteArray → Option Value} (hc : CiC w0 tb hb wb bh bw B keys kw H hsF) (hkn : keys.Nodup) (hH : ∀ a ∈ keys, ∀ b ∈ H a, b ∈ keys) (hK : Khn H keys [] fs wt) (htk : w0.cell? ⟨tb, 0, none⟩ = some (.int .i64 0)) (hnf : w0.frozen? ⟨tb, 0, none⟩ = false) (hmp : MpS w0 bw kw.length fw kw) (hwI : wtI fw wt) (hwb : ∀ s, 0 ≤ wt s ∧ wt s ≤ 1000000) (hf : Src w0 (.slice fa fs.length fc) fs.length (fs.map tvS)) :
    Calls Try.prog 37 #[.func (.func 38) #[] #[.pointer (some ⟨tb, 0, none⟩), .pointer (some ⟨hb, 0, none⟩), .pointer (some ⟨wb, 0, none⟩)], .slice fa fs.length fc] w0 fun e w' => e = .returned (.bool true) ∧ Kx (fun b => b = bw ∨ b = tb) w0 w' ∧ ∃ n : Nat, w'.cell? ⟨tb, 0, none⟩ = some (.int .i64 (n : Int)) ∧ n ≤ keys.length ∧ (n < keys.length ↔ ∃ a ∈ keys, Rch H a a) := by
  have h0 : CiI w0 tb hb wb bh bw B keys kw H hsF keys.length (fun b => b < w0.heap.size) fs w0 :=
    ⟨Kx.refl _ _, fun _ h => h, fun _ h => h, hnf, [], wt, fw, hK, by simp, htk, hmp, hwI, hwb⟩
  refine (walkS (I := CiI w0 tb hb wb bh bw B keys kw H hsF) (Bad := fun _ _ => False) 38 #[.pointer (some ⟨tb, 0, none⟩), .pointer (some ⟨hb, 0, none⟩), .pointer (some ⟨wb, 0, none⟩)] enterCi (fun _ _ _ _ _ h hk => h.stable hc hk) (fun _ _ _ h _ => h) (fun _ _ _ _ h => h.lt) (fun _ _ _ _ h => h.len hc) (fun g X x r W h => by simpa using h.call hc) keys.length fs fa fc w0 hf h0).mono ?_
  rintro e w' (⟨rfl, g, X, h⟩ | ⟨rfl, X, h⟩)
  · obtain ⟨T, wt', fw', e1, e2, e3, _⟩ := h.ex
    exact ⟨rfl, h.kx, T.length, e3, by omega, e1.done hH hkn⟩
  · exact h.elim
end Go.Proofs.Ytdofhlmffponoaa

/-
  A map of rows of texts that grow.
-/
namespace Go.Proofs.Ytdofhlmffponoaa
open Go.RowKit
section
variable {α β : Type} [DecidableEq α]
/-- a function, but at one place -/
def upF (f : α → β) (a : α) (b : β) : α → β := fun x => if x = a then b else f x
theorem upF_same (f : α → β) (a : α) (b : β) : upF f a b a = b := if_pos rfl
theorem upF_ne (f : α → β) {a x : α} (b : β) (h : x ≠ a) : upF f a b x = f x := if_neg h
end
theorem ups_same (f : ByteArray → Option Value) (s : ByteArray) (v : Value) : ups f s v s = some v := if_pos rfl
theorem ups_ne (f : ByteArray → Option Value) {s x : ByteArray} (v : Value) (h : x ≠ s) : ups f s v x = f x := if_neg h
/-- the map at bh has under each name a row of its own; no row lies in a block of fb -/
structure GrS (W : World) (N0 bh : Nat) (fb : Nat → Prop) (f : ByteArray → Option Value) (ks : List ByteArray) (hsF : ByteArray → List ByteArray) : Prop where
  mp : MpS W bh ks.length f ks
  lo : bh < N0
  no : ∀ s, f s = none → hsF s = []
  ro : ∀ s v, f s = some v → ∃ g c, v = .slice (some ⟨g, 0, none⟩) (hsF s).length c ∧ W.ownsRow N0 9 1 v (hsF s).length ((hsF s).map Value.string)
  dj : ∀ s s' v v' g, f s = some v → f s' = some v' → v.ownBlock = some g → v'.ownBlock = some g → s = s'
  fr : ∀ s v g, f s = some v → v.ownBlock = some g → ¬ fb g
theorem GrS.to {X : Nat → Prop} {W W' : World} {N0 bh : Nat} {fb : Nat → Prop} {f : ByteArray → Option Value} {ks : List ByteArray} {hsF : ByteArray → List ByteArray} (h : GrS W N0 bh fb f ks hsF) (hk : Kx X W W') (hX : ∀ b, X b → b ≠ bh ∧ (b < N0 ∨ fb b)) : GrS W' N0 bh fb f ks hsF :=
  ⟨h.mp.to hk (fun e => (hX bh e).1 rfl), h.lo, h.no, fun s v e => by
    obtain ⟨g, c, rfl, ho⟩ := h.ro s v e
    exact ⟨g, c, rfl, own_kx ho hk (fun k ek hx => by
      rcases (hX k hx).2 with h1 | h1
      · have := (ho.lt k ek).1; omega
      · exact h.fr s _ k e ek h1)⟩, h.dj, h.fr⟩
theorem GrS.kept {W W' : World} {N0 bh : Nat} {fb : Nat → Prop} {f : ByteArray → Option Value} {ks : List ByteArray} {hsF : ByteArray → List ByteArray} (h : GrS W N0 bh fb f ks hsF) (hk : Below W.heap.size W W') : GrS W' N0 bh fb f ks hsF := h.to (X := fun _ => False) (Kx.of_whole hk) (fun _ h => h.elim)
/-- what stands under a name -/
theorem GrS.val {W : World} {N0 bh : Nat} {fb : Nat → Prop} {f : ByteArray → Option Value} {ks : List ByteArray} {hsF : ByteArray → List ByteArray} (h : GrS W N0 bh fb f ks hsF) (s : ByteArray) : ∃ a c, (f s).getD (.slice none 0 0) = .slice a (hsF s).length c ∧ W.ownsRow N0 9 1 (.slice a (hsF s).length c) (hsF s).length ((hsF s).map Value.string) ∧ (∀ g, (Value.slice a (hsF s).length c).ownBlock = some g → ¬ fb g ∧ g ≠ bh) := by
  cases e : f s with
  | none =>
    rw [h.no s e]
    exact ⟨none, 0, rfl, World.ownsRow_nil _ _ _ _, fun g eg => by cases eg⟩
  | some v =>
    obtain ⟨g, c, rfl, ho⟩ := h.ro s v e
    exact ⟨_, c, rfl, ho, fun k ek => ⟨h.fr s _ k e ek, fun e2 => by have := (ho.lt k ek).1; have := h.lo; omega⟩⟩
/-- a row grows -/
theorem GrS.push {W w9 w10 : World} {N0 bh n' gg cap : Nat} {fb : Nat → Prop} {f : ByteArray → Option Value} {ks : List ByteArray} {hsF : ByteArray → List ByteArray} (h : GrS W N0 bh fb f ks hsF) {s nm : ByteArray} {a : Option Addr} {c : Nat} (hv : (f s).getD (.slice none 0 0) = .slice a (hsF s).length c) (hk9 : Kx (fun b => (Value.slice a (hsF s).length c).ownBlock = some b) W w9) (ho9 : w9.ownsRow N0 9 1 (.slice (some ⟨gg, 0, none⟩) ((hsF s).length + 1) cap) ((hsF s).length + 1) ((hsF s).map Value.string ++ [.string nm])) (hat : (Value.slice a (hsF s).length c).ownBlock = some gg ∨ W.heap.size ≤ gg) (hfb : ∀ k, fb k → k < W.heap.size) (hm10 : MpS w10 bh n' (ups f s (.slice (some ⟨gg, 0, none⟩) ((hsF s).length + 1) cap)) (insK ks s)) (hk10 : Kx (· = bh) w9 w10) : GrS w10 N0 bh fb (ups f s (.slice (some ⟨gg, 0, none⟩) ((hsF s).length + 1) cap)) (insK ks s) (upF hsF s (hsF s ++ [nm])) := by
  have hold : ∀ g, (Value.slice a (hsF s).length c).ownBlock = some g → f s = some (.slice a (hsF s).length c) := fun g eg => by
    cases e : f s with
    | none => rw [e] at hv; simp at hv; rw [← hv.1] at eg; cases eg
    | some v => rw [e] at hv; simp at hv; rw [hv]
  have hN : N0 ≤ gg := (ho9.lt gg rfl).1
  have hgb : gg ≠ bh := by have := h.lo; omega
  have hln : (hsF s ++ [nm]).length = (hsF s).length + 1 := by simp
  have hoth : ∀ s' v', s' ≠ s → f s' = some v' → ∀ k, v'.ownBlock = some k → (Value.slice a (hsF s).length c).ownBlock ≠ some k ∧ k ≠ gg := fun s' v' hne e k ek => by
    refine ⟨fun e2 => hne (h.dj s' s v' _ k e (hold k e2) ek e2), fun e3 => ?_⟩
    subst e3
    rcases hat with h1 | h1
    · exact hne (h.dj s' s v' _ k e (hold k h1) ek h1)
    · obtain ⟨g, c', rfl, ho⟩ := h.ro s' v' e
      have := (ho.lt k ek).2
      omega
  refine ⟨hm10.tight, h.lo, fun x hx => ?_, fun x v hx => ?_, fun x y v v' k hx hy ex ey => ?_, fun x v k hx ex => ?_⟩
  · by_cases e : x = s
    · subst e; rw [ups_same] at hx; cases hx
    · rw [ups_ne f _ e] at hx
      rw [upF_ne hsF _ e]
      exact h.no x hx
  · by_cases e : x = s
    · subst e
      rw [ups_same] at hx
      injection hx with hx
      subst hx
      rw [upF_same, hln, List.map_append]
      exact ⟨gg, cap, rfl, own_kx ho9 hk10 (fun k ek => by
        have : gg = k := by simpa [Value.ownBlock] using ek
        rw [← this]; exact hgb)⟩
    · rw [ups_ne f _ e] at hx
      rw [upF_ne hsF _ e]
      obtain ⟨g, c', rfl, ho⟩ := h.ro x v hx
      refine ⟨g, c', rfl, own_kx (own_kx ho hk9 (fun k ek => (hoth x _ e hx k ek).1)) hk10 (fun k ek => by
        have := (ho.lt k ek).1
        have := h.lo
        omega)⟩
  · by_cases e1 : x = s
    · by_cases e2 : y = s
      · rw [e1, e2]
      · subst e1
        rw [ups_same] at hx
        injection hx with hx
        subst hx
        rw [ups_ne f _ e2] at hy
        have : gg = k := by simpa [Value.ownBlock] using ex
        exact absurd this.symm (hoth y v' e2 hy k ey).2
    · by_cases e2 : y = s
      · subst e2
        rw [ups_same] at hy
        injection hy with hy
        subst hy
        rw [ups_ne f _ e1] at hx
        have : gg = k := by simpa [Value.ownBlock] using ey
        exact absurd this.symm (hoth x v e1 hx k ex).2
      · rw [ups_ne f _ e1] at hx
        rw [ups_ne f _ e2] at hy
        exact h.dj x y v v' k hx hy ex ey
  · by_cases e : x = s
    · subst e
      rw [ups_same] at hx
      injection hx with hx
      subst hx
      have e3 : gg = k := by simpa [Value.ownBlock] using ex
      subst e3
      rcases hat with h1 | h1
      · exact h.fr x _ gg (hold gg h1) h1
      · intro e4
        have := hfb gg e4
        omega
    · rw [ups_ne f _ e] at hx
      exact h.fr x v k hx ex
end Go.Proofs.Ytdofhlmffponoaa

