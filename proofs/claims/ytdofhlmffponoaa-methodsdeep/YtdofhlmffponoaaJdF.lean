/-
  (types.table).closed, walked.
-/
import Derived.Test.YtdofhlmffponoaaJdE
import Derived.Test.YtdofhlmffponoaaJdD
namespace Go.Proofs.Ytdofhlmffponoaa
open Go.RowKit
attribute [local go_sem ↓] Go.wp_at_zero Go.wp_at_succ
/-- are all declared types of a declared one there? -/
def Nmd.clo (ks : List ByteArray) (t : Nmd) : Bool := t.under.kno ks && t.mths.all (fun m => m.sig.kno ks)
/-- what can be walked -/
structure NmS (t : Nmd) : Prop where
  nm : t.name.size ≤ maxLen
  us : t.under.nsz = true
  uc : t.under.cnt ≤ 1000000
  ms : ∀ m ∈ t.mths, m.sig.nsz = true ∧ m.sig.cnt ≤ 1000000
theorem SlM.get {B : BQ} {W : World} {a : Option Addr} {n c : Nat} {l : List Mth} (h : SlM B W (.slice a n c) l) : n = l.length ∧ ∀ i (hi : i < l.length), ∃ b o, a = some ⟨b, o, none⟩ ∧ b < W.heap.size ∧ B b ∧ (l[i]).lies B W b (o + i * 9) := by
  rcases h with ⟨a', c', e, rfl⟩ | ⟨b, o, c', e, h2, h3, h4, h5⟩
  · simp at e
    exact ⟨by simp [e], fun i hi => by cases hi⟩
  · simp at e
    exact ⟨e.2.1, fun i hi => ⟨b, o, e.1, h3, h4, h5 i hi⟩⟩
theorem nodup_name {l : List Nmd} (h : (l.map Nmd.name).Nodup) {t u : Nmd} (ht : t ∈ l) (hu : u ∈ l) (e : t.name = u.name) : t = u := by
  induction l with
  | nil => cases ht
  | cons x r ih =>
    rw [List.map_cons, List.nodup_cons] at h
    rcases List.mem_cons.1 ht with e1 | ht1
    · rcases List.mem_cons.1 hu with e2 | hu1
      · rw [e1, e2]
      · exact absurd (show x.name ∈ r.map Nmd.name from List.mem_map.2 ⟨u, hu1, by rw [← e, e1]⟩) h.1
    · rcases List.mem_cons.1 hu with e2 | hu1
      · exact absurd (show x.name ∈ r.map Nmd.name from List.mem_map.2 ⟨t, ht1, by rw [e, e2]⟩) h.1
      · exact ih h.2 ht1 hu1
set_option maxRecDepth 100000 in
set_option maxHeartbeats 8000000 in
theorem closed_any {w : World} {KB : BQ} {l : List Nmd} {b0 nn : Nat} (hT : TbS KB w b0 nn l) (hs : ∀ t ∈ l, NmS t) :
    Calls Try.prog 16 #[.map (some b0)] w fun e w' => e = .returned (.bool (l.all (Nmd.clo (l.map Nmd.name)))) ∧ Below w.heap.size w w' := by
  obtain ⟨f, hm, hf⟩ := hT.ex
  have hnd : (l.map Nmd.name).Nodup := by obtain ⟨D, _, hD⟩ := hm.ex; exact hD.nd
  obtain ⟨w1, hr1, hM1, hb1, hz1⟩ := hm.range Try.underlying51
  have HT : Hid (TbS KB w b0 nn l) := hT
  have HF : Hid (∀ t ∈ l, ∃ vn vm vk vs, f t.name = some (agN t vn vm vk vs) ∧ NmP KB w t vn vm vk vs) := hf
  have HS : Hid (∀ t ∈ l, NmS t) := hs
  have HND : Hid ((l.map Nmd.name).Nodup) := hnd
  have HB1 : Hid (Below w.heap.size w w1) := hb1
  have HM1 : Hid (MrS w1 b0 w.heap.size nn f (l.map Nmd.name) []) := hM1
  generalize hR : l.all (Nmd.clo (l.map Nmd.name)) = R at *
  have HR : Hid (l.all (Nmd.clo (l.map Nmd.name)) = R) := hR
  clear hm hf hT hs hnd hM1 hb1 hR
  go_enter Try.func16, Try.ntmps16
  go_wp2_with fail
  go_loopg [2] (l.map Nmd.name).length (fun gh u2 wr => ∃ dn, (l.map Nmd.name).length - dn.length ≤ gh ∧ Hid (MrS wr b0 w.heap.size nn f (l.map Nmd.name) dn ∧ Below w.heap.size w wr ∧ ∀ t ∈ l, t.name ∈ dn → t.clo (l.map Nmd.name) = true))
  case atStart => exact ⟨[], Nat.le_refl _, HM1.out, HB1.out, fun t _ h => by cases h⟩
  case round =>
    obtain ⟨dn, hg, HX⟩ := hrel
    rcases HX.out.1.next 0 with ⟨hall, hnx⟩ | ⟨s, v, w2, hs1, hs2, hfs, hnx, hM2, hk2, hz2, hen⟩
    · have hR : R = true := by
        rw [← HR.out]
        exact List.all_eq_true.2 fun t ht => HX.out.2.2 t ht (hall _ (List.mem_map.2 ⟨t, ht, rfl⟩))
      subst hR
      have HBX : Hid (Below w.heap.size w wr) := HX.out.2.1
      clear hall
      go_wp2_with fail
      go_ret
      exact ⟨rfl, HBX.out⟩
    · obtain ⟨t, htl, rfl⟩ := List.mem_map.1 hs1
      obtain ⟨vn, vm, vk, vs, ef, hpt⟩ := HF.out t htl
      obtain rfl : v = agN t vn vm vk vs := by rw [ef] at hfs; injection hfs with h; exact h.symm
      obtain ⟨an, cn, am, cm, ak, ck, sa, sc, rfl, rfl, rfl, rfl⟩ := hpt.form
      have hbr : Below w.heap.size w wr := HX.out.2.1
      have hb2 : Below w.heap.size w w2 := below_kx1 hbr hk2 (Nat.le_refl _)
      have HDN : Hid (∀ t ∈ l, t.name ∈ dn → t.clo (l.map Nmd.name) = true) := HX.out.2.2
      have HTL : Hid (t ∈ l) := htl
      have HM2 : Hid (MrS w2 b0 w.heap.size nn f (l.map Nmd.name) (dn ++ [t.name])) := hM2
      have HB2 : Hid (Below w.heap.size w w2) := hb2
      have hdl : dn.length < (l.map Nmd.name).length := by
        have := nodup_le hM2.nd hM2.sub
        simp only [List.length_append, List.length_singleton] at this
        omega
      unfold agN at hen hnx
      obtain ⟨x3, hx3⟩ : ∃ x3, x3 = w2.alloc (.cells #[.string t.name, .int .i64 t.under.kind, .string t.under.name, .int .i64 t.under.n, .bool t.under.flag, .slice an t.under.names.length cn, .slice am t.under.marks.length cm, .slice ak t.under.kids.length ck, .slice sa t.mths.length sc] 33) := ⟨_, rfl⟩
      have hb23 : Below w2.heap.size w2 x3 := by rw [hx3]; exact below_alloc _ _
      have hb3 : Below w.heap.size w x3 := bthen hb2 hb23
      have hk3 : x3.heap[w2.heap.size]? = some (.cells #[.string t.name, .int .i64 t.under.kind, .string t.under.name, .int .i64 t.under.n, .bool t.under.flag, .slice an t.under.names.length cn, .slice am t.under.marks.length cm, .slice ak t.under.kids.length ck, .slice sa t.mths.length sc] 33 (0, 0)) := by rw [hx3]; exact heap_new _ _
      have hp3 : NmP KB x3 t (.slice an t.under.names.length cn) (.slice am t.under.marks.length cm) (.slice ak t.under.kids.length ck) (.slice sa t.mths.length sc) := hpt.kept hb3
      obtain ⟨y0, y1, y2, y3, y4, y5, y6, y7, y8⟩ := bx9 hk3
      have hst := HS.out t htl
      have hkn := knows_any (HT.out.kept hb3) (t := t.under) (b := w2.heap.size) (o := 1) (lies_iff.2 ⟨y1, y2, y3, y4, _, _, _, y5, y6, y7, hp3.un⟩) hst.us hst.uc
      have HB3 : Hid (Below w.heap.size w x3) := hb3
      have HB23 : Hid (Below w2.heap.size w2 x3) := hb23
      have HK3 : Hid (x3.heap[w2.heap.size]? = some (.cells #[.string t.name, .int .i64 t.under.kind, .string t.under.name, .int .i64 t.under.n, .bool t.under.flag, .slice an t.under.names.length cn, .slice am t.under.marks.length cm, .slice ak t.under.kids.length ck, .slice sa t.mths.length sc] 33 (0, 0))) := hk3
      have HP3 : Hid (SlM KB x3 (.slice sa t.mths.length sc) t.mths) := hp3.ms
      have HST : Hid (NmS t) := hst
      clear y0 y1 y2 y3 y4 y5 y6 y7 y8 hpt hp3 hst hs1 hs2 hfs ef hM2 hk2 hz2 hbr hb2 hb3 hb23 hk3 htl
      subst hx3
      by_cases hku : t.under.kno (l.map Nmd.name) = true
      · rw [hku] at hkn
        have HKU : Hid (t.under.kno (l.map Nmd.name) = true) := hku
        clear hku
        obtain ⟨_, hms⟩ := HP3.out.get
        obtain ⟨sa', sc', e9, hml⟩ := HP3.out.slice
        have HMS : Hid (∀ i (hi : i < t.mths.length), ∃ b o, sa = some ⟨b, o, none⟩ ∧ b < _ ∧ KB b ∧ (t.mths[i]).lies KB _ b (o + i * 9)) := hms
        clear hms e9
        go_wp2_with fail
        refine hkn.mono ?_
        rintro e w4 ⟨rfl, hb4⟩
        have HB34 : Hid (Below _ _ w4) := hb4
        have HB4 : Hid (Below w.heap.size w w4) := bthen HB3.out hb4
        have HK4 : Hid (w4.heap[w2.heap.size]? = some (.cells #[.string t.name, .int .i64 t.under.kind, .string t.under.name, .int .i64 t.under.n, .bool t.under.flag, .slice an t.under.names.length cn, .slice am t.under.marks.length cm, .slice ak t.under.kids.length ck, .slice sa t.mths.length sc] 33 (0, 0))) := blk_kept hb4 HK3.out
        have c8 := (bx9 HK4.out).2.2.2.2.2.2.2.2
        clear hb4 hkn
        go_wp2_with fail
        clear c8
        go_loopg [19] t.mths.length (fun g2 u19 wr => ∃ (i : Nat), i ≤ t.mths.length ∧ t.mths.length - i ≤ g2 ∧ u19 = .int .i64 i ∧ Hid (Below w4.heap.size w4 wr ∧ ∀ j (hj : j < t.mths.length), j < i → (t.mths[j]).sig.kno (l.map Nmd.name) = true))
        case atStart => exact ⟨0, Nat.zero_le _, Nat.le_refl _, rfl, Below.refl _ _, fun j _ h => by omega⟩
        case round =>
          obtain ⟨i, hi, hg2, rfl, HY⟩ := hrel
          have HYB : Hid (Below w4.heap.size w4 wr) := HY.out.1
          have HYD : Hid (∀ j (hj : j < t.mths.length), j < i → (t.mths[j]).sig.kno (l.map Nmd.name) = true) := HY.out.2
          clear HY
          have c8 := (bx9 (blk_kept HYB.out HK4.out)).2.2.2.2.2.2.2.2
          have hbx : Below _ _ wr := bthen HB34.out HYB.out
          have hbw : Below w.heap.size w wr := bthen HB3.out hbx
          by_cases hlt : i < t.mths.length
          · have z1 : (i : Int) < (t.mths.length : Int) := by omega
            have z0 : (0 : Int) ≤ (i : Int) := by omega
            obtain ⟨mb, mo, rfl, _, _, hlm⟩ := HMS.out i hlt
            have hmm := HST.out.ms _ (List.getElem_mem hlt)
            have hkn := knows_any (HT.out.kept hbw) (t := (t.mths[i]).sig) (lies_to (X := fun _ => False) (Kx.of_whole hbx) (fun _ _ h => h) (fun _ _ _ h => h) _ _ _ (fun h => h) hlm.2.2) hmm.1 hmm.2
            have HBW : Hid (Below w.heap.size w wr) := hbw
            have HLT : Hid (i < t.mths.length) := hlt
            clear hlm hmm hbx hbw
            by_cases hks : (t.mths[i]'HLT.out).sig.kno (l.map Nmd.name) = true
            · rw [hks] at hkn
              have HKS : Hid ((t.mths[i]'HLT.out).sig.kno (l.map Nmd.name) = true) := hks
              clear hks
              go_wp2_with (go_at_call 39; refine hkn.mono ?_; rintro e w5 ⟨rfl, hb5⟩; have HB5 : Hid (Below w4.heap.size w4 w5) := bthen HYB.out hb5; clear hb5 hkn)
              go_roundg (t.mths.length - (i + 1))
              case measure => have := HLT.out; omega
              case rel => exact ⟨i + 1, by have := HLT.out; omega, Nat.le_refl _, by go_num, HB5.out, fun j hj h => by
                rcases Nat.lt_or_ge j i with h1 | h1
                · exact HYD.out j hj h1
                · have e : j = i := by omega
                  subst e
                  exact HKS.out⟩
            · have hks : (t.mths[i]'HLT.out).sig.kno (l.map Nmd.name) = false := by simpa using hks
              rw [hks] at hkn
              have hR : R = false := by
                rw [← HR.out]
                refine List.all_eq_false.2 ⟨t, HTL.out, ?_⟩
                unfold Nmd.clo
                have : t.mths.all (fun m => m.sig.kno (l.map Nmd.name)) = false := List.all_eq_false.2 ⟨_, List.getElem_mem HLT.out, by rw [hks]; simp⟩
                rw [this]
                simp
              subst hR
              clear hks
              go_wp2_with (go_at_call 39; refine hkn.mono ?_; rintro e w5 ⟨rfl, hb5⟩; have HB5 : Hid (Below w.heap.size w w5) := bthen HBW.out hb5; clear hb5 hkn)
              go_ret
              exact ⟨rfl, HB5.out⟩
          · have z1 : ¬ (i : Int) < (t.mths.length : Int) := by omega
            have hcl : t.clo (l.map Nmd.name) = true := by
              unfold Nmd.clo
              rw [HKU.out, Bool.true_and]
              refine List.all_eq_true.2 fun m hm => ?_
              obtain ⟨j, hj, rfl⟩ := List.mem_iff_getElem.1 hm
              exact HYD.out j hj (by omega)
            have HCL : Hid (t.clo (l.map Nmd.name) = true) := hcl
            have HBW : Hid (Below w.heap.size w wr) := hbw
            have HBX : Hid (Below _ _ wr) := bthen HB23.out hbx
            clear hcl hbx hbw
            go_wp2_with fail
            go_roundg ((l.map Nmd.name).length - (dn.length + 1))
            case measure => omega
            case rel => exact ⟨dn ++ [t.name], by simp, HM2.out.kept HBX.out, HBW.out, fun u hu hin => by
              rcases List.mem_append.1 hin with h | h
              · exact HDN.out u hu h
              · rw [nodup_name HND.out hu HTL.out (List.mem_singleton.1 h)]; exact HCL.out⟩
      · have hku : t.under.kno (l.map Nmd.name) = false := by simpa using hku
        rw [hku] at hkn
        have hR : R = false := by
          rw [← HR.out]
          exact List.all_eq_false.2 ⟨t, HTL.out, by unfold Nmd.clo; rw [hku]; simp⟩
        subst hR
        clear hku
        go_wp2_with (go_at_call 39; refine hkn.mono ?_; rintro e w4 ⟨rfl, hb4⟩; have HB4 : Hid (Below w.heap.size w w4) := bthen HB3.out hb4; clear hb4 hkn)
        go_ret
        exact ⟨rfl, HB4.out⟩
end Go.Proofs.Ytdofhlmffponoaa

/-
  (types.table).held, walked: a step.
-/
namespace Go.Proofs.Ytdofhlmffponoaa
open Go.RowKit
attribute [local go_sem ↓] Go.wp_at_zero Go.wp_at_succ
mutual
/-- the names of the declared types among these that a type is, or holds through structs alone -/
def Ty.hol (ks : List ByteArray) : Ty → List ByteArray
  | .mk k nm _ _ _ _ l => if k = 8 then (if memB nm ks = true then [nm] else []) else if k = 14 then holL ks l else []
def holL (ks : List ByteArray) : List Ty → List ByteArray
  | [] => []
  | x :: r => x.hol ks ++ holL ks r
end
theorem Ty.hol_eq (ks : List ByteArray) (t : Ty) : t.hol ks = if t.kind = 8 then (if memB t.name ks = true then [t.name] else []) else if t.kind = 14 then holL ks t.kids else [] := by cases t; simp only [Ty.hol]; rfl
theorem holL_append (ks : List ByteArray) (a b : List Ty) : holL ks (a ++ b) = holL ks a ++ holL ks b := by
  induction a with
  | nil => simp [holL]
  | cons x r ih => simp [holL, ih]
theorem frz_kx {X : Nat → Prop} {W W' : World} {b o : Nat} (hk : Kx X W W') (hf : W.frozen? ⟨b, o, none⟩ = false) (hb : b < W.heap.size) (hX : ¬ X b) : W'.frozen? ⟨b, o, none⟩ = false := by
  obtain ⟨x, hx⟩ : ∃ x, W.heap[b]? = some x := ⟨_, Array.getElem?_eq_getElem hb⟩
  have := hk.keep b x hx hX
  unfold World.frozen? at hf ⊢
  simp only [hx, this] at hf ⊢
  exact hf
theorem frz_set {W : World} {b : Nat} {a : Addr} {v : Value} (hf : W.frozen? ⟨b, 0, none⟩ = false) : (W.setCell a v).frozen? ⟨b, 0, none⟩ = false := by
  rw [World.frozen?_setCell]; exact hf
theorem cell_same {w : World} {a : Addr} {v u : Value} (h : w.cell? a = some u) : (w.setCell a v).cell? a = some v := World.cell?_setCell_same (h := h) ..
theorem own_set {W : World} {base n sz : Nat} {T : TypeId} {v : Value} {xs : List Value} {b' o' : Nat} {u : Value} (h : W.ownsRow base T sz v n xs) (hne : ∀ k, v.ownBlock = some k → k ≠ b') : (W.setCell ⟨b', o', none⟩ u).ownsRow base T sz v n xs := by
  refine ⟨h.1, ?_⟩
  rcases h.2 with h | ⟨g, cap, cur, rfl, h1, h2, h3⟩
  · exact .inl h
  · exact .inr ⟨g, cap, cur, rfl, h1, kx_set.keep _ _ h2 (hne g rfl), h3⟩
/-- what a step of held answers: what is to follow, and the names so far -/
structure HeQ (N0 nb : Nat) (row : Option Nat) (w : World) (l : List Addr) (acc : List ByteArray) (e : Ending) (w' : World) : Prop where
  ex : ∃ a c N, w.heap.size ≤ N ∧ e = .returned (.tuple #[.slice a l.length c, .bool true]) ∧ w'.ownsRow N 80 1 (.slice a l.length c) l.length (l.map pv)
  nm : ∃ va vc, w'.cell? ⟨nb, 0, none⟩ = some (.slice va acc.length vc) ∧ w'.ownsRow N0 9 1 (.slice va acc.length vc) acc.length (acc.map Value.string)
  kx : (∀ k, row = some k → N0 ≤ k) ∧ Kx (fun b => b = nb ∨ row = some b) w w' ∧ ∀ va vc k, w'.cell? ⟨nb, 0, none⟩ = some (.slice va acc.length vc) → (Value.slice va acc.length vc).ownBlock = some k → row = some k ∨ w.heap.size ≤ k
  nf : w'.frozen? ⟨nb, 0, none⟩ = false
set_option maxRecDepth 100000 in
set_option maxHeartbeats 8000000 in
/-- at what is no declared type -/
theorem he_else {w : World} {N0 b o kb ko n c AB nb vn vc : Nat} {K : Int} {a va : Option Addr} {acc : List ByteArray} (h0 : w.cell? ⟨b, o, none⟩ = some (.int .i64 K)) (h6 : w.cell? ⟨b, o + 6, none⟩ = some (.slice a n c)) (ha : 0 < n → a = some ⟨kb, ko, none⟩) (hn : n ≤ 1000000) (hBx : w.cell? ⟨nb, 0, none⟩ = some (.slice va vn vc)) (hBf : w.frozen? ⟨nb, 0, none⟩ = false) (hO : w.ownsRow N0 9 1 (.slice va vn vc) vn (acc.map Value.string)) (hvn : vn = acc.length) (h8 : K ≠ 8) :
    Calls Try.prog 54 #[pv ⟨b, o, none⟩, .pointer (some ⟨AB, 0, none⟩), .pointer (some ⟨nb, 0, none⟩)] w (HeQ N0 nb (Value.slice va vn vc).ownBlock w (if K = 14 then kidA kb ko n else []) acc) := by
  subst hvn
  have k8 := int_bne h8
  have hnb : nb < w.heap.size := World.block_lt_of_cell? _ _ hBx
  have HNB : Hid (nb < w.heap.size) := hnb
  have HBX : Hid (w.cell? ⟨nb, 0, none⟩ = some (.slice va acc.length vc)) := hBx
  have HBF : Hid (w.frozen? ⟨nb, 0, none⟩ = false) := hBf
  have HO : Hid (w.ownsRow N0 9 1 (.slice va acc.length vc) acc.length (acc.map Value.string)) := hO
  have HFIN : Hid (∀ w', Below w.heap.size w w' → (∃ va vc, w'.cell? ⟨nb, 0, none⟩ = some (.slice va acc.length vc) ∧ w'.ownsRow N0 9 1 (.slice va acc.length vc) acc.length (acc.map Value.string)) ∧ ((∀ k, (Value.slice va acc.length vc).ownBlock = some k → N0 ≤ k) ∧ Kx (fun b => b = nb ∨ (Value.slice va acc.length vc).ownBlock = some b) w w' ∧ ∀ va' vc' k, w'.cell? ⟨nb, 0, none⟩ = some (.slice va' acc.length vc') → (Value.slice va' acc.length vc').ownBlock = some k → (Value.slice va acc.length vc).ownBlock = some k ∨ w.heap.size ≤ k) ∧ w'.frozen? ⟨nb, 0, none⟩ = false) := fun w' hb => by
    have e1 := kept_cell hb hBx
    refine ⟨⟨va, vc, e1, own_kept hO hb⟩, ⟨fun k e => (hO.lt k e).1, Kx.of_whole hb, fun va' vc' k h1 h2 => ?_⟩, ?_⟩
    · rw [e1] at h1
      simp at h1
      obtain ⟨rfl, rfl⟩ := h1
      exact .inl h2
    · have := hb.block nb hnb
      unfold World.frozen? at hBf ⊢
      simp only at hBf ⊢
      rw [this]; exact hBf
  clear hBx hBf hO hnb
  by_cases h14 : K = 14
  · subst h14
    rw [if_pos rfl]
    have hkd := kids_any h6 ha hn
    clear h6 ha hn
    go_enter Try.func54, Try.ntmps54
    go_wp2_with (go_at_call 34; refine hkd.mono ?_; intro e w3 hq; obtain ⟨d1, e1, rfl, ho⟩ := hq.ex; have HB3 : Hid (Below w.heap.size w w3) := hq.bl; have HO3 : Hid (w3.ownsRow w.heap.size 80 1 (.slice d1 (kidA kb ko n).length e1) (kidA kb ko n).length ((kidA kb ko n).map pv)) := ho; clear hq ho hkd)
    obtain ⟨f1, f2, f3⟩ := HFIN.out _ HB3.out
    exact bodyPost_ret (results_duo rfl rfl rfl) rfl ⟨⟨_, _, _, Nat.le_refl _, rfl, HO3.out⟩, f1, f2, f3⟩
  · have k14 := int_bne h14
    rw [if_neg h14]
    clear h14 h8 h6 ha hn
    go_enter Try.func54, Try.ntmps54
    go_wp2_with fail
    obtain ⟨f1, f2, f3⟩ := HFIN.out w (Below.refl _ _)
    exact bodyPost_ret (results_duo rfl rfl rfl) rfl ⟨⟨none, 0, w.heap.size, Nat.le_refl _, rfl, World.ownsRow_nil _ _ _ _⟩, f1, f2, f3⟩
set_option maxRecDepth 100000 in
set_option maxHeartbeats 8000000 in
/-- at a declared type -/
theorem he_named {KB : BQ} {w : World} {l : List Nmd} {N0 b o AB nb b0 nn vn vc : Nat} {nm : ByteArray} {va : Option Addr} {acc : List ByteArray} (h0 : w.cell? ⟨b, o, none⟩ = some (.int .i64 8)) (h1 : w.cell? ⟨b, o + 1, none⟩ = some (.string nm)) (hA : w.cell? ⟨AB, 0, none⟩ = some (.map (some b0))) (hBx : w.cell? ⟨nb, 0, none⟩ = some (.slice va vn vc)) (hBf : w.frozen? ⟨nb, 0, none⟩ = false) (hO : w.ownsRow N0 9 1 (.slice va vn vc) vn (acc.map Value.string)) (hvn : vn = acc.length) (hN0 : nb < N0) (hNz : N0 ≤ w.heap.size) (hT : TbS KB w b0 nn l) (hs : nm.size ≤ maxLen) (hac : acc.length ≤ 1000000) :
    Calls Try.prog 54 #[pv ⟨b, o, none⟩, .pointer (some ⟨AB, 0, none⟩), .pointer (some ⟨nb, 0, none⟩)] w (HeQ N0 nb (Value.slice va vn vc).ownBlock w [] (acc ++ if memB nm (l.map Nmd.name) = true then [nm] else [])) := by
  subst hvn
  obtain ⟨f, hm, hq, s0, s1, k, m, fl, a1, n1, c1, a2, n2, c2, a3, n3, c3, a4, n4, c4, hv⟩ := hT.val nm
  have HFD : Hid (∀ W, Below w.heap.size w W → Calls Try.prog 55 #[.map (some b0), .string nm] W fun r w' => r = .returned (.tuple #[.agg #[.string s0, .int .i64 k, .string s1, .int .i64 m, .bool fl, .slice a1 n1 c1, .slice a2 n2 c2, .slice a3 n3 c3, .slice a4 n4 c4], .bool (memB nm (l.map Nmd.name))]) ∧ Below W.heap.size W w') := fun W hb => by
    rw [← hq]
    exact find_any (hm.kept hb) nm hs hv
  have HKP : Hid (∀ W, Below w.heap.size w W → W.cell? ⟨AB, 0, none⟩ = some (.map (some b0)) ∧ W.cell? ⟨nb, 0, none⟩ = some (.slice va acc.length vc) ∧ W.cell? ⟨b, o, none⟩ = some (.int .i64 8) ∧ W.cell? ⟨b, o + 1, none⟩ = some (.string nm)) := fun W h => ⟨kept_cell h hA, kept_cell h hBx, kept_cell h h0, kept_cell h h1⟩
  have hnb : nb < w.heap.size := World.block_lt_of_cell? _ _ hBx
  have v1 : b < w.heap.size := World.block_lt_of_cell? _ _ h0
  have v2 : AB < w.heap.size := World.block_lt_of_cell? _ _ hA
  have HBF : Hid (∀ W, Below w.heap.size w W → W.frozen? ⟨nb, 0, none⟩ = false) := fun W hb => by
    have := hb.block nb hnb
    unfold World.frozen? at hBf ⊢
    simp only at hBf ⊢
    rw [this]; exact hBf
  have HO : Hid (w.ownsRow N0 9 1 (.slice va acc.length vc) acc.length (acc.map Value.string)) := hO
  have HN0 : Hid (nb < N0 ∧ N0 ≤ w.heap.size ∧ acc.length ≤ 1000000) := ⟨hN0, hNz, hac⟩
  generalize memB nm (l.map Nmd.name) = q at *
  have kS := HKP.out w (Below.refl _ _)
  clear hm hq hv hT hs hBf hO hN0 hNz hac h0 h1 hA hBx
  cases q with
  | false =>
    rw [if_neg Bool.false_ne_true, List.append_nil]
    go_enter Try.func54, Try.ntmps54
    go_wp2_with fail
    obtain ⟨hA, hBx, h0, h1⟩ := kS
    have hf1 := HFD.out w.drew (below_drew1 _)
    have hf2 := HFD.out (w.alloc (.cells #[.string ⟨#[]⟩, .int .i64 0, .string ⟨#[]⟩, .int .i64 0, .bool false, .slice none 0 0, .slice none 0 0, .slice none 0 0, .slice none 0 0] 33)).drew (bthen (below_alloc _ _) (below_drew1 _))
    go_region_law
      (go_simp; go_wp2_with (first
        | (go_at_call 55; refine hf1.mono ?_; rintro e w1 ⟨rfl, hb1⟩; have HB1 : Hid (Below w.heap.size w w1) := bthen (below_drew1 _) hb1; clear hb1 hf1 hf2)
        | (go_at_call 55; refine hf2.mono ?_; rintro e w1 ⟨rfl, hb1⟩; have HB1 : Hid (Below w.heap.size w w1) := bthen (bthen (below_alloc _ _) (below_drew1 _)) hb1; have hk9 : w1.heap[w.heap.size]? = some (.cells #[.string ⟨#[]⟩, .int .i64 0, .string ⟨#[]⟩, .int .i64 0, .bool false, .slice none 0 0, .slice none 0 0, .slice none 0 0, .slice none 0 0] 33 (0, 0)) := blk_kept hb1 (heap_new w _); obtain ⟨y0, y1, y2, y3, y4, y5, y6, y7, y8⟩ := bx9 hk9; obtain ⟨z0, z1, z2, z3, z4, z5, z6, z7, z8⟩ := bx9f hk9; clear hb1 hf1 hf2 hk9)))
    all_goals
      go_simp
      first
        | (obtain ⟨x2, hx2⟩ : ∃ x2, x2 = w1.alloc (.cells #[.string s0, .int .i64 k, .string s1, .int .i64 m, .bool fl, .slice a1 n1 c1, .slice a2 n2 c2, .slice a3 n3 c3, .slice a4 n4 c4] 33) := ⟨_, rfl⟩; rw [← hx2]; have HB2 : Hid (Below w.heap.size w x2) := (by rw [hx2]; exact bthen HB1.out (below_alloc _ _)); clear hx2)
        | (obtain ⟨x2, hx2⟩ : ∃ x2, x2 = (((((((((w1.setCell ⟨w.heap.size, 0, none⟩ (.string s0)).setCell ⟨w.heap.size, 1, none⟩ (.int .i64 k)).setCell ⟨w.heap.size, 2, none⟩ (.string s1)).setCell ⟨w.heap.size, 3, none⟩ (.int .i64 m)).setCell ⟨w.heap.size, 4, none⟩ (.bool fl)).setCell ⟨w.heap.size, 5, none⟩ (.slice a1 n1 c1)).setCell ⟨w.heap.size, 6, none⟩ (.slice a2 n2 c2)).setCell ⟨w.heap.size, 7, none⟩ (.slice a3 n3 c3)).setCell ⟨w.heap.size, 8, none⟩ (.slice a4 n4 c4)) := ⟨_, rfl⟩; rw [← hx2]; have HB2 : Hid (Below w.heap.size w x2) := (by rw [hx2]; exact below_kx1 HB1.out kx_set9 (Nat.le_refl _)); clear hx2)
      go_wp2_with fail
      obtain ⟨_, e1, _, _⟩ := HKP.out x2 HB2.out
      refine bodyPost_ret (results_duo rfl rfl rfl) rfl ⟨⟨none, 0, w.heap.size, Nat.le_refl _, rfl, World.ownsRow_nil _ _ _ _⟩, ⟨va, vc, e1, own_kept HO.out HB2.out⟩, ⟨fun k e => (HO.out.lt k e).1, Kx.of_whole HB2.out, fun va' vc' k h1 h2 => ?_⟩, HBF.out x2 HB2.out⟩
      rw [e1] at h1
      simp at h1
      obtain ⟨rfl, rfl⟩ := h1
      exact .inl h2
  | true =>
    rw [if_pos rfl]
    obtain ⟨i0, hi, hz0, hz1, hz2⟩ := infoS_ex
    go_enter Try.func54, Try.ntmps54
    go_wp2_with fail
    obtain ⟨hA, hBx, h0, h1⟩ := kS
    have hf1 := HFD.out w.drew (below_drew1 _)
    have hf2 := HFD.out (w.alloc (.cells #[.string ⟨#[]⟩, .int .i64 0, .string ⟨#[]⟩, .int .i64 0, .bool false, .slice none 0 0, .slice none 0 0, .slice none 0 0, .slice none 0 0] 33)).drew (bthen (below_alloc _ _) (below_drew1 _))
    go_region_law
      (go_simp; go_wp2_with (first
        | (go_at_call 55; refine hf1.mono ?_; rintro e w1 ⟨rfl, hb1⟩; have HB1 : Hid (Below w.heap.size w w1) := bthen (below_drew1 _) hb1; clear hb1 hf1 hf2)
        | (go_at_call 55; refine hf2.mono ?_; rintro e w1 ⟨rfl, hb1⟩; have HB1 : Hid (Below w.heap.size w w1) := bthen (bthen (below_alloc _ _) (below_drew1 _)) hb1; have hk9 : w1.heap[w.heap.size]? = some (.cells #[.string ⟨#[]⟩, .int .i64 0, .string ⟨#[]⟩, .int .i64 0, .bool false, .slice none 0 0, .slice none 0 0, .slice none 0 0, .slice none 0 0] 33 (0, 0)) := blk_kept hb1 (heap_new w _); obtain ⟨y0, y1, y2, y3, y4, y5, y6, y7, y8⟩ := bx9 hk9; obtain ⟨z0, z1, z2, z3, z4, z5, z6, z7, z8⟩ := bx9f hk9; clear hb1 hf1 hf2 hk9)))
    all_goals
      go_simp
      first
        | (obtain ⟨x2, hx2⟩ : ∃ x2, x2 = w1.alloc (.cells #[.string s0, .int .i64 k, .string s1, .int .i64 m, .bool fl, .slice a1 n1 c1, .slice a2 n2 c2, .slice a3 n3 c3, .slice a4 n4 c4] 33) := ⟨_, rfl⟩; rw [← hx2]; have HB2 : Hid (Below w.heap.size w x2) := (by rw [hx2]; exact bthen HB1.out (below_alloc _ _)); clear hx2)
        | (obtain ⟨x2, hx2⟩ : ∃ x2, x2 = (((((((((w1.setCell ⟨w.heap.size, 0, none⟩ (.string s0)).setCell ⟨w.heap.size, 1, none⟩ (.int .i64 k)).setCell ⟨w.heap.size, 2, none⟩ (.string s1)).setCell ⟨w.heap.size, 3, none⟩ (.int .i64 m)).setCell ⟨w.heap.size, 4, none⟩ (.bool fl)).setCell ⟨w.heap.size, 5, none⟩ (.slice a1 n1 c1)).setCell ⟨w.heap.size, 6, none⟩ (.slice a2 n2 c2)).setCell ⟨w.heap.size, 7, none⟩ (.slice a3 n3 c3)).setCell ⟨w.heap.size, 8, none⟩ (.slice a4 n4 c4)) := ⟨_, rfl⟩; rw [← hx2]; have HB2 : Hid (Below w.heap.size w x2) := (by rw [hx2]; exact below_kx1 HB1.out kx_set9 (Nat.le_refl _)); clear hx2)
      obtain ⟨g0, g1, g2, g3⟩ := HKP.out x2 HB2.out
      have gf := HBF.out x2 HB2.out
      have v3 : b < x2.heap.size := World.block_lt_of_cell? _ _ g2
      have v4 : nb < x2.heap.size := World.block_lt_of_cell? _ _ g1
      have hlc := HN0.out.2.2
      have hO2 := own_kept HO.out HB2.out
      have HO2 : Hid (x2.ownsRow N0 9 1 (.slice va acc.length vc) acc.length (acc.map Value.string)) := hO2
      clear hO2
      go_wp2_with fail
      have HN1 : Hid (∀ k, (Value.slice va acc.length vc).ownBlock = some k → N0 ≤ k ∧ k ≠ nb) := fun k e => ⟨(HO.out.lt k e).1, fun e2 => by have := (HO.out.lt k e).1; have := HN0.out.1; omega⟩
      have hnz : N0 ≤ x2.heap.size := Nat.le_trans HN0.out.2.1 HB2.out.size
      go_region_law
        (refine step_append_lies _ (by rfl) _ _ _ (by rfl) N0 9 i0 (.string ⟨#[]⟩) 1 16 Try.underlying25 hi hz0 hz1 hz2 rfl (by omega) (.slice va acc.length vc) acc.length (acc.map Value.string) (by rfl) (own_kept HO2.out (bthen (below_drew1 _) (below_alloc _ _))) ⟨x2.heap.size, 0, none⟩ 1 1 [.string nm] (by rfl) (by rfl) (World.news_of_block (heap_alloc_new x2.drew _)) (by simp [Value.oneCell']) (by omega) (by unfold maxLen; omega) (by omega) (by simp; omega) (x2.heap.size + 1) (by simp) ?_; intro gg cap w9 hown1 hgrow hat hlt1; have hk9 := grownBy_kx hgrow; have j1 : w9.cell? ⟨nb, 0, none⟩ = some (.slice va acc.length vc) := hk9.cell (kept_cell (bthen (below_drew1 x2) (below_alloc _ _)) g1) (fun e => (HN1.out nb e).2 rfl); have j2 : w9.frozen? ⟨nb, 0, none⟩ = false := frz_kx hk9 (HBF.out _ (bthen HB2.out (bthen (below_drew1 _) (below_alloc _ _)))) (World.block_lt_of_cell? _ _ (kept_cell (bthen (below_drew1 x2) (below_alloc _ _)) g1)) (fun e => (HN1.out nb e).2 rfl); have HO9 : Hid (w9.ownsRow N0 9 1 (.slice (some ⟨gg, 0, none⟩) (acc.length + 1) cap) (acc.length + 1) (acc.map Value.string ++ [.string nm])) := hown1; have HK9 : Hid (Kx (fun b => (Value.slice va acc.length vc).ownBlock = some b) w w9) := (Kx.of_whole (bthen HB2.out (bthen (below_drew1 _) (below_alloc _ _)))).trans hk9; have HAT : Hid ((Value.slice va acc.length vc).ownBlock = some gg ∨ gg = x2.heap.size + 1) := hat; clear hown1 hgrow hat hk9)
      all_goals
        go_simp
        go_wp2_with fail
        have hgn : gg ≠ nb := by
          rcases HAT.out with h | h
          · exact (HN1.out gg h).2
          · omega
        have hln : (acc ++ [nm]).length = acc.length + 1 := by simp
        have hz2 := HB2.out.size
        refine bodyPost_ret (results_duo rfl rfl rfl) rfl ⟨⟨none, 0, w.heap.size, Nat.le_refl _, rfl, World.ownsRow_nil _ _ _ _⟩, ⟨some ⟨gg, 0, none⟩, cap, by rw [hln]; exact cell_same j1, by rw [hln, List.map_append]; exact own_set HO9.out (fun k e => by
          have e3 : gg = k := by simpa [Value.ownBlock] using e
          rw [← e3]; exact hgn)⟩, ⟨fun k e => (HN1.out k e).1, (HK9.out.andThen kx_set (fun b _ h => .inr h) (fun b _ h => .inl h)), fun va' vc' k h1 h2 => ?_⟩, frz_set j2⟩
        rw [hln, cell_same j1] at h1
        simp at h1
        obtain ⟨rfl, rfl⟩ := h1
        have e3 : gg = k := by simpa [Value.ownBlock] using h2
        subst e3
        rcases HAT.out with h | h
        · exact .inl h
        · exact .inr (by omega)
end Go.Proofs.Ytdofhlmffponoaa

/-
  (types.table).held, walked: the walk.
-/
namespace Go.Proofs.Ytdofhlmffponoaa
open Go.RowKit
attribute [local go_sem ↓] Go.wp_at_zero Go.wp_at_succ
/-- between two steps -/
structure HeI (w0 : World) (KB : BQ) (l : List Nmd) (AB nb b0 nn : Nat) (root : Ty) (g : Nat) (X : Nat → Prop) (al : List Addr) (W : World) : Prop where
  kx : Kx (· = nb) w0 W
  all : ∀ b, b < w0.heap.size → X b
  lt : ∀ b, X b → b < W.heap.size
  gb : g ≤ 1000000
  hA : w0.cell? ⟨AB, 0, none⟩ = some (.map (some b0))
  hN : nb < w0.heap.size ∧ AB ≠ nb ∧ b0 ≠ nb
  tb : TbS KB w0 b0 nn l
  tk : ∀ b, KB b → b ≠ nb
  nf : W.frozen? ⟨nb, 0, none⟩ = false
  ex : ∃ (ps : List Pnd) (acc : List ByteArray) (va : Option Addr) (vc : Nat), ps.map Pnd.a = al ∧ acc.length + cntL (ps.map Pnd.t) ≤ 1000000 ∧ cntL (ps.map Pnd.t) ≤ g ∧ (∀ p ∈ ps, p.t.lies (fun b => b ≠ nb) w0 p.b p.o ∧ p.b ≠ nb ∧ p.t.nsz = true) ∧ root.hol (l.map Nmd.name) = acc ++ holL (l.map Nmd.name) (ps.map Pnd.t) ∧
    W.cell? ⟨nb, 0, none⟩ = some (.slice va acc.length vc) ∧ W.ownsRow w0.heap.size 9 1 (.slice va acc.length vc) acc.length (acc.map Value.string) ∧ ∀ k, (Value.slice va acc.length vc).ownBlock = some k → X k
section
variable {w0 : World} {KB : BQ} {l : List Nmd} {AB nb b0 nn g : Nat} {root : Ty} {X : Nat → Prop} {al : List Addr} {W W' : World}
theorem own_kx {X : Nat → Prop} {W W' : World} {base n sz : Nat} {T : TypeId} {v : Value} {xs : List Value} (h : W.ownsRow base T sz v n xs) (hk : Kx X W W') (hx : ∀ k, v.ownBlock = some k → ¬ X k) : W'.ownsRow base T sz v n xs := by
  refine ⟨h.1, ?_⟩
  rcases h.2 with h | ⟨g, cap, cur, rfl, h1, h2, h3⟩
  · exact .inl h
  · exact .inr ⟨g, cap, cur, rfl, h1, hk.keep _ _ h2 (hx g rfl), h3⟩
theorem HeI.stable (h : HeI w0 KB l AB nb b0 nn root g X al W) (hk : Kx (fun b => ¬ X b) W W') : HeI w0 KB l AB nb b0 nn root g X al W' := by
  obtain ⟨ps, acc, va, vc, e1, e2, e3, e4, e5, e6, e7, e8⟩ := h.ex
  have hnX : ¬ ¬ X nb := fun hn => hn (h.all nb h.hN.1)
  have hnw : nb < W.heap.size := World.block_lt_of_cell? _ _ e6
  exact ⟨h.kx.andThen hk (fun b _ h => h) (fun b hb hx => absurd (h.all b hb) hx), h.all, fun b hb => Nat.lt_of_lt_of_le (h.lt b hb) hk.size, h.gb, h.hA, h.hN, h.tb, h.tk, frz_kx hk h.nf hnw hnX, ps, acc, va, vc, e1, e2, e3, e4, e5, hk.cell e6 hnX, own_kx e7 hk (fun k e hx => hx (e8 k e)), e8⟩
theorem HeI.len (h : HeI w0 KB l AB nb b0 nn root g X al W) : al.length ≤ 1000000 := by
  obtain ⟨ps, acc, va, vc, e1, e2, _⟩ := h.ex
  have h1 := cntL_len (ps.map Pnd.t)
  rw [List.length_map] at h1
  rw [← e1, List.length_map]; omega
theorem HeI.call {x : Addr} {r : List Addr} (h : HeI w0 KB l AB nb b0 nn root g X (x :: r) W) : Calls Try.prog 54 #[pv x, .pointer (some ⟨AB, 0, none⟩), .pointer (some ⟨nb, 0, none⟩)] W (StQ (HeI w0 KB l AB nb b0 nn root) (fun _ _ => False) g X r W) := by
  obtain ⟨ps, acc, va, vc, e1, e2, e3, hp, hr, hbx, hown, hoX⟩ := h.ex
  cases ps with
  | nil => simp at e1
  | cons p qs =>
    obtain ⟨rfl, rfl⟩ : p.a = x ∧ qs.map Pnd.a = r := by simpa using e1
    obtain ⟨hpl, hpb, hns⟩ := hp p (by simp)
    obtain ⟨h0, h1, h2, h3, vn, vm, vk, h4, h5, h6, hpr⟩ := lies_iff.1 hpl
    rw [List.map_cons, cntL_cons] at e2 e3
    have hcp := p.t.cnt_eq
    have hkl := cntL_len p.t.kids
    obtain ⟨a, c, kb, ko, rfl, hka, hkl2⟩ : ∃ a c kb ko, vk = .slice a p.t.kids.length c ∧ (0 < p.t.kids.length → a = some ⟨kb, ko, none⟩) ∧ ∀ i (hi : i < p.t.kids.length), (p.t.kids[i]).lies (fun b => b ≠ nb) w0 kb (ko + i * 7) ∧ kb ≠ nb := by
      rcases hpr.ks with ⟨a, c, rfl, hk⟩ | ⟨b, o, c, rfl, hl, hb1, hb, hL⟩
      · refine ⟨a, c, 0, 0, by rw [hk]; rfl, fun h => ?_, fun i hi => ?_⟩
        · rw [hk] at h; simp at h
        · rw [hk] at hi; simp at hi
      · exact ⟨_, c, b, o, rfl, fun _ => rfl, fun i hi => ⟨liesT_get hL i hi, hb⟩⟩
    have hro : root.hol (l.map Nmd.name) = (acc ++ p.t.hol (l.map Nmd.name)) ++ holL (l.map Nmd.name) (qs.map Pnd.t) := by
      rw [hr, List.map_cons]
      simp only [holL, List.append_assoc]
    -- what a step has done, put together
    have fin : ∀ (ns : List Addr) (qk : List Pnd) (ac2 : List ByteArray) (e : Ending) (W5 : World), HeQ w0.heap.size nb (Value.slice va acc.length vc).ownBlock W ns ac2 e W5 → qk.map Pnd.a = ns → ns.length ≤ 1000000 → ac2.length + cntL (qk.map Pnd.t) ≤ acc.length + p.t.cnt → cntL (qk.map Pnd.t) + 1 ≤ p.t.cnt → (∀ q ∈ qk, q.t.lies (fun b => b ≠ nb) w0 q.b q.o ∧ q.b ≠ nb ∧ q.t.nsz = true) → root.hol (l.map Nmd.name) = (ac2 ++ holL (l.map Nmd.name) (qk.map Pnd.t)) ++ holL (l.map Nmd.name) (qs.map Pnd.t) → StQ (HeI w0 KB l AB nb b0 nn root) (fun _ _ => False) g X (qs.map Pnd.a) W e W5 := by
      intro ns qk ac2 e W5 hq eq1 hnl eq2 eq3 eq4 eq5
      obtain ⟨a5, c5, N, hN, rfl, ho⟩ := hq.ex
      obtain ⟨va5, vc5, hb5, ho5⟩ := hq.nm
      obtain ⟨hrow, hk5, hat⟩ := hq.kx
      have hgb := h.gb
      refine .inl ⟨a5, ns.length, c5, ns, g - 1, fun b => X b ∨ (W.heap.size ≤ b ∧ b < W5.heap.size), rfl, ?_, by omega, ?_, ?_, fun b hb hx => hx.resolve_right (by omega)⟩
      · exact rowV_own (w := W5) ho rfl (by omega) (fun k hk => by have := ho.lt k hk; exact .inr ⟨by omega, this.2⟩) (Nat.le_refl _) (fun _ _ _ _ h => h)
      · have hk05 : Kx (· = nb) w0 W5 := h.kx.andThen hk5 (fun b _ h => h) (fun b hb hx => by
          rcases hx with hx | hx
          · exact hx
          · have := hrow b hx; omega)
        refine ⟨hk05, fun b hb => .inl (h.all b hb), ?_, by omega, h.hA, h.hN, h.tb, h.tk, hq.nf, qk ++ qs, ac2, va5, vc5, by rw [List.map_append, eq1], by rw [List.map_append, cntL_append]; omega, by rw [List.map_append, cntL_append]; omega, ?_, by rw [List.map_append, holL_append, eq5, List.append_assoc], hb5, ho5, ?_⟩
        · rintro b (hx | hx)
          · have := h.lt b hx; have := hk5.size; omega
          · exact hx.2
        · intro q hq'
          rcases List.mem_append.1 hq' with hq' | hq'
          · exact eq4 q hq'
          · exact hp q (by simp [hq'])
        · intro k hk
          rcases hat va5 vc5 k hb5 hk with h6 | h6
          · exact .inl (hoX k h6)
          · exact .inr ⟨h6, (ho5.lt k hk).2⟩
      · exact ⟨hk5.os, hk5.tape, hk5.output, hk5.size, fun b x hb hX => hk5.keep b x hb (fun hx => hX (by
          rcases hx with hx | hx
          · rw [hx]; exact h.all nb h.hN.1
          · exact hoX b hx))⟩
    have hz : w0.heap.size ≤ W.heap.size := h.kx.size
    by_cases h8 : p.t.kind = 8
    · rw [h8] at h0
      have hho : p.t.hol (l.map Nmd.name) = if memB p.t.name (l.map Nmd.name) = true then [p.t.name] else [] := by rw [Ty.hol_eq, if_pos h8]
      refine (he_named (N0 := w0.heap.size) (h.kx.cell h0 hpb) (h.kx.cell h1 hpb) (h.kx.cell h.hA h.hN.2.1) hbx h.nf hown rfl h.hN.1 hz (h.tb.to h.kx h.hN.2.2 (fun b _ hb => h.tk b hb)) (Ty.nsz_name hns) (by omega)).mono ?_
      intro e W5 hq
      refine fin [] [] _ e W5 hq rfl (by simp) ?_ (by simp [cntL]; omega) (fun q hq => by cases hq) (by rw [hro, hho]; simp [holL])
      simp only [List.map_nil, cntL, List.length_append]
      split <;> simp <;> omega
    · refine (he_else (N0 := w0.heap.size) (h.kx.cell h0 hpb) (h.kx.cell h6 hpb) hka (by omega) hbx h.nf hown rfl h8).mono ?_
      intro e W5 hq
      by_cases h14 : p.t.kind = 14
      · rw [if_pos h14] at hq
        have hho : p.t.hol (l.map Nmd.name) = holL (l.map Nmd.name) p.t.kids := by rw [Ty.hol_eq, if_neg h8, if_pos h14]
        refine fin _ (kidP kb p.t.kids ko) _ e W5 hq (kidP_a _ _ _) (by rw [kidA_len]; omega) (by rw [kidP_t]; omega) (by rw [kidP_t]; omega) ?_ (by rw [hro, hho, kidP_t])
        intro q hq
        obtain ⟨i, hi, rfl⟩ := kidP_mem _ _ hq
        exact ⟨(hkl2 i hi).1, (hkl2 i hi).2, Ty.nsz_kids hns _ (List.getElem_mem _)⟩
      · rw [if_neg h14] at hq
        have hho : p.t.hol (l.map Nmd.name) = [] := by rw [Ty.hol_eq, if_neg h8, if_neg h14]
        refine fin [] [] _ e W5 hq rfl (by simp) (by simp [cntL]) (by simp [cntL]; omega) (fun q hq => by cases hq) (by rw [hro, hho]; simp [holL])
end
theorem enterHe : ∀ args w, (callFunc 54 args).run Try.prog w = .ok (.enter 54 args) w := enters_of Try.func54 (by kernel_rfl) rfl
/-- what the walk leaves -/
def HwQ (W : World) (nb : Nat) (ns : List ByteArray) (e : Ending) (w' : World) : Prop := e = .returned (.bool true) ∧ Kx (· = nb) W w' ∧ ∃ va vc, w'.cell? ⟨nb, 0, none⟩ = some (.slice va ns.length vc) ∧ w'.ownsRow W.heap.size 9 1 (.slice va ns.length vc) ns.length (ns.map Value.string)
theorem heW {W : World} {KB : BQ} {l : List Nmd} {AB nb b0 nn b o fb fc : Nat} {t : Ty} (hA : W.cell? ⟨AB, 0, none⟩ = some (.map (some b0))) (hN : nb < W.heap.size ∧ AB ≠ nb ∧ b0 ≠ nb) (hB : W.cell? ⟨nb, 0, none⟩ = some (.slice none 0 0)) (hBf : W.frozen? ⟨nb, 0, none⟩ = false) (hT : TbS KB W b0 nn l) (hK : ∀ b, KB b → b ≠ nb) (hl : t.lies (fun b => b ≠ nb) W b o) (hb : b ≠ nb) (hs : t.nsz = true) (hc : t.cnt ≤ 1000000) (hf : W.cell? ⟨fb, 0, none⟩ = some (pv ⟨b, o, none⟩)) :
    Calls Try.prog 29 #[.func (.func 54) #[] #[.pointer (some ⟨AB, 0, none⟩), .pointer (some ⟨nb, 0, none⟩)], .slice (some ⟨fb, 0, none⟩) 1 fc] W (HwQ W nb (t.hol (l.map Nmd.name))) := by
  have h0 : HeI W KB l AB nb b0 nn t t.cnt (fun b => b < W.heap.size) [⟨b, o, none⟩] W := by
    refine ⟨Kx.refl _ _, fun _ h => h, fun _ h => h, hc, hA, hN, hT, hK, hBf, [⟨b, o, t⟩], [], none, 0, rfl, by simp [cntL]; exact hc, by simp [cntL], fun p hp => ?_, by simp [holL], hB, World.ownsRow_nil _ _ _ _, fun k e => by cases e⟩
    obtain rfl := List.mem_singleton.1 hp
    exact ⟨hl, hb, hs⟩
  refine (walkP (I := HeI W KB l AB nb b0 nn t) (Bad := fun _ _ => False) 54 #[.pointer (some ⟨AB, 0, none⟩), .pointer (some ⟨nb, 0, none⟩)] enterHe (fun _ _ _ _ _ h hk => h.stable hk) (fun _ _ _ h _ => h) (fun _ _ _ _ h => h.lt) (fun _ _ _ _ h => h.len) (fun g X x r W h => by simpa using h.call) t.cnt ⟨b, o, none⟩ fb 0 fc W hf h0).mono ?_
  rintro e w' (⟨rfl, g, X, h⟩ | ⟨rfl, X, h⟩)
  · obtain ⟨ps, acc, va, vc, e1, _, _, _, hr, h6, h7, _⟩ := h.ex
    have : ps = [] := by simpa using e1
    subst this
    have hr2 : t.hol (l.map Nmd.name) = acc := by rw [hr]; simp [holL]
    rw [hr2]
    exact ⟨rfl, h.kx, va, vc, h6, h7⟩
  · exact h.elim
theorem TbS.low {K : BQ} {W : World} {b0 n : Nat} {l : List Nmd} (h : TbS K W b0 n l) : TbS (fun b => b < W.heap.size) W b0 n l := by
  obtain ⟨f, h1, h2⟩ := h.ex
  exact ⟨f, h1, fun t ht => by
    obtain ⟨vn, vm, vk, vs, e, hp⟩ := h2 t ht
    exact ⟨vn, vm, vk, vs, e, hp.with (fun b hb _ => hb)⟩⟩
/-- what held answers -/
structure HdQ (w : World) (ns : List ByteArray) (e : Ending) (w' : World) : Prop where
  bl : Below w.heap.size w w'
  ex : ∃ a c, e = .returned (.slice a ns.length c) ∧ w'.ownsRow w.heap.size 9 1 (.slice a ns.length c) ns.length (ns.map Value.string)
set_option maxRecDepth 100000 in
set_option maxHeartbeats 2000000 in
theorem held_any {w : World} {KB : BQ} {l : List Nmd} {b0 nn : Nat} {t : Ty} {B : BQ} {vn vm vk : Value} (hT : TbS KB w b0 nn l) (hp : Prt B w t vn vm vk) (hs : t.nsz = true) (hc : t.cnt ≤ 1000000) :
    Calls Try.prog 36 #[.map (some b0), agT t vn vm vk] w (HdQ w (t.hol (l.map Nmd.name))) := by
  obtain ⟨an, cn, am, cm, ak, ck, rfl, rfl, rfl⟩ := hp.form
  have hb0 : b0 < w.heap.size := by obtain ⟨f, h1, _⟩ := hT.ex; exact h1.lt
  obtain ⟨W4, hW4⟩ : ∃ W4, W4 = (((w.alloc (.cells #[.map (some b0)] 51)).alloc (.cells #[.int .i64 t.kind, .string t.name, .int .i64 t.n, .bool t.flag, .slice an t.names.length cn, .slice am t.marks.length cm, .slice ak t.kids.length ck] 29)).alloc (.cells #[.slice none 0 0] 25)).alloc (.cells #[pv ⟨w.heap.size + 1, 0, none⟩] 80) := ⟨_, rfl⟩
  have hb4 : Below w.heap.size w W4 := by rw [hW4]; exact bthen (bthen (bthen (below_alloc _ _) (below_alloc _ _)) (below_alloc _ _)) (below_alloc _ _)
  have hz4 : W4.heap.size = w.heap.size + 4 := by rw [hW4]; simp
  have k0 : W4.heap[w.heap.size]? = some (.cells #[.map (some b0)] 51 (0, 0)) := by
    rw [hW4]; exact blk_kept (bthen (bthen (below_alloc _ _) (below_alloc _ _)) (below_alloc _ _)) (heap_new w _)
  have k1 : W4.heap[w.heap.size + 1]? = some (.cells #[.int .i64 t.kind, .string t.name, .int .i64 t.n, .bool t.flag, .slice an t.names.length cn, .slice am t.marks.length cm, .slice ak t.kids.length ck] 29 (0, 0)) := by
    rw [hW4]
    have := blk_kept (bthen (below_alloc _ (.cells #[.slice none 0 0] 25)) (below_alloc _ (.cells #[pv ⟨w.heap.size + 1, 0, none⟩] 80))) (heap_new (w.alloc (.cells #[.map (some b0)] 51)) (.cells #[.int .i64 t.kind, .string t.name, .int .i64 t.n, .bool t.flag, .slice an t.names.length cn, .slice am t.marks.length cm, .slice ak t.kids.length ck] 29))
    rw [World.size_alloc] at this
    exact this
  have k2 : W4.heap[w.heap.size + 1 + 1]? = some (.cells #[.slice none 0 0] 25 (0, 0)) := by
    rw [hW4]
    have := blk_kept (below_alloc _ (.cells #[pv ⟨w.heap.size + 1, 0, none⟩] 80)) (heap_new ((w.alloc (.cells #[.map (some b0)] 51)).alloc (.cells #[.int .i64 t.kind, .string t.name, .int .i64 t.n, .bool t.flag, .slice an t.names.length cn, .slice am t.marks.length cm, .slice ak t.kids.length ck] 29)) (.cells #[.slice none 0 0] 25))
    rw [World.size_alloc, World.size_alloc] at this
    exact this
  have k3 : W4.cell? ⟨w.heap.size + 1 + 1 + 1, 0, none⟩ = some (pv ⟨w.heap.size + 1, 0, none⟩) := by
    rw [hW4]
    have := cell_of (heap_new (((w.alloc (.cells #[.map (some b0)] 51)).alloc (.cells #[.int .i64 t.kind, .string t.name, .int .i64 t.n, .bool t.flag, .slice an t.names.length cn, .slice am t.marks.length cm, .slice ak t.kids.length ck] 29)).alloc (.cells #[.slice none 0 0] 25)) (.cells #[pv ⟨w.heap.size + 1, 0, none⟩] 80)) 0
    rw [World.size_alloc, World.size_alloc, World.size_alloc] at this
    exact this
  obtain ⟨y0, y1, y2, y3, y4, y5, y6⟩ := bx7 k1
  have hT4 : TbS (fun b => b < w.heap.size) W4 b0 nn l := hT.low.kept hb4
  have hp4 : Prt (fun b => b < w.heap.size) W4 t (.slice an t.names.length cn) (.slice am t.marks.length cm) (.slice ak t.kids.length ck) := (hp.with (fun b hb _ => hb)).kept hb4
  have hwk := heW (fc := 1) (b := w.heap.size + 1) (o := 0) (nb := w.heap.size + 1 + 1) (cell_of k0 0) ⟨by omega, by omega, by omega⟩ (cell_of k2 0) (by simp [World.frozen?, k2]) hT4 (fun b hb => by omega) (lies_iff.2 ⟨y0, y1, y2, y3, _, _, _, y4, y5, y6, hp4.with (fun b _ hb => by have : b < w.heap.size := hb; omega)⟩) (by omega) hs hc k3
  have HB4 : Hid (Below w.heap.size w W4 ∧ W4.heap.size = w.heap.size + 4) := ⟨hb4, hz4⟩
  generalize t.hol (l.map Nmd.name) = ns at *
  unfold agT
  clear hT hp hs hc hb4 hz4 k0 k1 k2 k3 y0 y1 y2 y3 y4 y5 y6 hT4 hp4
  subst hW4
  go_enter Try.func36, Try.ntmps36
  go_wp2_with (go_at_call 29; refine hwk.mono ?_; rintro e w5 ⟨rfl, hk5, va, vc, hc5, ho5⟩; have HK5 : Hid (Kx (· = w.heap.size + 1 + 1) _ w5) := hk5; have HO5 : Hid (w5.ownsRow _ 9 1 (.slice va ns.length vc) ns.length (ns.map Value.string)) := ho5; clear hk5 ho5 hwk)
  go_ret
  exact ⟨below_kx1 HB4.out.1 HK5.out (by omega), va, vc, rfl, ownsRow_down HO5.out (by have := HB4.out.2; omega)⟩
end Go.Proofs.Ytdofhlmffponoaa

/-
  slices.Reverse of texts, walked.
-/
namespace Go.Proofs.Ytdofhlmffponoaa
open Go.RowKit
attribute [local go_sem ↓] Go.wp_at_zero Go.wp_at_succ
/-- a text as a value -/
abbrev sv (x : ByteArray) : Value := .string x
theorem Kx.than {X : Nat → Prop} {A B C : World} (h : Kx X A B) (k : Below B.heap.size B C) : Kx X A C := h.trans (Kx.of_whole k)
theorem set_blk2 {w : World} {g j : Nat} {v : Value} {cs : Array Value} {T : TypeId} (h : w.heap[g]? = some (.cells cs T (0, 0))) : (w.setCell ⟨g, j, none⟩ v).heap[g]? = some (.cells (cs.setIfInBounds j v) T (0, 0)) := by
  simp [World.setCell, Array.getElem?_modify, h]
set_option maxRecDepth 100000 in
set_option maxHeartbeats 8000000 in
theorem revS_any {w : World} {g n c base : Nat} {l : List ByteArray} (hn : n = l.length) (hm : n ≤ 1000000) (h : w.ownsRow base 9 1 (.slice (some ⟨g, 0, none⟩) n c) n (l.map sv)) : Calls Try.prog 56 #[.slice (some ⟨g, 0, none⟩) n c] w fun e w' => (∃ v, e = .returned v) ∧ Kx (· = g) w w' ∧ w'.ownsRow base 9 1 (.slice (some ⟨g, 0, none⟩) n c) n (l.reverse.map sv) := by
  obtain ⟨hl0, cap, cur, rfl, hbase, hbk, hcap, hmax, hsz, htk⟩ : (l.map sv).length = n * 1 ∧ ∃ cap cur, c = cap ∧ base ≤ g ∧ w.heap[g]? = some (.cells cur 9 (0, 0)) ∧ n ≤ cap ∧ cap ≤ maxLen ∧ cur.size = cap * 1 ∧ cur.toList.take (n * 1) = l.map sv := by
    refine ⟨h.1, ?_⟩
    rcases h.2 with ⟨h1, _⟩ | ⟨g', cap, cur, e, h1, h2, h3, h4, h5, h6⟩
    · cases h1
    · simp at e
      obtain ⟨rfl, rfl⟩ := e
      exact ⟨_, cur, rfl, h1, h2, h3, h4, h5, h6⟩
  have hz : (n : Int) - 1 ≤ 9223372036854775807 := by omega
  have HM : Hid (n ≤ 1000000 ∧ n = l.length) := ⟨hm, hn⟩
  have hst : ∀ q (hq : q < l.length), cur[q]? = some (sv l[q]) := fun q hq => by
    have h1 : (cur.toList.take (n * 1))[q]? = (l.map sv)[q]? := by rw [htk]
    rw [List.getElem?_take, if_pos (by omega), Array.getElem?_toList] at h1
    rw [h1]
    simp [hq]
  have HST : Hid (∀ q (hq : q < l.length), cur[q]? = some (sv l[q])) := hst
  have HBK : Hid (w.heap[g]? = some (.cells cur 9 (0, 0)) ∧ base ≤ g ∧ n ≤ c ∧ c ≤ maxLen ∧ cur.size = c * 1) := ⟨hbk, hbase, hcap, hmax, hsz⟩
  clear hn hm h hl0 hbk hbase hcap hmax hsz htk hst
  go_enter Try.func56, Try.ntmps56
  go_wp2_with fail
  go_loopg [2, 3] n (fun gh u2 u3 wr => ∃ (k : Nat), k ≤ n ∧ n - k ≤ gh ∧ u2 = .int .i64 k ∧ u3 = .int .i64 ((n : Int) - 1 - k) ∧ Hid (Kx (· = g) w wr ∧ ∃ cu : Array Value, wr.heap[g]? = some (.cells cu 9 (0, 0)) ∧ cu.size = cur.size ∧ (∀ q, n ≤ q → cu[q]? = cur[q]?) ∧ ∀ q (hq : q < l.length), cu[q]? = some (if q < k ∨ n ≤ q + k then sv (l[l.length - 1 - q]'(by omega)) else sv l[q])))
  case atStart => exact ⟨0, Nat.zero_le _, Nat.le_refl _, rfl, by simp, Kx.refl _ _, cur, HBK.out.1, rfl, fun _ _ => rfl, fun q hq => by rw [HST.out q hq, if_neg (by have := HM.out.2; omega)]⟩
  case round =>
    obtain ⟨k, hk, hg, rfl, rfl, HX⟩ := hrel
    obtain ⟨cu, hcu, hcs, hout, hin⟩ := HX.out.2
    by_cases hlt : (k : Int) < (n : Int) - 1 - k
    · have z0 : (0 : Int) ≤ (k : Int) := by omega
      obtain ⟨j, hj⟩ : ∃ j : Nat, (n : Int) - 1 - (k : Int) = (j : Int) := ⟨n - 1 - k, by omega⟩
      rw [hj] at hlt ⊢
      have z1 : (k : Int) < (n : Int) := by omega
      have z2 : (j : Int) < (n : Int) := by omega
      have z3 : (0 : Int) ≤ (j : Int) := by omega
      have hjl : j < l.length := by have := HM.out.2; omega
      have hkl : k < l.length := by have := HM.out.2; omega
      have x1 : wr.cell? ⟨g, k, none⟩ = some (.string l[k]) := by
        rw [cell_of hcu, hin k hkl, if_neg (by omega)]
      have x2 : wr.cell? ⟨g, j, none⟩ = some (.string l[j]) := by
        rw [cell_of hcu, hin j hjl, if_neg (by omega)]
      have f1 : wr.frozen? ⟨g, k, none⟩ = false := by simp [World.frozen?, hcu]
      have f2 : wr.frozen? ⟨g, j, none⟩ = false := by simp [World.frozen?, hcu]
      have hne : k ≠ j := by omega
      have hne2 : j ≠ k := by omega
      go_wp2_with fail
      go_region_law (fail)
      all_goals
        go_simp
        go_wp2_with fail
        go_roundg (n - (k + 1))
        case measure => omega
        case rel =>
          refine ⟨k + 1, by omega, Nat.le_refl _, by go_num, ?_, (HX.out.1.trans (kx_set.trans kx_set)).than (below_drew1 _), _, set_blk2 (set_blk2 hcu), by simp [hcs], fun q hq => ?_, fun q hq => ?_⟩
          · have e : (j : Int) - 1 = (n : Int) - 1 - ((k + 1 : Nat) : Int) := by omega
            first | (rw [← e]; go_num) | rw [← e]
          · rw [← hout q hq]
            simp only [Array.getElem?_setIfInBounds]
            rw [if_neg (by omega), if_neg (by omega)]
          · have hnl := HM.out.2
            have hsz : n ≤ cu.size := by rw [hcs, HBK.out.2.2.2.2]; have := HBK.out.2.2.1; omega
            simp only [Array.getElem?_setIfInBounds, Array.size_setIfInBounds]
            by_cases e1 : j = q
            · subst e1
              rw [if_pos rfl, if_pos (by omega), if_pos (by omega)]
              congr 2
              congr 1
              omega
            · rw [if_neg e1]
              by_cases e2 : k = q
              · subst e2
                rw [if_pos rfl, if_pos (by omega), if_pos (by omega)]
                congr 2
                congr 1
                omega
              · rw [if_neg e2, hin q hq]
                by_cases e3 : q < k ∨ n ≤ q + k
                · rw [if_pos e3, if_pos (by omega)]
                · rw [if_neg e3, if_neg (by omega)]
    · have hgo : ∀ q (hq : q < l.length), cu[q]? = some (sv (l[l.length - 1 - q]'(by omega))) := fun q hq => by
        rw [hin q hq]
        have hnl := HM.out.2
        split
        · rfl
        · congr 2
          congr 1
          omega
      have HGO : Hid (∀ q (hq : q < l.length), cu[q]? = some (sv (l[l.length - 1 - q]'(by omega)))) := hgo
      have HCU : Hid (wr.heap[g]? = some (.cells cu 9 (0, 0)) ∧ cu.size = cur.size) := ⟨hcu, hcs⟩
      clear hgo hin hout hcu hcs
      go_wp2_with fail
      refine bodyPost_end (results_none rfl _ _ _) rfl ⟨⟨_, rfl⟩, HX.out.1, by simp [HM.out.2], .inr ⟨g, c, cu, rfl, HBK.out.2.1, HCU.out.1, HBK.out.2.2.1, HBK.out.2.2.2.1, by rw [HCU.out.2]; exact HBK.out.2.2.2.2, ?_⟩⟩
      refine List.ext_getElem? fun q => ?_
      have hnl := HM.out.2
      rw [List.getElem?_take, Nat.mul_one, Array.getElem?_toList]
      by_cases hq : q < l.length
      · rw [if_pos (by omega), HGO.out q hq]
        simp [hq]
      · rw [if_neg (by omega)]
        simp [hq]
theorem revS_nil {w : World} : Calls Try.prog 56 #[.slice none 0 0] w fun e w' => (∃ v, e = .returned v) ∧ w' = w := by
  go_enter Try.func56, Try.ntmps56
  go_wp2_with fail
  go_loopg [2, 3] 0 (fun gh u2 u3 wr => u2 = .int .i64 0 ∧ u3 = .int .i64 (-1) ∧ wr = w)
  case atStart => exact ⟨rfl, rfl, rfl⟩
  case round =>
    obtain ⟨rfl, rfl, rfl⟩ := hrel
    go_wp2_with fail
    refine bodyPost_end (results_none rfl _ _ _) rfl ?_
    exact ⟨⟨_, rfl⟩, rfl⟩
end Go.Proofs.Ytdofhlmffponoaa

