/-
  recastalike.TypeSize, walked.
-/
import Derived.Test.YtcmnhkopmkaiaaaTyb
namespace Go.Proofs.Ytcmnhkopmkaiaaa
open Go.RowKit
attribute [local go_sem ↓] Go.wp_at_zero Go.wp_at_succ
mutual
/-- how many types, up to a limit -/
def Ty.tsz : Ty → Int → Int
  | .mk _ _ _ _ _ _ ks, m => tszL ks m 1
def tszL : List Ty → Int → Int → Int
  | [], _, s => s
  | x :: r, m, s => if s ≤ m then tszL r m (s + x.tsz (m - s)) else s
end
theorem tszL_le (ks : List Ty) (ih : ∀ x ∈ ks, ∀ m, 0 ≤ m → 1 ≤ x.tsz m ∧ x.tsz m ≤ m + 1) : ∀ m s, 1 ≤ s → s ≤ m + 1 → 1 ≤ tszL ks m s ∧ tszL ks m s ≤ m + 1 := by
  induction ks with
  | nil => intro m s h1 h2; simp only [tszL]; omega
  | cons x r ih2 =>
    intro m s h1 h2
    simp only [tszL]
    split
    · have := ih x (by simp) (m - s) (by omega)
      exact ih2 (fun y hy => ih y (by simp [hy])) m _ (by omega) (by omega)
    · omega
theorem tsz_le : ∀ t : Ty, ∀ m, 0 ≤ m → 1 ≤ t.tsz m ∧ t.tsz m ≤ m + 1 :=
  Ty.ind fun k nm n f ns ms ks ih m hm => by
    simp only [Ty.tsz]
    exact tszL_le ks ih m 1 (by omega) (by omega)
/-- the object of a type -/
abbrev obT (t : Ty) (vn vm vk : Value) : Obj := .cells #[.int .i64 t.kind, .string t.name, .int .i64 t.n, .bool t.flag, vn, vm, vk] 26
set_option maxRecDepth 100000 in
set_option maxHeartbeats 4000000 in
theorem tsz_any (B : BQ) : ∀ t : Ty, ∀ m : Int, 0 ≤ m → m ≤ 120 → ∀ (w : World) (vn vm vk : Value), Prt B w t vn vm vk → Calls Try.prog 15 #[agT t vn vm vk, .int .i64 m] w fun e w' => e = .returned (.int .i64 (t.tsz m)) ∧ Below w.heap.size w w' := by
  refine Ty.ind fun k nm n f ns ms ks ih m hm0 hm1 w vn vm vk hp => ?_
  have HI : Hid (∀ x ∈ ks, ∀ m : Int, 0 ≤ m → m ≤ 120 → ∀ (w : World) (vn vm vk : Value), Prt B w x vn vm vk → Calls Try.prog 15 #[agT x vn vm vk, .int .i64 m] w fun e w' => e = .returned (.int .i64 (x.tsz m)) ∧ Below w.heap.size w w') := ih
  obtain ⟨an, cn, am, cm, ak, ck, rfl, rfl, rfl⟩ := hp.form
  unfold agT
  simp only [Ty.kind, Ty.name, Ty.n, Ty.flag, Ty.names, Ty.marks, Ty.kids, Ty.tsz]
  obtain ⟨W0, hW0⟩ : ∃ W0, W0 = w.alloc (.cells #[.int .i64 k, .string nm, .int .i64 n, .bool f, .slice an ns.length cn, .slice am ms.length cm, .slice ak ks.length ck] 26) := ⟨_, rfl⟩
  have hb0 : Below w.heap.size w W0 := by rw [hW0]; exact below_alloc _ _
  have HB0 : Hid (Below w.heap.size w W0) := hb0
  have hz0 := hb0.size
  obtain ⟨a0, c0, e0, hlen, hel⟩ := (hp.kept hb0).ks.open
  obtain ⟨rfl, rfl⟩ : ak = a0 ∧ ck = c0 := by simpa [Ty.kids] using e0
  have HEL : Hid (∀ i (hi : i < ks.length), ∃ b o, ak = some ⟨b, o, none⟩ ∧ b < W0.heap.size ∧ B b ∧ (ks[i]).lies B W0 b (o + i * 7)) := hel
  have hlen : (ks.length : Int) ≤ 9223372036854775807 := hlen
  have HC : Hid (W0.cell? ⟨w.heap.size, 6, none⟩ = some (.slice ak ks.length ck)) := by
    rw [hW0]; exact (bx7 (heap_new w _)).2.2.2.2.2.2
  obtain ⟨R, hR⟩ : ∃ R, R = tszL ks m 1 := ⟨_, rfl⟩
  rw [← hR]
  have HR : Hid (R = tszL ks m 1) := hR
  clear ih hp hb0 e0 hel hR
  subst hW0
  go_enter Try.func15, Try.ntmps15
  go_wp2_with fail
  generalize w.alloc (.cells #[.int .i64 k, .string nm, .int .i64 n, .bool f, .slice an ns.length cn, .slice am ms.length cm, .slice ak ks.length ck] 26) = W0 at *
  go_loopg [5, 6] ks.length (fun g u5 u6 wr => ∃ (i : Nat) (s : Int), i ≤ ks.length ∧ ks.length - i ≤ g ∧ u6 = .int .i64 i ∧ u5 = .int .i64 s ∧ 1 ≤ s ∧ s ≤ m + 1 ∧ Hid (Below W0.heap.size W0 wr ∧ tszL (ks.drop i) m s = R))
  case atStart => exact ⟨0, 1, Nat.zero_le _, Nat.le_refl _, rfl, rfl, by omega, by omega, Below.refl _ _, by rw [HR.out]; rfl⟩
  case round =>
    obtain ⟨i, s, hi, hg, rfl, rfl, hs0, hs1, HX⟩ := hrel
    have x6 := kept_cell HX.out.1 HC.out
    by_cases hlt : i < ks.length
    · have z1 : (i : Int) < (ks.length : Int) := by omega
      have z0 : (0 : Int) ≤ (i : Int) := by omega
      by_cases hsm : s ≤ m
      · obtain ⟨b, o, rfl, _, _, hli⟩ := HEL.out i hlt
        obtain ⟨e0, e1, e2, e3, v4, v5, v6, e4, e5, e6, hpi⟩ := lies_iff.1 hli
        obtain ⟨bn, dn, bm, dm, bk, dk, rfl, rfl, rfl⟩ := hpi.form
        have e0 := kept_cell HX.out.1 e0
        have e1 := kept_cell HX.out.1 e1
        have e2 := kept_cell HX.out.1 e2
        have e3 := kept_cell HX.out.1 e3
        have e4 := kept_cell HX.out.1 e4
        have e5 := kept_cell HX.out.1 e5
        have e6 := kept_cell HX.out.1 e6
        have hc := HI.out ks[i] (List.getElem_mem _) (m - s) (by omega) (by omega) wr _ _ _ (hpi.kept HX.out.1)
        have hle := tsz_le ks[i] (m - s) (by omega)
        have HD : Hid (tszL (ks.drop i) m s = tszL (ks.drop (i + 1)) m (s + (ks[i]).tsz (m - s))) := by
          show _ = _
          rw [List.drop_eq_getElem_cons hlt]; simp only [tszL]; rw [if_pos hsm]
        unfold agT at hc
        have HXB : Hid (Below W0.heap.size W0 wr) := HX.out.1
        have HXE : Hid (tszL (ks.drop i) m s = R) := HX.out.2
        clear hli hpi HX
        generalize (ks[i]).tsz (m - s) = r at *
        generalize (ks[i]).kind = ki at *
        generalize (ks[i]).name = ni at *
        generalize (ks[i]).n = nn at *
        generalize (ks[i]).flag = fi at *
        generalize (ks[i]).names.length = l1 at *
        generalize (ks[i]).marks.length = l2 at *
        generalize (ks[i]).kids.length = l3 at *
        go_wp2_with (go_at_call 15; refine hc.mono ?_; rintro e w1 ⟨rfl, hb1⟩; have HB1 : Hid (Below W0.heap.size W0 w1) := HXB.out.trans (hb1.mono HXB.out.size); clear hb1 hc)
        go_roundg (ks.length - (i + 1))
        case measure => omega
        case rel => exact ⟨i + 1, s + r, by omega, Nat.le_refl _, by go_num, by go_num, by omega, by omega, HB1.out, by rw [← HD.out]; exact HXE.out⟩
      · have HE : Hid (R = s) := by
          show _ = _
          rw [← HX.out.2, List.drop_eq_getElem_cons hlt]; simp only [tszL]; rw [if_neg hsm]
        have HXB : Hid (Below W0.heap.size W0 wr) := HX.out.1
        clear HX
        go_wp2_with fail
        go_ret
        exact ⟨by rw [HE.out]; rfl, HB0.out.trans (HXB.out.mono hz0)⟩
    · have z1 : ¬ (i : Int) < (ks.length : Int) := by omega
      have HE : Hid (R = s) := by
        show _ = _
        rw [← HX.out.2, List.drop_of_length_le (by omega)]; simp only [tszL]
      have HXB : Hid (Below W0.heap.size W0 wr) := HX.out.1
      clear HX
      go_wp2_with fail
      go_ret
      exact ⟨by rw [HE.out]; rfl, HB0.out.trans (HXB.out.mono hz0)⟩
end Go.Proofs.Ytcmnhkopmkaiaaa

