/-
  spans.Moved of any edits.
-/
import Derived.Test.YtbgkdofjndocfabBoth
namespace Go.Proofs.Ytbgkdofjndocfab
open Go.RowKit
attribute [local go_sem ↓] Go.wp_at_zero Go.wp_at_succ
def mvF (path : ByteArray) (at_ : Int) : List Ed → Int → Option Int
  | [], m => some m
  | e :: r, m => if e.1.toList == path.toList ∧ e.2.1 ≤ at_ then (if at_ < e.2.2.1 then none else mvF path at_ r (m + ((e.2.2.2.size : Int) - (e.2.2.1 - e.2.1)))) else mvF path at_ r m
def mvR : Option Int → Value
  | some m => .tuple #[.int .i64 (wrap64 m), .bool true]
  | none => .tuple #[.int .i64 0, .bool false]
def MvPost (l : List Ed) (path : ByteArray) (at_ : Int) (w : World) (e : Ending) (w' : World) : Prop :=
  Below w.heap.size w w' ∧ ((∃ out, Srt l out ∧ 0 ≤ at_ ∧ e = .returned (mvR (mvF path at_ out at_))) ∨ ((¬ Good l ∨ at_ < 0) ∧ e = .returned (.tuple #[.int .i64 0, .bool false])))
theorem drop_getD (l : List Ed) (k : Nat) (h : k < l.length) : l.drop k = l.getD k default :: l.drop (k + 1) := by
  rw [List.drop_eq_getElem_cons h]
  simp [List.getD_eq_getElem?_getD, h]
theorem len_le : ∀ (out l : List Ed), out.Pairwise AH → (∀ x ∈ out, x ∈ l) → out.length ≤ l.length
  | [], _, _, _ => by simp
  | x :: r, l, hp, hm => by
    rw [List.pairwise_cons] at hp
    have hx := hm x (by simp)
    have ih := len_le r (l.eraseP fun y => eqE y x) hp.2 fun y hy => by
      have hne : ¬ (fun z => eqE z x) y = true := fun e => ah_irrefl x ((eqE_iff y x).1 e ▸ hp.1 y hy)
      exact (List.mem_eraseP_of_neg (p := fun z => eqE z x) hne).2 (hm y (by simp [hy]))
    rw [List.length_eraseP_of_mem (p := fun z => eqE z x) hx ((eqE_iff x x).2 rfl)] at ih
    have := List.length_pos_of_mem hx
    simp
    omega
theorem Srt.len {l out : List Ed} (h : Srt l out) : out.length ≤ l.length := len_le out l h.pw fun x hx => (h.mem x).1 hx
theorem Srt.ok {l out : List Ed} (h : Srt l out) (k : Nat) (hk : k < out.length) : okSp (out.getD k default) := h.good.1 _ ((h.mem _).1 (getD_mem out k hk))
theorem mvF_step (path : ByteArray) (at_ m : Int) (out : List Ed) (k : Nat) (hk : k < out.length) : mvF path at_ (out.drop k) m = if (out.getD k default).1.toList == path.toList ∧ (out.getD k default).2.1 ≤ at_ then (if at_ < (out.getD k default).2.2.1 then none else mvF path at_ (out.drop (k + 1)) (m + (((out.getD k default).2.2.2.size : Int) - ((out.getD k default).2.2.1 - (out.getD k default).2.1)))) else mvF path at_ (out.drop (k + 1)) m := by
  rw [drop_getD out k hk, mvF]
theorem mvF_done (path : ByteArray) (at_ m : Int) (out : List Ed) : mvF path at_ (out.drop out.length) m = some m := by simp [mvF]
theorem wr_prog (M c x : Int) : wrap64 (wrap64 M + wrap64 (c - wrap64 x)) = wrap64 (M + (c - x)) := by
  unfold wrap64; omega
set_option maxRecDepth 100000 in
set_option maxHeartbeats 1000000 in
theorem moved_any (v : Value) (l : List Ed) (path : ByteArray) (at_ : Int) (w : World) (hn : l.length ≤ 2932031007402) (hat : wrap64 at_ = at_) (h : EdArg w v l) : Calls Try.prog 9 #[v, .string path, .int .i64 at_] w fun e w' => MvPost l path at_ w e w' := by
  have h10 := sorted_sp v l w hn h
  clear h
  go_enter Try.func9, Try.ntmps9
  go_wp2_with fail
  refine h10.mono ?_
  rintro e w1 ⟨hb1, ⟨a, cap, out, hs, rfl, hr⟩ | ⟨hg, rfl⟩⟩
  · clear h10
    have HS : Hid (Srt l out) := hs
    have HB : Hid (Below w.heap.size w w1) := hb1
    have HAT : Hid (wrap64 at_ = at_) := hat
    clear hs hb1
    by_cases hat0 : at_ < 0
    · clear hat
      go_wp2_with fail
      go_ret2
      exact ⟨HB.out, .inr ⟨.inr hat0, rfl⟩⟩
    · clear hat
      have hol := HS.out.len
      go_wp2_with fail
      go_loopw [10, 27] (fun mv i w' => ∃ (k : Nat) (M : Int), k ≤ out.length ∧ i = .int .i64 k ∧ mv = .int .i64 (wrap64 M) ∧ Below w1.heap.size w1 w' ∧ Hid (mvF path at_ (out.drop k) M = mvF path at_ out at_)) (fun _ i _ => out.length - (intOf i).toNat)
      case atStart => exact ⟨0, at_, by omega, rfl, by rw [HAT.out], Below.refl _ _, rfl⟩
      case round =>
        obtain ⟨k, M, hk, rfl, rfl, hbk, HM⟩ := hrel
        have HBK : Hid (Below w1.heap.size w1 wr) := hbk
        have hz := hbk.size
        by_cases hlt : k < out.length
        · obtain ⟨g, rfl, hrow⟩ := hr (by omega)
          obtain ⟨a0, a1, a2, a3⟩ := (hrow.eds k hlt).below hrow.hi hbk
          have HST : Hid _ := (mvF_step path at_ M out k hlt).symm.trans HM.out
          have hok := HS.out.ok k hlt
          have z1 : (0 : Int) ≤ (k : Int) := by omega
          have z2 : (k : Int) < (out.length : Int) := by omega
          clear hbk HM
          generalize out.getD k default = x at *
          obtain ⟨p, xa, xb, t⟩ := x
          simp only at a0 a1 a2 a3 hok
          have hx := hok.2
          simp only at hx
          have hbn : Hid (∀ A : Obj, Below w1.heap.size w1 (wr.alloc A)) := fun A => HBK.out.alloc hz _
          have HST' := HST.out
          simp only at HST'
          clear HST hok
          cases hpe : (p.toList == path.toList)
          · have hn : mvF path at_ (out.drop (k + 1)) M = mvF path at_ out at_ := by
              rw [hpe] at HST'; simpa using HST'
            have HN : Hid (mvF path at_ (out.drop (k + 1)) M = mvF path at_ out at_) := hn
            clear hn
            clear HST'
            go_wp2_with fail
            go_roundw
            case rel => exact ⟨k + 1, M, by omega, by go_num, rfl, hbn.out _, HN⟩
            case measure => simp [intOf]; omega
          · by_cases hxa : xa ≤ at_
            · by_cases hxb : at_ < xb
              · have hn : mvF path at_ out at_ = none := by
                  rw [hpe] at HST'; simpa [hxa, hxb] using HST'.symm
                have HN : Hid (mvF path at_ out at_ = none) := hn
                clear hn
                clear HST'
                go_wp2_with fail
                go_ret2
                exact ⟨HB.out.trans ((hbn.out _).mono HB.out.size), .inl ⟨out, HS.out, by omega, by rw [HN.out]; rfl⟩⟩
              · have hn : mvF path at_ (out.drop (k + 1)) (M + ((t.size : Int) - (xb - xa))) = mvF path at_ out at_ := by
                  rw [hpe] at HST'; simpa [hxa, hxb] using HST'
                have HN : Hid (mvF path at_ (out.drop (k + 1)) (M + ((t.size : Int) - (xb - xa))) = mvF path at_ out at_) := hn
                clear hn
                clear HST'
                have hwr := wr_prog M t.size (xb - xa)
                have HWR : Hid _ := hwr
                clear hwr
                go_wp2_with fail
                go_roundw
                case rel => exact ⟨k + 1, _, by omega, by go_num, by rw [← HWR.out], hbn.out _, HN⟩
                case measure => simp [intOf]; omega
            · have hn : mvF path at_ (out.drop (k + 1)) M = mvF path at_ out at_ := by
                rw [hpe] at HST'; simpa [hxa] using HST'
              have HN : Hid (mvF path at_ (out.drop (k + 1)) M = mvF path at_ out at_) := hn
              clear hn
              clear HST'
              go_wp2_with fail
              go_roundw
              case rel => exact ⟨k + 1, M, by omega, by go_num, rfl, hbn.out _, HN⟩
              case measure => simp [intOf]; omega
        · obtain rfl : k = out.length := by omega
          have HN : Hid (mvF path at_ out at_ = some M) := HM.out.symm.trans (mvF_done _ _ _ _)
          clear HM hbk
          go_wp2_with fail
          go_ret2
          exact ⟨HB.out.trans (HBK.out.mono HB.out.size), .inl ⟨out, HS.out, by omega, by rw [HN.out]; rfl⟩⟩
  · clear h10 hat
    go_wp2_with fail
    go_ret2
    exact ⟨hb1, .inr ⟨.inl hg, rfl⟩⟩
end Go.Proofs.Ytbgkdofjndocfab
