/-
  The contract of the document's own Parse at a number's text of at most 200 digits.
-/
import Derived.Test.YtimjafgaadafdaaDoorReadE
namespace Go.Proofs.YtimjafgaadafdaaDoor
open Go.RowKit
attribute [local go_sem ↓] Go.wp_at_zero Go.wp_at_succ
set_option maxHeartbeats 8000000 in
set_option maxRecDepth 100000 in
theorem rparse_small1 (S : ByteArray) (w : World) (hp : 0 < S.size) (hs : S.size ≤ 200) (hN : NumP S) (hE : S.toList.isEmpty = false) (hZ : (((S[0]'hp).toNat : Int) == 48) = false) :
    Calls Tryd.prog 27 #[.string S] w fun e w' => ParC S w e w' := by
  have HN : Hid (NumP S) := hN
  clear hN
  have X0 : Hid (Box (w.alloc (Obj.cells #[Value.bool false, Value.slice none 0 0] 24)) w.heap.size (.bool false) (.slice none 0 0)) := Box.new _ _ _ _
  have HB0 : Hid (Below w.heap.size w (w.alloc (Obj.cells #[Value.bool false, Value.slice none 0 0] 24))) := (Below.refl _ _).alloc (Nat.le_refl _) _
  go_enter Tryd.func27, Tryd.ntmps27
  go_wp2_with fail
  go_loopw [4] (fun iv wr => ∃ k : Nat, k ≤ S.size ∧ iv = .int .i64 k ∧ Hid (∀ i, i < k → 48 ≤ bt S i ∧ bt S i ≤ 57) ∧ Hid (Below w.heap.size w wr) ∧ Hid (Box wr w.heap.size (.bool false) (.slice none 0 0))) (fun iv _ => S.size - (intOf iv).toNat)
  case atStart => exact ⟨0, Nat.zero_le _, rfl, (fun i hi => by omega), HB0, X0⟩
  case round =>
    clear HB0 X0
    obtain ⟨k, hk, rfl, HD, HB, X1⟩ := hrel
    by_cases hlt : k < S.size
    · have hbt := bt_at S k hlt
      obtain ⟨x, hx⟩ : ∃ x, x = bt S k := ⟨_, rfl⟩
      have hb2 : ((S[k]'hlt).toNat : Int) = (x : Int) := by rw [hbt, hx]
      have HX : Hid (x = bt S k) := hx
      clear hbt hx
      by_cases h1 : x < 48
      · exact absurd (HN.out.dig k hlt) (by rw [← HX.out]; omega)
      · by_cases h2 : 57 < x
        · exact absurd (HN.out.dig k hlt) (by rw [← HX.out]; omega)
        · go_wp2_with fail
          go_roundw
          case rel => exact ⟨k + 1, by omega, by go_num, dig_step HD.out HX.out h1 h2, HB, X1⟩
          case measure => simp [intOf]; omega
    · obtain rfl : k = S.size := by omega
      clear HD
      have HS1 : Hid (w.heap.size + 1 ≤ wr.heap.size) := X1.out.lt
      go_wp2_with fail
      go_loopw [5, 6] (fun mv iv wr => ∃ (i k mc : Nat) (ma : Option Addr) (r : List Nat), i ≤ S.size ∧ iv = .int .i64 i ∧ mv = .slice ma k mc ∧ k ≤ 2 * i ∧ Hid (Own wr (w.heap.size + 1) ma k mc r) ∧ Hid (ma = none → mc = 0) ∧ Hid (vl 4294967296 r = vl 10 ((dl S).drop (S.size - i))) ∧ Hid (Box wr w.heap.size (.bool false) (.slice none 0 0)) ∧ Hid (Below w.heap.size w wr) ∧ Hid (w.heap.size + 1 ≤ wr.heap.size)) (fun _ iv _ => S.size - (intOf iv).toNat)
      case atStart => exact ⟨0, 0, 0, none, [], Nat.zero_le _, rfl, rfl, Nat.le_refl _, ⟨Sl.nil _, (fun h => by omega)⟩, (fun _ => rfl), (by show _ = _; rw [Nat.sub_zero, List.drop_of_length_le (by rw [dl_len]; exact Nat.le_refl _)]; rfl), X1, HB, HS1⟩
      case round =>
        clear X1 HB HS1
        obtain ⟨i, k, mc, ma, r, hi, rfl, rfl, hk, OR, NR, VM, X1, HB, HS⟩ := hrel
        by_cases hlt : i < S.size
        · have hbt := bt_at S i hlt
          have hdg := HN.out.dig i hlt
          obtain ⟨d, hd⟩ : ∃ d, bt S i = d + 48 := ⟨bt S i - 48, by omega⟩
          have hb2 : ((S[i]'hlt).toNat : Int) = (d : Int) + 48 := by rw [hbt, hd]; rfl
          have hdb : d ≤ 9 := by omega
          have hw8 : IntKind.u8.wrap (d : Int) = (d : Int) := by rw [IntKind.wrap_u8']; omega
          have hw32 : IntKind.u32.wrap (d : Int) = (d : Int) := by rw [IntKind.wrap_u32']; omega
          have HDS : Hid (vl 10 ((dl S).drop (S.size - (i + 1))) = d + 10 * vl 10 ((dl S).drop (S.size - i))) := by show _ = _; rw [dl_drop S i hlt, hd]; rfl
          clear hbt hdg hd
          go_wp2_with fail
          refine wp_region_held_drew (S := fun _ => True) (by kernel_rfl) trivial (fun hHeld => ?_)
          clear hHeld
          have hb : Below wr.heap.size wr wr.drew := (Below.refl _ _).drew
          generalize hg : wr.drew = U0 at *
          clear hg
          have OR : Hid (Own U0 (w.heap.size + 1) ma k mc r) := OR.out.below hb (Nat.le_refl _)
          have X1 : Hid (Box U0 w.heap.size (.bool false) (.slice none 0 0)) := X1.out.below hb X1.out.lt
          have HB : Hid (Below w.heap.size w U0) := HB.out.trans (hb.mono HB.out.size)
          have HS : Hid (w.heap.size + 1 ≤ U0.heap.size) := Nat.le_trans HS.out hb.size
          clear hb
          refine wpAnyH_take (i := 0) (oi := { dst := some 46, op := Op.move (Operand.tmp 5), type := 22, pos := "exact.go:219", after := #[], guard := none }) (v := ?_) rfl (by kernel_rfl) (by kernel_rfl) (by kernel_rfl) (fun _ _ _ h => h) (Or.inl ⟨by rfl, ?_⟩) trivial ?_
          rotate_left
          · intro w hSw; (try dsimp only at hSw); (go_simp <;> with_reducible rfl)
          try simp only [Act.put, List.setIfInBounds_toArray, List.set_cons_zero, List.set_cons_succ]
          refine wpAnyH_take (i := 3) (oi := { dst := some 49, op := Op.move (Operand.tmp 0), type := 9, pos := "exact.go:219", after := #[], guard := none }) (v := ?_) rfl (by kernel_rfl) (by kernel_rfl) (by kernel_rfl) (fun _ _ _ h => h) (Or.inl ⟨by rfl, ?_⟩) trivial ?_
          rotate_left
          · intro w hSw; (try dsimp only at hSw); (go_simp <;> with_reducible rfl)
          try simp only [Act.put, List.setIfInBounds_toArray, List.set_cons_zero, List.set_cons_succ]
          refine wpAnyH_take (i := 4) (oi := { dst := some 50, op := Op.move (Operand.tmp 6), type := 3, pos := "exact.go:219", after := #[], guard := none }) (v := ?_) rfl (by kernel_rfl) (by kernel_rfl) (by kernel_rfl) (fun _ _ _ h => h) (Or.inl ⟨by rfl, ?_⟩) trivial ?_
          rotate_left
          · intro w hSw; (try dsimp only at hSw); (go_simp <;> with_reducible rfl)
          try simp only [Act.put, List.setIfInBounds_toArray, List.set_cons_zero, List.set_cons_succ]
          refine wpAnyH_take (i := 5) (oi := { dst := some 51, op := Op.index 9 (Operand.tmp 49) (Operand.tmp 50), type := 5, pos := "exact.go:219", after := #[{ on := 3, ground := Ground.data }, { on := 4, ground := Ground.data }], guard := none }) (v := ?_) rfl (by kernel_rfl) (by kernel_rfl) (by kernel_rfl) (fun _ _ _ h => h) (Or.inl ⟨by rfl, ?_⟩) trivial ?_
          rotate_left
          · intro w hSw; (try dsimp only at hSw); (go_simp <;> with_reducible rfl)
          try simp only [Act.put, List.setIfInBounds_toArray, List.set_cons_zero, List.set_cons_succ]
          refine wpAnyH_take (i := 6) (oi := { dst := some 52, op := Op.binOp BinOp.sub 5 (Operand.tmp 51) (Operand.const (Value.int IntKind.u8 48)) 5, type := 5, pos := "exact.go:219", after := #[{ on := 5, ground := Ground.data }], guard := none }) (v := ?_) rfl (by kernel_rfl) (by kernel_rfl) (by kernel_rfl) (fun _ _ _ h => h) (Or.inl ⟨by rfl, ?_⟩) trivial ?_
          rotate_left
          · intro w hSw; (try dsimp only at hSw); (go_simp <;> with_reducible rfl)
          try simp only [Act.put, List.setIfInBounds_toArray, List.set_cons_zero, List.set_cons_succ]
          refine wpAnyH_take (i := 7) (oi := { dst := some 53, op := Op.convert 5 47 (Operand.tmp 52), type := 47, pos := "exact.go:219", after := #[{ on := 6, ground := Ground.data }], guard := none }) (v := ?_) rfl (by kernel_rfl) (by kernel_rfl) (by kernel_rfl) (fun _ _ _ h => h) (Or.inl ⟨by rfl, ?_⟩) trivial ?_
          rotate_left
          · intro w hSw; (try dsimp only at hSw); (go_simp <;> with_reducible rfl)
          try simp only [Act.put, List.setIfInBounds_toArray, List.set_cons_zero, List.set_cons_succ]
          refine wpAnyH_ready (rs := [1, 8]) (by kernel_rfl) (by simp) ?_
          refine (AllReadyH.cons (o := { dst := some 47, op := Op.buildSlice 22 1 #[(0, Operand.const (Value.int IntKind.u32 10))], type := 22, pos := "exact.go:219", after := #[], guard := none }) rfl (fun K hK => ?_) (AllReadyH.cons (o := { dst := some 54, op := Op.buildSlice 22 1 #[(0, Operand.tmp 53)], type := 22, pos := "exact.go:219", after := #[{ on := 7, ground := Ground.data }], guard := none }) rfl (fun K hK => ?_) AllReadyH.nil))
          · go_simp
            have hb : Below U0.heap.size U0 (U0.alloc (Obj.cells #[Value.int IntKind.u32 (10 : Int)] 47)) := (Below.refl _ _).alloc (Nat.le_refl _) _
            have hl := lit_sl U0 10 (by omega)
            refine hK.out _ _ trivial (fun hHeld => ?_)
            clear hK K hHeld
            try simp only [Act.put, List.setIfInBounds_toArray, List.set_cons_zero, List.set_cons_succ]
            generalize hg : World.alloc U0 _ = U1 at *
            clear hg
            have OR : Hid (Own U1 (w.heap.size + 1) ma k mc r) := OR.out.below hb (Nat.le_refl _)
            have X1 : Hid (Box U1 w.heap.size (.bool false) (.slice none 0 0)) := X1.out.below hb X1.out.lt
            have HB : Hid (Below w.heap.size w U1) := HB.out.trans (hb.mono HB.out.size)
            have HS : Hid (w.heap.size + 1 ≤ U1.heap.size) := Nat.le_trans HS.out hb.size
            clear hb
            have LT : Hid (Sl U1 (some ⟨U0.heap.size, 0, none⟩) 1 1 [10]) := hl
            clear hl
            refine wpAnyH_ready (rs := [2, 8]) (by kernel_rfl) (by simp) ?_
            refine (AllReadyH.cons (o := { dst := some 48, op := Op.call { callee := Callee.value (Operand.func 51), args := #[Operand.tmp 46, Operand.tmp 47], argTypes := #[22, 22] }, type := 22, pos := "exact.go:219", after := #[{ on := 0, ground := Ground.data }, { on := 1, ground := Ground.data }], guard := none }) rfl (fun K hK => ?_) (AllReadyH.cons (o := { dst := some 54, op := Op.buildSlice 22 1 #[(0, Operand.tmp 53)], type := 22, pos := "exact.go:219", after := #[{ on := 7, ground := Ground.data }], guard := none }) rfl (fun K hK => ?_) AllReadyH.nil))
            · go_simp
              refine (rtimes_any ma k mc r (some ⟨U0.heap.size, 0, none⟩) 1 1 [10] _ OR.out.sl LT.out (by omega) (by omega)).mono ?_
              rintro e U2 ⟨r1, rfl, ho, hv, hb⟩
              have V4 : Hid (vl 4294967296 r1 = vl 4294967296 r * 10) := by rw [hv]; simp [vl, Hid]
              have O4 : Hid (Own U2 (w.heap.size + 1) (some ⟨U1.heap.size, 0, none⟩) (k + 1) (k + 1) r1) := ho.mono HS.out
              clear ho hv
              have OR : Hid (Own U2 (w.heap.size + 1) ma k mc r) := OR.out.below hb (Nat.le_refl _)
              have X1 : Hid (Box U2 w.heap.size (.bool false) (.slice none 0 0)) := X1.out.below hb X1.out.lt
              have LT : Hid (Sl U2 (some ⟨U0.heap.size, 0, none⟩) 1 1 [10]) := LT.out.below hb (Nat.le_refl _)
              have HB : Hid (Below w.heap.size w U2) := HB.out.trans (hb.mono HB.out.size)
              have HS : Hid (w.heap.size + 1 ≤ U2.heap.size) := Nat.le_trans HS.out hb.size
              clear hb
              go_wp2_with fail
              refine hK.out _ _ trivial (fun hHeld => ?_)
              clear hK K hHeld
              try simp only [Act.put, List.setIfInBounds_toArray, List.set_cons_zero, List.set_cons_succ]
              refine wpAnyH_ready (rs := [8]) (by kernel_rfl) (by simp) ?_
              refine (AllReadyH.cons (o := { dst := some 54, op := Op.buildSlice 22 1 #[(0, Operand.tmp 53)], type := 22, pos := "exact.go:219", after := #[{ on := 7, ground := Ground.data }], guard := none }) rfl (fun K hK => ?_) AllReadyH.nil)
              go_simp
              have hb : Below U2.heap.size U2 (U2.alloc (Obj.cells #[Value.int IntKind.u32 ((d : Nat) : Int)] 47)) := (Below.refl _ _).alloc (Nat.le_refl _) _
              have hl := lit_sl U2 d (by omega)
              refine hK.out _ _ trivial (fun hHeld => ?_)
              clear hK K hHeld
              try simp only [Act.put, List.setIfInBounds_toArray, List.set_cons_zero, List.set_cons_succ]
              generalize hg : World.alloc U2 _ = U3 at *
              clear hg
              have OR : Hid (Own U3 (w.heap.size + 1) ma k mc r) := OR.out.below hb (Nat.le_refl _)
              have X1 : Hid (Box U3 w.heap.size (.bool false) (.slice none 0 0)) := X1.out.below hb X1.out.lt
              have LT : Hid (Sl U3 (some ⟨U0.heap.size, 0, none⟩) 1 1 [10]) := LT.out.below hb (Nat.le_refl _)
              have O4 : Hid (Own U3 (w.heap.size + 1) (some ⟨U1.heap.size, 0, none⟩) (k + 1) (k + 1) r1) := O4.out.below hb (Nat.le_refl _)
              have HB : Hid (Below w.heap.size w U3) := HB.out.trans (hb.mono HB.out.size)
              have HS : Hid (w.heap.size + 1 ≤ U3.heap.size) := Nat.le_trans HS.out hb.size
              clear hb
              have LD : Hid (Sl U3 (some ⟨U2.heap.size, 0, none⟩) 1 1 [d]) := hl
              clear hl
              refine wpAnyH_ready (rs := [9]) (by kernel_rfl) (by simp) ?_
              refine (AllReadyH.cons (o := { dst := some 55, op := Op.call { callee := Callee.value (Operand.func 43), args := #[Operand.tmp 48, Operand.tmp 54], argTypes := #[22, 22] }, type := 22, pos := "exact.go:219", after := #[{ on := 2, ground := Ground.data }, { on := 8, ground := Ground.data }, { on := 2, ground := Ground.chain }], guard := none }) rfl (fun K hK => ?_) AllReadyH.nil)
              go_simp
              refine (rplus_any (some ⟨U1.heap.size, 0, none⟩) (k + 1) (k + 1) r1 (some ⟨U2.heap.size, 0, none⟩) 1 1 [d] _ O4.out.sl LD.out (by omega) (by omega)).mono ?_
              rintro e U4 ⟨a5, k5, c5, r5, rfl, ho, hn5, hk5, hv, hb⟩
              have V5 : Hid (vl 4294967296 r5 = vl 4294967296 r * 10 + d) := by rw [hv, V4.out]; simp [vl, Hid]
              have hk5 : k5 ≤ k + 2 := by omega
              have N5 : Hid (a5 = none → c5 = 0) := hn5
              have O5 : Hid (Own U4 (w.heap.size + 1) a5 k5 c5 r5) := ho.mono HS.out
              clear ho hv hn5
              have OR : Hid (Own U4 (w.heap.size + 1) ma k mc r) := OR.out.below hb (Nat.le_refl _)
              have X1 : Hid (Box U4 w.heap.size (.bool false) (.slice none 0 0)) := X1.out.below hb X1.out.lt
              have LT : Hid (Sl U4 (some ⟨U0.heap.size, 0, none⟩) 1 1 [10]) := LT.out.below hb (Nat.le_refl _)
              have O4 : Hid (Own U4 (w.heap.size + 1) (some ⟨U1.heap.size, 0, none⟩) (k + 1) (k + 1) r1) := O4.out.below hb (Nat.le_refl _)
              have LD : Hid (Sl U4 (some ⟨U2.heap.size, 0, none⟩) 1 1 [d]) := LD.out.below hb (Nat.le_refl _)
              have HB : Hid (Below w.heap.size w U4) := HB.out.trans (hb.mono HB.out.size)
              have HS : Hid (w.heap.size + 1 ≤ U4.heap.size) := Nat.le_trans HS.out hb.size
              clear hb
              go_wp2_with fail
              refine hK.out _ _ trivial (fun hHeld => ?_)
              clear hK K hHeld
              try simp only [Act.put, List.setIfInBounds_toArray, List.set_cons_zero, List.set_cons_succ]
              refine wpAnyH_ready (rs := [10]) (by kernel_rfl) (by simp) ?_
              refine (AllReadyH.cons (o := { dst := some 56, op := Op.call { callee := Callee.value (Operand.func 52), args := #[Operand.tmp 55], argTypes := #[22] }, type := 22, pos := "exact.go:219", after := #[{ on := 9, ground := Ground.data }, { on := 9, ground := Ground.chain }], guard := none }) rfl (fun K hK => ?_) AllReadyH.nil)
              go_simp
              refine (rtrim_any a5 k5 c5 r5 _ O5.out.sl N5.out (by omega)).mono ?_
              rintro e U5 ⟨a6, c6, rfl, ho, hn6, hb⟩
              have K6 := tk_le O5.out.sl
              have N6 : Hid (a6 = none → c6 = 0) := hn6
              have O6 : Hid (Own U5 (w.heap.size + 1) a6 (tk r5) c6 (r5.take (tk r5))) := ho.mono HS.out
              clear ho hn6
              have OR : Hid (Own U5 (w.heap.size + 1) ma k mc r) := OR.out.below hb (Nat.le_refl _)
              have X1 : Hid (Box U5 w.heap.size (.bool false) (.slice none 0 0)) := X1.out.below hb X1.out.lt
              have LT : Hid (Sl U5 (some ⟨U0.heap.size, 0, none⟩) 1 1 [10]) := LT.out.below hb (Nat.le_refl _)
              have O4 : Hid (Own U5 (w.heap.size + 1) (some ⟨U1.heap.size, 0, none⟩) (k + 1) (k + 1) r1) := O4.out.below hb (Nat.le_refl _)
              have LD : Hid (Sl U5 (some ⟨U2.heap.size, 0, none⟩) 1 1 [d]) := LD.out.below hb (Nat.le_refl _)
              have O5 : Hid (Own U5 (w.heap.size + 1) a5 k5 c5 r5) := O5.out.below hb (Nat.le_refl _)
              have HB : Hid (Below w.heap.size w U5) := HB.out.trans (hb.mono HB.out.size)
              have HS : Hid (w.heap.size + 1 ≤ U5.heap.size) := Nat.le_trans HS.out hb.size
              clear hb
              go_wp2_with fail
              refine hK.out _ _ trivial (fun hHeld => ?_)
              clear hK K hHeld
              try simp only [Act.put, List.setIfInBounds_toArray, List.set_cons_zero, List.set_cons_succ]
              refine wpAnyH_take (i := 11) (oi := { dst := some 5, op := Op.assign (Operand.tmp 56), type := 22, pos := "exact.go:219", after := #[{ on := 10, ground := Ground.data }, { on := 10, ground := Ground.chain }, { on := 0, ground := Ground.phase }, { on := 1, ground := Ground.phase }, { on := 2, ground := Ground.phase }, { on := 3, ground := Ground.phase }, { on := 4, ground := Ground.phase }, { on := 5, ground := Ground.phase }, { on := 6, ground := Ground.phase }, { on := 7, ground := Ground.phase }, { on := 8, ground := Ground.phase }, { on := 9, ground := Ground.phase }, { on := 10, ground := Ground.phase }], guard := none }) (v := ?_) rfl (by kernel_rfl) (by kernel_rfl) (by kernel_rfl) (fun _ _ _ h => h) (Or.inl ⟨by rfl, ?_⟩) trivial ?_
              rotate_left
              · intro w hSw; (try dsimp only at hSw); (go_simp <;> with_reducible rfl)
              try simp only [Act.put, List.setIfInBounds_toArray, List.set_cons_zero, List.set_cons_succ]
              refine wpAnyH_done (by kernel_rfl) ?_ _
              go_wp2_with fail
              go_roundw
              case rel => exact ⟨i + 1, tk r5, c6, a6, r5.take (tk r5), by omega, by go_num, rfl, by omega, O6, N6, (by rw [trim_val, V5.out, VM.out, HDS.out]; show _ = _; omega), X1, HB, HS⟩
              case measure => simp [intOf]; omega
            · go_simp
              have hb : Below U1.heap.size U1 (U1.alloc (Obj.cells #[Value.int IntKind.u32 ((d : Nat) : Int)] 47)) := (Below.refl _ _).alloc (Nat.le_refl _) _
              have hl := lit_sl U1 d (by omega)
              refine hK.out _ _ trivial (fun hHeld => ?_)
              clear hK K hHeld
              try simp only [Act.put, List.setIfInBounds_toArray, List.set_cons_zero, List.set_cons_succ]
              generalize hg : World.alloc U1 _ = U2 at *
              clear hg
              have OR : Hid (Own U2 (w.heap.size + 1) ma k mc r) := OR.out.below hb (Nat.le_refl _)
              have X1 : Hid (Box U2 w.heap.size (.bool false) (.slice none 0 0)) := X1.out.below hb X1.out.lt
              have LT : Hid (Sl U2 (some ⟨U0.heap.size, 0, none⟩) 1 1 [10]) := LT.out.below hb (Nat.le_refl _)
              have HB : Hid (Below w.heap.size w U2) := HB.out.trans (hb.mono HB.out.size)
              have HS : Hid (w.heap.size + 1 ≤ U2.heap.size) := Nat.le_trans HS.out hb.size
              clear hb
              have LD : Hid (Sl U2 (some ⟨U1.heap.size, 0, none⟩) 1 1 [d]) := hl
              clear hl
              refine wpAnyH_ready (rs := [2]) (by kernel_rfl) (by simp) ?_
              refine (AllReadyH.cons (o := { dst := some 48, op := Op.call { callee := Callee.value (Operand.func 51), args := #[Operand.tmp 46, Operand.tmp 47], argTypes := #[22, 22] }, type := 22, pos := "exact.go:219", after := #[{ on := 0, ground := Ground.data }, { on := 1, ground := Ground.data }], guard := none }) rfl (fun K hK => ?_) AllReadyH.nil)
              go_simp
              refine (rtimes_any ma k mc r (some ⟨U0.heap.size, 0, none⟩) 1 1 [10] _ OR.out.sl LT.out (by omega) (by omega)).mono ?_
              rintro e U3 ⟨r1, rfl, ho, hv, hb⟩
              have V4 : Hid (vl 4294967296 r1 = vl 4294967296 r * 10) := by rw [hv]; simp [vl, Hid]
              have O4 : Hid (Own U3 (w.heap.size + 1) (some ⟨U2.heap.size, 0, none⟩) (k + 1) (k + 1) r1) := ho.mono HS.out
              clear ho hv
              have OR : Hid (Own U3 (w.heap.size + 1) ma k mc r) := OR.out.below hb (Nat.le_refl _)
              have X1 : Hid (Box U3 w.heap.size (.bool false) (.slice none 0 0)) := X1.out.below hb X1.out.lt
              have LT : Hid (Sl U3 (some ⟨U0.heap.size, 0, none⟩) 1 1 [10]) := LT.out.below hb (Nat.le_refl _)
              have LD : Hid (Sl U3 (some ⟨U1.heap.size, 0, none⟩) 1 1 [d]) := LD.out.below hb (Nat.le_refl _)
              have HB : Hid (Below w.heap.size w U3) := HB.out.trans (hb.mono HB.out.size)
              have HS : Hid (w.heap.size + 1 ≤ U3.heap.size) := Nat.le_trans HS.out hb.size
              clear hb
              go_wp2_with fail
              refine hK.out _ _ trivial (fun hHeld => ?_)
              clear hK K hHeld
              try simp only [Act.put, List.setIfInBounds_toArray, List.set_cons_zero, List.set_cons_succ]
              refine wpAnyH_ready (rs := [9]) (by kernel_rfl) (by simp) ?_
              refine (AllReadyH.cons (o := { dst := some 55, op := Op.call { callee := Callee.value (Operand.func 43), args := #[Operand.tmp 48, Operand.tmp 54], argTypes := #[22, 22] }, type := 22, pos := "exact.go:219", after := #[{ on := 2, ground := Ground.data }, { on := 8, ground := Ground.data }, { on := 2, ground := Ground.chain }], guard := none }) rfl (fun K hK => ?_) AllReadyH.nil)
              go_simp
              refine (rplus_any (some ⟨U2.heap.size, 0, none⟩) (k + 1) (k + 1) r1 (some ⟨U1.heap.size, 0, none⟩) 1 1 [d] _ O4.out.sl LD.out (by omega) (by omega)).mono ?_
              rintro e U4 ⟨a5, k5, c5, r5, rfl, ho, hn5, hk5, hv, hb⟩
              have V5 : Hid (vl 4294967296 r5 = vl 4294967296 r * 10 + d) := by rw [hv, V4.out]; simp [vl, Hid]
              have hk5 : k5 ≤ k + 2 := by omega
              have N5 : Hid (a5 = none → c5 = 0) := hn5
              have O5 : Hid (Own U4 (w.heap.size + 1) a5 k5 c5 r5) := ho.mono HS.out
              clear ho hv hn5
              have OR : Hid (Own U4 (w.heap.size + 1) ma k mc r) := OR.out.below hb (Nat.le_refl _)
              have X1 : Hid (Box U4 w.heap.size (.bool false) (.slice none 0 0)) := X1.out.below hb X1.out.lt
              have LT : Hid (Sl U4 (some ⟨U0.heap.size, 0, none⟩) 1 1 [10]) := LT.out.below hb (Nat.le_refl _)
              have LD : Hid (Sl U4 (some ⟨U1.heap.size, 0, none⟩) 1 1 [d]) := LD.out.below hb (Nat.le_refl _)
              have O4 : Hid (Own U4 (w.heap.size + 1) (some ⟨U2.heap.size, 0, none⟩) (k + 1) (k + 1) r1) := O4.out.below hb (Nat.le_refl _)
              have HB : Hid (Below w.heap.size w U4) := HB.out.trans (hb.mono HB.out.size)
              have HS : Hid (w.heap.size + 1 ≤ U4.heap.size) := Nat.le_trans HS.out hb.size
              clear hb
              go_wp2_with fail
              refine hK.out _ _ trivial (fun hHeld => ?_)
              clear hK K hHeld
              try simp only [Act.put, List.setIfInBounds_toArray, List.set_cons_zero, List.set_cons_succ]
              refine wpAnyH_ready (rs := [10]) (by kernel_rfl) (by simp) ?_
              refine (AllReadyH.cons (o := { dst := some 56, op := Op.call { callee := Callee.value (Operand.func 52), args := #[Operand.tmp 55], argTypes := #[22] }, type := 22, pos := "exact.go:219", after := #[{ on := 9, ground := Ground.data }, { on := 9, ground := Ground.chain }], guard := none }) rfl (fun K hK => ?_) AllReadyH.nil)
              go_simp
              refine (rtrim_any a5 k5 c5 r5 _ O5.out.sl N5.out (by omega)).mono ?_
              rintro e U5 ⟨a6, c6, rfl, ho, hn6, hb⟩
              have K6 := tk_le O5.out.sl
              have N6 : Hid (a6 = none → c6 = 0) := hn6
              have O6 : Hid (Own U5 (w.heap.size + 1) a6 (tk r5) c6 (r5.take (tk r5))) := ho.mono HS.out
              clear ho hn6
              have OR : Hid (Own U5 (w.heap.size + 1) ma k mc r) := OR.out.below hb (Nat.le_refl _)
              have X1 : Hid (Box U5 w.heap.size (.bool false) (.slice none 0 0)) := X1.out.below hb X1.out.lt
              have LT : Hid (Sl U5 (some ⟨U0.heap.size, 0, none⟩) 1 1 [10]) := LT.out.below hb (Nat.le_refl _)
              have LD : Hid (Sl U5 (some ⟨U1.heap.size, 0, none⟩) 1 1 [d]) := LD.out.below hb (Nat.le_refl _)
              have O4 : Hid (Own U5 (w.heap.size + 1) (some ⟨U2.heap.size, 0, none⟩) (k + 1) (k + 1) r1) := O4.out.below hb (Nat.le_refl _)
              have O5 : Hid (Own U5 (w.heap.size + 1) a5 k5 c5 r5) := O5.out.below hb (Nat.le_refl _)
              have HB : Hid (Below w.heap.size w U5) := HB.out.trans (hb.mono HB.out.size)
              have HS : Hid (w.heap.size + 1 ≤ U5.heap.size) := Nat.le_trans HS.out hb.size
              clear hb
              go_wp2_with fail
              refine hK.out _ _ trivial (fun hHeld => ?_)
              clear hK K hHeld
              try simp only [Act.put, List.setIfInBounds_toArray, List.set_cons_zero, List.set_cons_succ]
              refine wpAnyH_take (i := 11) (oi := { dst := some 5, op := Op.assign (Operand.tmp 56), type := 22, pos := "exact.go:219", after := #[{ on := 10, ground := Ground.data }, { on := 10, ground := Ground.chain }, { on := 0, ground := Ground.phase }, { on := 1, ground := Ground.phase }, { on := 2, ground := Ground.phase }, { on := 3, ground := Ground.phase }, { on := 4, ground := Ground.phase }, { on := 5, ground := Ground.phase }, { on := 6, ground := Ground.phase }, { on := 7, ground := Ground.phase }, { on := 8, ground := Ground.phase }, { on := 9, ground := Ground.phase }, { on := 10, ground := Ground.phase }], guard := none }) (v := ?_) rfl (by kernel_rfl) (by kernel_rfl) (by kernel_rfl) (fun _ _ _ h => h) (Or.inl ⟨by rfl, ?_⟩) trivial ?_
              rotate_left
              · intro w hSw; (try dsimp only at hSw); (go_simp <;> with_reducible rfl)
              try simp only [Act.put, List.setIfInBounds_toArray, List.set_cons_zero, List.set_cons_succ]
              refine wpAnyH_done (by kernel_rfl) ?_ _
              go_wp2_with fail
              go_roundw
              case rel => exact ⟨i + 1, tk r5, c6, a6, r5.take (tk r5), by omega, by go_num, rfl, by omega, O6, N6, (by rw [trim_val, V5.out, VM.out, HDS.out]; show _ = _; omega), X1, HB, HS⟩
              case measure => simp [intOf]; omega
          · go_simp
            have hb : Below U0.heap.size U0 (U0.alloc (Obj.cells #[Value.int IntKind.u32 ((d : Nat) : Int)] 47)) := (Below.refl _ _).alloc (Nat.le_refl _) _
            have hl := lit_sl U0 d (by omega)
            refine hK.out _ _ trivial (fun hHeld => ?_)
            clear hK K hHeld
            try simp only [Act.put, List.setIfInBounds_toArray, List.set_cons_zero, List.set_cons_succ]
            generalize hg : World.alloc U0 _ = U1 at *
            clear hg
            have OR : Hid (Own U1 (w.heap.size + 1) ma k mc r) := OR.out.below hb (Nat.le_refl _)
            have X1 : Hid (Box U1 w.heap.size (.bool false) (.slice none 0 0)) := X1.out.below hb X1.out.lt
            have HB : Hid (Below w.heap.size w U1) := HB.out.trans (hb.mono HB.out.size)
            have HS : Hid (w.heap.size + 1 ≤ U1.heap.size) := Nat.le_trans HS.out hb.size
            clear hb
            have LD : Hid (Sl U1 (some ⟨U0.heap.size, 0, none⟩) 1 1 [d]) := hl
            clear hl
            refine wpAnyH_ready (rs := [1]) (by kernel_rfl) (by simp) ?_
            refine (AllReadyH.cons (o := { dst := some 47, op := Op.buildSlice 22 1 #[(0, Operand.const (Value.int IntKind.u32 10))], type := 22, pos := "exact.go:219", after := #[], guard := none }) rfl (fun K hK => ?_) AllReadyH.nil)
            go_simp
            have hb : Below U1.heap.size U1 (U1.alloc (Obj.cells #[Value.int IntKind.u32 (10 : Int)] 47)) := (Below.refl _ _).alloc (Nat.le_refl _) _
            have hl := lit_sl U1 10 (by omega)
            refine hK.out _ _ trivial (fun hHeld => ?_)
            clear hK K hHeld
            try simp only [Act.put, List.setIfInBounds_toArray, List.set_cons_zero, List.set_cons_succ]
            generalize hg : World.alloc U1 _ = U2 at *
            clear hg
            have OR : Hid (Own U2 (w.heap.size + 1) ma k mc r) := OR.out.below hb (Nat.le_refl _)
            have X1 : Hid (Box U2 w.heap.size (.bool false) (.slice none 0 0)) := X1.out.below hb X1.out.lt
            have LD : Hid (Sl U2 (some ⟨U0.heap.size, 0, none⟩) 1 1 [d]) := LD.out.below hb (Nat.le_refl _)
            have HB : Hid (Below w.heap.size w U2) := HB.out.trans (hb.mono HB.out.size)
            have HS : Hid (w.heap.size + 1 ≤ U2.heap.size) := Nat.le_trans HS.out hb.size
            clear hb
            have LT : Hid (Sl U2 (some ⟨U1.heap.size, 0, none⟩) 1 1 [10]) := hl
            clear hl
            refine wpAnyH_ready (rs := [2]) (by kernel_rfl) (by simp) ?_
            refine (AllReadyH.cons (o := { dst := some 48, op := Op.call { callee := Callee.value (Operand.func 51), args := #[Operand.tmp 46, Operand.tmp 47], argTypes := #[22, 22] }, type := 22, pos := "exact.go:219", after := #[{ on := 0, ground := Ground.data }, { on := 1, ground := Ground.data }], guard := none }) rfl (fun K hK => ?_) AllReadyH.nil)
            go_simp
            refine (rtimes_any ma k mc r (some ⟨U1.heap.size, 0, none⟩) 1 1 [10] _ OR.out.sl LT.out (by omega) (by omega)).mono ?_
            rintro e U3 ⟨r1, rfl, ho, hv, hb⟩
            have V4 : Hid (vl 4294967296 r1 = vl 4294967296 r * 10) := by rw [hv]; simp [vl, Hid]
            have O4 : Hid (Own U3 (w.heap.size + 1) (some ⟨U2.heap.size, 0, none⟩) (k + 1) (k + 1) r1) := ho.mono HS.out
            clear ho hv
            have OR : Hid (Own U3 (w.heap.size + 1) ma k mc r) := OR.out.below hb (Nat.le_refl _)
            have X1 : Hid (Box U3 w.heap.size (.bool false) (.slice none 0 0)) := X1.out.below hb X1.out.lt
            have LD : Hid (Sl U3 (some ⟨U0.heap.size, 0, none⟩) 1 1 [d]) := LD.out.below hb (Nat.le_refl _)
            have LT : Hid (Sl U3 (some ⟨U1.heap.size, 0, none⟩) 1 1 [10]) := LT.out.below hb (Nat.le_refl _)
            have HB : Hid (Below w.heap.size w U3) := HB.out.trans (hb.mono HB.out.size)
            have HS : Hid (w.heap.size + 1 ≤ U3.heap.size) := Nat.le_trans HS.out hb.size
            clear hb
            go_wp2_with fail
            refine hK.out _ _ trivial (fun hHeld => ?_)
            clear hK K hHeld
            try simp only [Act.put, List.setIfInBounds_toArray, List.set_cons_zero, List.set_cons_succ]
            refine wpAnyH_ready (rs := [9]) (by kernel_rfl) (by simp) ?_
            refine (AllReadyH.cons (o := { dst := some 55, op := Op.call { callee := Callee.value (Operand.func 43), args := #[Operand.tmp 48, Operand.tmp 54], argTypes := #[22, 22] }, type := 22, pos := "exact.go:219", after := #[{ on := 2, ground := Ground.data }, { on := 8, ground := Ground.data }, { on := 2, ground := Ground.chain }], guard := none }) rfl (fun K hK => ?_) AllReadyH.nil)
            go_simp
            refine (rplus_any (some ⟨U2.heap.size, 0, none⟩) (k + 1) (k + 1) r1 (some ⟨U0.heap.size, 0, none⟩) 1 1 [d] _ O4.out.sl LD.out (by omega) (by omega)).mono ?_
            rintro e U4 ⟨a5, k5, c5, r5, rfl, ho, hn5, hk5, hv, hb⟩
            have V5 : Hid (vl 4294967296 r5 = vl 4294967296 r * 10 + d) := by rw [hv, V4.out]; simp [vl, Hid]
            have hk5 : k5 ≤ k + 2 := by omega
            have N5 : Hid (a5 = none → c5 = 0) := hn5
            have O5 : Hid (Own U4 (w.heap.size + 1) a5 k5 c5 r5) := ho.mono HS.out
            clear ho hv hn5
            have OR : Hid (Own U4 (w.heap.size + 1) ma k mc r) := OR.out.below hb (Nat.le_refl _)
            have X1 : Hid (Box U4 w.heap.size (.bool false) (.slice none 0 0)) := X1.out.below hb X1.out.lt
            have LD : Hid (Sl U4 (some ⟨U0.heap.size, 0, none⟩) 1 1 [d]) := LD.out.below hb (Nat.le_refl _)
            have LT : Hid (Sl U4 (some ⟨U1.heap.size, 0, none⟩) 1 1 [10]) := LT.out.below hb (Nat.le_refl _)
            have O4 : Hid (Own U4 (w.heap.size + 1) (some ⟨U2.heap.size, 0, none⟩) (k + 1) (k + 1) r1) := O4.out.below hb (Nat.le_refl _)
            have HB : Hid (Below w.heap.size w U4) := HB.out.trans (hb.mono HB.out.size)
            have HS : Hid (w.heap.size + 1 ≤ U4.heap.size) := Nat.le_trans HS.out hb.size
            clear hb
            go_wp2_with fail
            refine hK.out _ _ trivial (fun hHeld => ?_)
            clear hK K hHeld
            try simp only [Act.put, List.setIfInBounds_toArray, List.set_cons_zero, List.set_cons_succ]
            refine wpAnyH_ready (rs := [10]) (by kernel_rfl) (by simp) ?_
            refine (AllReadyH.cons (o := { dst := some 56, op := Op.call { callee := Callee.value (Operand.func 52), args := #[Operand.tmp 55], argTypes := #[22] }, type := 22, pos := "exact.go:219", after := #[{ on := 9, ground := Ground.data }, { on := 9, ground := Ground.chain }], guard := none }) rfl (fun K hK => ?_) AllReadyH.nil)
            go_simp
            refine (rtrim_any a5 k5 c5 r5 _ O5.out.sl N5.out (by omega)).mono ?_
            rintro e U5 ⟨a6, c6, rfl, ho, hn6, hb⟩
            have K6 := tk_le O5.out.sl
            have N6 : Hid (a6 = none → c6 = 0) := hn6
            have O6 : Hid (Own U5 (w.heap.size + 1) a6 (tk r5) c6 (r5.take (tk r5))) := ho.mono HS.out
            clear ho hn6
            have OR : Hid (Own U5 (w.heap.size + 1) ma k mc r) := OR.out.below hb (Nat.le_refl _)
            have X1 : Hid (Box U5 w.heap.size (.bool false) (.slice none 0 0)) := X1.out.below hb X1.out.lt
            have LD : Hid (Sl U5 (some ⟨U0.heap.size, 0, none⟩) 1 1 [d]) := LD.out.below hb (Nat.le_refl _)
            have LT : Hid (Sl U5 (some ⟨U1.heap.size, 0, none⟩) 1 1 [10]) := LT.out.below hb (Nat.le_refl _)
            have O4 : Hid (Own U5 (w.heap.size + 1) (some ⟨U2.heap.size, 0, none⟩) (k + 1) (k + 1) r1) := O4.out.below hb (Nat.le_refl _)
            have O5 : Hid (Own U5 (w.heap.size + 1) a5 k5 c5 r5) := O5.out.below hb (Nat.le_refl _)
            have HB : Hid (Below w.heap.size w U5) := HB.out.trans (hb.mono HB.out.size)
            have HS : Hid (w.heap.size + 1 ≤ U5.heap.size) := Nat.le_trans HS.out hb.size
            clear hb
            go_wp2_with fail
            refine hK.out _ _ trivial (fun hHeld => ?_)
            clear hK K hHeld
            try simp only [Act.put, List.setIfInBounds_toArray, List.set_cons_zero, List.set_cons_succ]
            refine wpAnyH_take (i := 11) (oi := { dst := some 5, op := Op.assign (Operand.tmp 56), type := 22, pos := "exact.go:219", after := #[{ on := 10, ground := Ground.data }, { on := 10, ground := Ground.chain }, { on := 0, ground := Ground.phase }, { on := 1, ground := Ground.phase }, { on := 2, ground := Ground.phase }, { on := 3, ground := Ground.phase }, { on := 4, ground := Ground.phase }, { on := 5, ground := Ground.phase }, { on := 6, ground := Ground.phase }, { on := 7, ground := Ground.phase }, { on := 8, ground := Ground.phase }, { on := 9, ground := Ground.phase }, { on := 10, ground := Ground.phase }], guard := none }) (v := ?_) rfl (by kernel_rfl) (by kernel_rfl) (by kernel_rfl) (fun _ _ _ h => h) (Or.inl ⟨by rfl, ?_⟩) trivial ?_
            rotate_left
            · intro w hSw; (try dsimp only at hSw); (go_simp <;> with_reducible rfl)
            try simp only [Act.put, List.setIfInBounds_toArray, List.set_cons_zero, List.set_cons_succ]
            refine wpAnyH_done (by kernel_rfl) ?_ _
            go_wp2_with fail
            go_roundw
            case rel => exact ⟨i + 1, tk r5, c6, a6, r5.take (tk r5), by omega, by go_num, rfl, by omega, O6, N6, (by rw [trim_val, V5.out, VM.out, HDS.out]; show _ = _; omega), X1, HB, HS⟩
            case measure => simp [intOf]; omega
        · obtain rfl : i = S.size := by omega
          rw [Nat.sub_self, List.drop_zero] at VM
          go_wp2_with fail
          refine (rform_any false ma k mc r _ OR.out.sl NR.out (by omega)).mono ?_
          rintro e W5 ⟨a5, c5, rfl, ho, hn5, hb⟩
          have O5 : Hid (Own W5 (w.heap.size + 1) a5 (tk r) c5 (r.take (tk r))) := ho.mono (by have := HS.out; omega)
          have N5 : Hid (a5 = none → c5 = 0) := hn5
          have K5 := tk_le OR.out.sl
          have RW : Hid (Wd 4294967296 r) := OR.out.sl.wd
          have X1 : Hid (Box W5 w.heap.size (.bool false) (.slice none 0 0)) := X1.out.below hb X1.out.lt
          have HB : Hid (Below w.heap.size w W5) := HB.out.trans (hb.mono HB.out.size)
          clear ho hn5 hb
          rw [VM.out]
          go_wp2_with fail
          refine (rend_get _ a5 (tk r) c5 (r.take (tk r)) (vl 10 (dl S)) _ O5.out.sl N5.out (by omega) (by rw [trim_val, VM.out])).mono ?_
          rintro e W6 ⟨s6, a6, k6, c6, rfl, he6, hb⟩
          have E6 : Hid (EndR _ _ _ _ _ s6 a6 k6 c6) := he6
          have O6 : Hid (Own W6 (w.heap.size + 1) a5 (tk r) c5 (r.take (tk r))) := O5.out.below hb (Nat.le_refl _)
          have X1 : Hid (Box W6 w.heap.size (.bool false) (.slice none 0 0)) := X1.out.below hb X1.out.lt
          have HB : Hid (Below w.heap.size w W6) := HB.out.trans (hb.mono HB.out.size)
          clear he6 hb
          have z0 := X1.out.z0
          have z1 := X1.out.z1
          have f0 := X1.out.f0
          have f1 := X1.out.f1
          go_wp2_with fail
          have ho2 := (O6.out.setCell (a := ⟨w.heap.size, 0, none⟩) (by show w.heap.size < w.heap.size + 1; omega) (.bool s6)).setCell (a := ⟨w.heap.size, 1, none⟩) (by show w.heap.size < w.heap.size + 1; omega) (.slice a6 k6 c6)
          refine bodyPost_ret (v := .tuple #[.agg #[.bool s6, .slice a6 k6 c6], .int .i64 (eBig (vl 10 (dl S)))]) (by simp [results, Tryd.results27, go_sem, z0, z1]) rfl ⟨⟨_, rfl, E6.out.int (ho2.mono (by omega)) (trim_form RW.out) (by rw [trim_val, VM.out])⟩, ?_⟩
          exact below_set2 HB.out (Nat.le_refl _) _ _
set_option maxHeartbeats 8000000 in
set_option maxRecDepth 100000 in
theorem rparse_small3 (S : ByteArray) (w : World) (hp : 0 < S.size) (hs : S.size ≤ 200) (hN : NumP S) (hE : S.toList.isEmpty = false) (hK : (S.toList == [48]) = true) (hZ : (((S[0]'hp).toNat : Int) == 48) = true) :
    Calls Tryd.prog 27 #[.string S] w fun e w' => ParC S w e w' := by
  have HN : Hid (NumP S) := hN
  clear hN
  have X0 : Hid (Box (w.alloc (Obj.cells #[Value.bool false, Value.slice none 0 0] 24)) w.heap.size (.bool false) (.slice none 0 0)) := Box.new _ _ _ _
  have HB0 : Hid (Below w.heap.size w (w.alloc (Obj.cells #[Value.bool false, Value.slice none 0 0] 24))) := (Below.refl _ _).alloc (Nat.le_refl _) _
  go_enter Tryd.func27, Tryd.ntmps27
  go_wp2_with fail
  go_loopw [4] (fun iv wr => ∃ k : Nat, k ≤ S.size ∧ iv = .int .i64 k ∧ Hid (∀ i, i < k → 48 ≤ bt S i ∧ bt S i ≤ 57) ∧ Hid (Below w.heap.size w wr) ∧ Hid (Box wr w.heap.size (.bool false) (.slice none 0 0))) (fun iv _ => S.size - (intOf iv).toNat)
  case atStart => exact ⟨0, Nat.zero_le _, rfl, (fun i hi => by omega), HB0, X0⟩
  case round =>
    clear HB0 X0
    obtain ⟨k, hk, rfl, HD, HB, X1⟩ := hrel
    by_cases hlt : k < S.size
    · have hbt := bt_at S k hlt
      obtain ⟨x, hx⟩ : ∃ x, x = bt S k := ⟨_, rfl⟩
      have hb2 : ((S[k]'hlt).toNat : Int) = (x : Int) := by rw [hbt, hx]
      have HX : Hid (x = bt S k) := hx
      clear hbt hx
      by_cases h1 : x < 48
      · exact absurd (HN.out.dig k hlt) (by rw [← HX.out]; omega)
      · by_cases h2 : 57 < x
        · exact absurd (HN.out.dig k hlt) (by rw [← HX.out]; omega)
        · go_wp2_with fail
          go_roundw
          case rel => exact ⟨k + 1, by omega, by go_num, dig_step HD.out HX.out h1 h2, HB, X1⟩
          case measure => simp [intOf]; omega
    · obtain rfl : k = S.size := by omega
      clear HD
      have HS1 : Hid (w.heap.size + 1 ≤ wr.heap.size) := X1.out.lt
      go_wp2_with fail
      go_loopw [5, 6] (fun mv iv wr => ∃ (i k mc : Nat) (ma : Option Addr) (r : List Nat), i ≤ S.size ∧ iv = .int .i64 i ∧ mv = .slice ma k mc ∧ k ≤ 2 * i ∧ Hid (Own wr (w.heap.size + 1) ma k mc r) ∧ Hid (ma = none → mc = 0) ∧ Hid (vl 4294967296 r = vl 10 ((dl S).drop (S.size - i))) ∧ Hid (Box wr w.heap.size (.bool false) (.slice none 0 0)) ∧ Hid (Below w.heap.size w wr) ∧ Hid (w.heap.size + 1 ≤ wr.heap.size)) (fun _ iv _ => S.size - (intOf iv).toNat)
      case atStart => exact ⟨0, 0, 0, none, [], Nat.zero_le _, rfl, rfl, Nat.le_refl _, ⟨Sl.nil _, (fun h => by omega)⟩, (fun _ => rfl), (by show _ = _; rw [Nat.sub_zero, List.drop_of_length_le (by rw [dl_len]; exact Nat.le_refl _)]; rfl), X1, HB, HS1⟩
      case round =>
        clear X1 HB HS1
        obtain ⟨i, k, mc, ma, r, hi, rfl, rfl, hk, OR, NR, VM, X1, HB, HS⟩ := hrel
        by_cases hlt : i < S.size
        · have hbt := bt_at S i hlt
          have hdg := HN.out.dig i hlt
          obtain ⟨d, hd⟩ : ∃ d, bt S i = d + 48 := ⟨bt S i - 48, by omega⟩
          have hb2 : ((S[i]'hlt).toNat : Int) = (d : Int) + 48 := by rw [hbt, hd]; rfl
          have hdb : d ≤ 9 := by omega
          have hw8 : IntKind.u8.wrap (d : Int) = (d : Int) := by rw [IntKind.wrap_u8']; omega
          have hw32 : IntKind.u32.wrap (d : Int) = (d : Int) := by rw [IntKind.wrap_u32']; omega
          have HDS : Hid (vl 10 ((dl S).drop (S.size - (i + 1))) = d + 10 * vl 10 ((dl S).drop (S.size - i))) := by show _ = _; rw [dl_drop S i hlt, hd]; rfl
          clear hbt hdg hd
          go_wp2_with fail
          refine wp_region_held_drew (S := fun _ => True) (by kernel_rfl) trivial (fun hHeld => ?_)
          clear hHeld
          have hb : Below wr.heap.size wr wr.drew := (Below.refl _ _).drew
          generalize hg : wr.drew = U0 at *
          clear hg
          have OR : Hid (Own U0 (w.heap.size + 1) ma k mc r) := OR.out.below hb (Nat.le_refl _)
          have X1 : Hid (Box U0 w.heap.size (.bool false) (.slice none 0 0)) := X1.out.below hb X1.out.lt
          have HB : Hid (Below w.heap.size w U0) := HB.out.trans (hb.mono HB.out.size)
          have HS : Hid (w.heap.size + 1 ≤ U0.heap.size) := Nat.le_trans HS.out hb.size
          clear hb
          refine wpAnyH_take (i := 0) (oi := { dst := some 46, op := Op.move (Operand.tmp 5), type := 22, pos := "exact.go:219", after := #[], guard := none }) (v := ?_) rfl (by kernel_rfl) (by kernel_rfl) (by kernel_rfl) (fun _ _ _ h => h) (Or.inl ⟨by rfl, ?_⟩) trivial ?_
          rotate_left
          · intro w hSw; (try dsimp only at hSw); (go_simp <;> with_reducible rfl)
          try simp only [Act.put, List.setIfInBounds_toArray, List.set_cons_zero, List.set_cons_succ]
          refine wpAnyH_take (i := 3) (oi := { dst := some 49, op := Op.move (Operand.tmp 0), type := 9, pos := "exact.go:219", after := #[], guard := none }) (v := ?_) rfl (by kernel_rfl) (by kernel_rfl) (by kernel_rfl) (fun _ _ _ h => h) (Or.inl ⟨by rfl, ?_⟩) trivial ?_
          rotate_left
          · intro w hSw; (try dsimp only at hSw); (go_simp <;> with_reducible rfl)
          try simp only [Act.put, List.setIfInBounds_toArray, List.set_cons_zero, List.set_cons_succ]
          refine wpAnyH_take (i := 4) (oi := { dst := some 50, op := Op.move (Operand.tmp 6), type := 3, pos := "exact.go:219", after := #[], guard := none }) (v := ?_) rfl (by kernel_rfl) (by kernel_rfl) (by kernel_rfl) (fun _ _ _ h => h) (Or.inl ⟨by rfl, ?_⟩) trivial ?_
          rotate_left
          · intro w hSw; (try dsimp only at hSw); (go_simp <;> with_reducible rfl)
          try simp only [Act.put, List.setIfInBounds_toArray, List.set_cons_zero, List.set_cons_succ]
          refine wpAnyH_take (i := 5) (oi := { dst := some 51, op := Op.index 9 (Operand.tmp 49) (Operand.tmp 50), type := 5, pos := "exact.go:219", after := #[{ on := 3, ground := Ground.data }, { on := 4, ground := Ground.data }], guard := none }) (v := ?_) rfl (by kernel_rfl) (by kernel_rfl) (by kernel_rfl) (fun _ _ _ h => h) (Or.inl ⟨by rfl, ?_⟩) trivial ?_
          rotate_left
          · intro w hSw; (try dsimp only at hSw); (go_simp <;> with_reducible rfl)
          try simp only [Act.put, List.setIfInBounds_toArray, List.set_cons_zero, List.set_cons_succ]
          refine wpAnyH_take (i := 6) (oi := { dst := some 52, op := Op.binOp BinOp.sub 5 (Operand.tmp 51) (Operand.const (Value.int IntKind.u8 48)) 5, type := 5, pos := "exact.go:219", after := #[{ on := 5, ground := Ground.data }], guard := none }) (v := ?_) rfl (by kernel_rfl) (by kernel_rfl) (by kernel_rfl) (fun _ _ _ h => h) (Or.inl ⟨by rfl, ?_⟩) trivial ?_
          rotate_left
          · intro w hSw; (try dsimp only at hSw); (go_simp <;> with_reducible rfl)
          try simp only [Act.put, List.setIfInBounds_toArray, List.set_cons_zero, List.set_cons_succ]
          refine wpAnyH_take (i := 7) (oi := { dst := some 53, op := Op.convert 5 47 (Operand.tmp 52), type := 47, pos := "exact.go:219", after := #[{ on := 6, ground := Ground.data }], guard := none }) (v := ?_) rfl (by kernel_rfl) (by kernel_rfl) (by kernel_rfl) (fun _ _ _ h => h) (Or.inl ⟨by rfl, ?_⟩) trivial ?_
          rotate_left
          · intro w hSw; (try dsimp only at hSw); (go_simp <;> with_reducible rfl)
          try simp only [Act.put, List.setIfInBounds_toArray, List.set_cons_zero, List.set_cons_succ]
          refine wpAnyH_ready (rs := [1, 8]) (by kernel_rfl) (by simp) ?_
          refine (AllReadyH.cons (o := { dst := some 47, op := Op.buildSlice 22 1 #[(0, Operand.const (Value.int IntKind.u32 10))], type := 22, pos := "exact.go:219", after := #[], guard := none }) rfl (fun K hK => ?_) (AllReadyH.cons (o := { dst := some 54, op := Op.buildSlice 22 1 #[(0, Operand.tmp 53)], type := 22, pos := "exact.go:219", after := #[{ on := 7, ground := Ground.data }], guard := none }) rfl (fun K hK => ?_) AllReadyH.nil))
          · go_simp
            have hb : Below U0.heap.size U0 (U0.alloc (Obj.cells #[Value.int IntKind.u32 (10 : Int)] 47)) := (Below.refl _ _).alloc (Nat.le_refl _) _
            have hl := lit_sl U0 10 (by omega)
            refine hK.out _ _ trivial (fun hHeld => ?_)
            clear hK K hHeld
            try simp only [Act.put, List.setIfInBounds_toArray, List.set_cons_zero, List.set_cons_succ]
            generalize hg : World.alloc U0 _ = U1 at *
            clear hg
            have OR : Hid (Own U1 (w.heap.size + 1) ma k mc r) := OR.out.below hb (Nat.le_refl _)
            have X1 : Hid (Box U1 w.heap.size (.bool false) (.slice none 0 0)) := X1.out.below hb X1.out.lt
            have HB : Hid (Below w.heap.size w U1) := HB.out.trans (hb.mono HB.out.size)
            have HS : Hid (w.heap.size + 1 ≤ U1.heap.size) := Nat.le_trans HS.out hb.size
            clear hb
            have LT : Hid (Sl U1 (some ⟨U0.heap.size, 0, none⟩) 1 1 [10]) := hl
            clear hl
            refine wpAnyH_ready (rs := [2, 8]) (by kernel_rfl) (by simp) ?_
            refine (AllReadyH.cons (o := { dst := some 48, op := Op.call { callee := Callee.value (Operand.func 51), args := #[Operand.tmp 46, Operand.tmp 47], argTypes := #[22, 22] }, type := 22, pos := "exact.go:219", after := #[{ on := 0, ground := Ground.data }, { on := 1, ground := Ground.data }], guard := none }) rfl (fun K hK => ?_) (AllReadyH.cons (o := { dst := some 54, op := Op.buildSlice 22 1 #[(0, Operand.tmp 53)], type := 22, pos := "exact.go:219", after := #[{ on := 7, ground := Ground.data }], guard := none }) rfl (fun K hK => ?_) AllReadyH.nil))
            · go_simp
              refine (rtimes_any ma k mc r (some ⟨U0.heap.size, 0, none⟩) 1 1 [10] _ OR.out.sl LT.out (by omega) (by omega)).mono ?_
              rintro e U2 ⟨r1, rfl, ho, hv, hb⟩
              have V4 : Hid (vl 4294967296 r1 = vl 4294967296 r * 10) := by rw [hv]; simp [vl, Hid]
              have O4 : Hid (Own U2 (w.heap.size + 1) (some ⟨U1.heap.size, 0, none⟩) (k + 1) (k + 1) r1) := ho.mono HS.out
              clear ho hv
              have OR : Hid (Own U2 (w.heap.size + 1) ma k mc r) := OR.out.below hb (Nat.le_refl _)
              have X1 : Hid (Box U2 w.heap.size (.bool false) (.slice none 0 0)) := X1.out.below hb X1.out.lt
              have LT : Hid (Sl U2 (some ⟨U0.heap.size, 0, none⟩) 1 1 [10]) := LT.out.below hb (Nat.le_refl _)
              have HB : Hid (Below w.heap.size w U2) := HB.out.trans (hb.mono HB.out.size)
              have HS : Hid (w.heap.size + 1 ≤ U2.heap.size) := Nat.le_trans HS.out hb.size
              clear hb
              go_wp2_with fail
              refine hK.out _ _ trivial (fun hHeld => ?_)
              clear hK K hHeld
              try simp only [Act.put, List.setIfInBounds_toArray, List.set_cons_zero, List.set_cons_succ]
              refine wpAnyH_ready (rs := [8]) (by kernel_rfl) (by simp) ?_
              refine (AllReadyH.cons (o := { dst := some 54, op := Op.buildSlice 22 1 #[(0, Operand.tmp 53)], type := 22, pos := "exact.go:219", after := #[{ on := 7, ground := Ground.data }], guard := none }) rfl (fun K hK => ?_) AllReadyH.nil)
              go_simp
              have hb : Below U2.heap.size U2 (U2.alloc (Obj.cells #[Value.int IntKind.u32 ((d : Nat) : Int)] 47)) := (Below.refl _ _).alloc (Nat.le_refl _) _
              have hl := lit_sl U2 d (by omega)
              refine hK.out _ _ trivial (fun hHeld => ?_)
              clear hK K hHeld
              try simp only [Act.put, List.setIfInBounds_toArray, List.set_cons_zero, List.set_cons_succ]
              generalize hg : World.alloc U2 _ = U3 at *
              clear hg
              have OR : Hid (Own U3 (w.heap.size + 1) ma k mc r) := OR.out.below hb (Nat.le_refl _)
              have X1 : Hid (Box U3 w.heap.size (.bool false) (.slice none 0 0)) := X1.out.below hb X1.out.lt
              have LT : Hid (Sl U3 (some ⟨U0.heap.size, 0, none⟩) 1 1 [10]) := LT.out.below hb (Nat.le_refl _)
              have O4 : Hid (Own U3 (w.heap.size + 1) (some ⟨U1.heap.size, 0, none⟩) (k + 1) (k + 1) r1) := O4.out.below hb (Nat.le_refl _)
              have HB : Hid (Below w.heap.size w U3) := HB.out.trans (hb.mono HB.out.size)
              have HS : Hid (w.heap.size + 1 ≤ U3.heap.size) := Nat.le_trans HS.out hb.size
              clear hb
              have LD : Hid (Sl U3 (some ⟨U2.heap.size, 0, none⟩) 1 1 [d]) := hl
              clear hl
              refine wpAnyH_ready (rs := [9]) (by kernel_rfl) (by simp) ?_
              refine (AllReadyH.cons (o := { dst := some 55, op := Op.call { callee := Callee.value (Operand.func 43), args := #[Operand.tmp 48, Operand.tmp 54], argTypes := #[22, 22] }, type := 22, pos := "exact.go:219", after := #[{ on := 2, ground := Ground.data }, { on := 8, ground := Ground.data }, { on := 2, ground := Ground.chain }], guard := none }) rfl (fun K hK => ?_) AllReadyH.nil)
              go_simp
              refine (rplus_any (some ⟨U1.heap.size, 0, none⟩) (k + 1) (k + 1) r1 (some ⟨U2.heap.size, 0, none⟩) 1 1 [d] _ O4.out.sl LD.out (by omega) (by omega)).mono ?_
              rintro e U4 ⟨a5, k5, c5, r5, rfl, ho, hn5, hk5, hv, hb⟩
              have V5 : Hid (vl 4294967296 r5 = vl 4294967296 r * 10 + d) := by rw [hv, V4.out]; simp [vl, Hid]
              have hk5 : k5 ≤ k + 2 := by omega
              have N5 : Hid (a5 = none → c5 = 0) := hn5
              have O5 : Hid (Own U4 (w.heap.size + 1) a5 k5 c5 r5) := ho.mono HS.out
              clear ho hv hn5
              have OR : Hid (Own U4 (w.heap.size + 1) ma k mc r) := OR.out.below hb (Nat.le_refl _)
              have X1 : Hid (Box U4 w.heap.size (.bool false) (.slice none 0 0)) := X1.out.below hb X1.out.lt
              have LT : Hid (Sl U4 (some ⟨U0.heap.size, 0, none⟩) 1 1 [10]) := LT.out.below hb (Nat.le_refl _)
              have O4 : Hid (Own U4 (w.heap.size + 1) (some ⟨U1.heap.size, 0, none⟩) (k + 1) (k + 1) r1) := O4.out.below hb (Nat.le_refl _)
              have LD : Hid (Sl U4 (some ⟨U2.heap.size, 0, none⟩) 1 1 [d]) := LD.out.below hb (Nat.le_refl _)
              have HB : Hid (Below w.heap.size w U4) := HB.out.trans (hb.mono HB.out.size)
              have HS : Hid (w.heap.size + 1 ≤ U4.heap.size) := Nat.le_trans HS.out hb.size
              clear hb
              go_wp2_with fail
              refine hK.out _ _ trivial (fun hHeld => ?_)
              clear hK K hHeld
              try simp only [Act.put, List.setIfInBounds_toArray, List.set_cons_zero, List.set_cons_succ]
              refine wpAnyH_ready (rs := [10]) (by kernel_rfl) (by simp) ?_
              refine (AllReadyH.cons (o := { dst := some 56, op := Op.call { callee := Callee.value (Operand.func 52), args := #[Operand.tmp 55], argTypes := #[22] }, type := 22, pos := "exact.go:219", after := #[{ on := 9, ground := Ground.data }, { on := 9, ground := Ground.chain }], guard := none }) rfl (fun K hK => ?_) AllReadyH.nil)
              go_simp
              refine (rtrim_any a5 k5 c5 r5 _ O5.out.sl N5.out (by omega)).mono ?_
              rintro e U5 ⟨a6, c6, rfl, ho, hn6, hb⟩
              have K6 := tk_le O5.out.sl
              have N6 : Hid (a6 = none → c6 = 0) := hn6
              have O6 : Hid (Own U5 (w.heap.size + 1) a6 (tk r5) c6 (r5.take (tk r5))) := ho.mono HS.out
              clear ho hn6
              have OR : Hid (Own U5 (w.heap.size + 1) ma k mc r) := OR.out.below hb (Nat.le_refl _)
              have X1 : Hid (Box U5 w.heap.size (.bool false) (.slice none 0 0)) := X1.out.below hb X1.out.lt
              have LT : Hid (Sl U5 (some ⟨U0.heap.size, 0, none⟩) 1 1 [10]) := LT.out.below hb (Nat.le_refl _)
              have O4 : Hid (Own U5 (w.heap.size + 1) (some ⟨U1.heap.size, 0, none⟩) (k + 1) (k + 1) r1) := O4.out.below hb (Nat.le_refl _)
              have LD : Hid (Sl U5 (some ⟨U2.heap.size, 0, none⟩) 1 1 [d]) := LD.out.below hb (Nat.le_refl _)
              have O5 : Hid (Own U5 (w.heap.size + 1) a5 k5 c5 r5) := O5.out.below hb (Nat.le_refl _)
              have HB : Hid (Below w.heap.size w U5) := HB.out.trans (hb.mono HB.out.size)
              have HS : Hid (w.heap.size + 1 ≤ U5.heap.size) := Nat.le_trans HS.out hb.size
              clear hb
              go_wp2_with fail
              refine hK.out _ _ trivial (fun hHeld => ?_)
              clear hK K hHeld
              try simp only [Act.put, List.setIfInBounds_toArray, List.set_cons_zero, List.set_cons_succ]
              refine wpAnyH_take (i := 11) (oi := { dst := some 5, op := Op.assign (Operand.tmp 56), type := 22, pos := "exact.go:219", after := #[{ on := 10, ground := Ground.data }, { on := 10, ground := Ground.chain }, { on := 0, ground := Ground.phase }, { on := 1, ground := Ground.phase }, { on := 2, ground := Ground.phase }, { on := 3, ground := Ground.phase }, { on := 4, ground := Ground.phase }, { on := 5, ground := Ground.phase }, { on := 6, ground := Ground.phase }, { on := 7, ground := Ground.phase }, { on := 8, ground := Ground.phase }, { on := 9, ground := Ground.phase }, { on := 10, ground := Ground.phase }], guard := none }) (v := ?_) rfl (by kernel_rfl) (by kernel_rfl) (by kernel_rfl) (fun _ _ _ h => h) (Or.inl ⟨by rfl, ?_⟩) trivial ?_
              rotate_left
              · intro w hSw; (try dsimp only at hSw); (go_simp <;> with_reducible rfl)
              try simp only [Act.put, List.setIfInBounds_toArray, List.set_cons_zero, List.set_cons_succ]
              refine wpAnyH_done (by kernel_rfl) ?_ _
              go_wp2_with fail
              go_roundw
              case rel => exact ⟨i + 1, tk r5, c6, a6, r5.take (tk r5), by omega, by go_num, rfl, by omega, O6, N6, (by rw [trim_val, V5.out, VM.out, HDS.out]; show _ = _; omega), X1, HB, HS⟩
              case measure => simp [intOf]; omega
            · go_simp
              have hb : Below U1.heap.size U1 (U1.alloc (Obj.cells #[Value.int IntKind.u32 ((d : Nat) : Int)] 47)) := (Below.refl _ _).alloc (Nat.le_refl _) _
              have hl := lit_sl U1 d (by omega)
              refine hK.out _ _ trivial (fun hHeld => ?_)
              clear hK K hHeld
              try simp only [Act.put, List.setIfInBounds_toArray, List.set_cons_zero, List.set_cons_succ]
              generalize hg : World.alloc U1 _ = U2 at *
              clear hg
              have OR : Hid (Own U2 (w.heap.size + 1) ma k mc r) := OR.out.below hb (Nat.le_refl _)
              have X1 : Hid (Box U2 w.heap.size (.bool false) (.slice none 0 0)) := X1.out.below hb X1.out.lt
              have LT : Hid (Sl U2 (some ⟨U0.heap.size, 0, none⟩) 1 1 [10]) := LT.out.below hb (Nat.le_refl _)
              have HB : Hid (Below w.heap.size w U2) := HB.out.trans (hb.mono HB.out.size)
              have HS : Hid (w.heap.size + 1 ≤ U2.heap.size) := Nat.le_trans HS.out hb.size
              clear hb
              have LD : Hid (Sl U2 (some ⟨U1.heap.size, 0, none⟩) 1 1 [d]) := hl
              clear hl
              refine wpAnyH_ready (rs := [2]) (by kernel_rfl) (by simp) ?_
              refine (AllReadyH.cons (o := { dst := some 48, op := Op.call { callee := Callee.value (Operand.func 51), args := #[Operand.tmp 46, Operand.tmp 47], argTypes := #[22, 22] }, type := 22, pos := "exact.go:219", after := #[{ on := 0, ground := Ground.data }, { on := 1, ground := Ground.data }], guard := none }) rfl (fun K hK => ?_) AllReadyH.nil)
              go_simp
              refine (rtimes_any ma k mc r (some ⟨U0.heap.size, 0, none⟩) 1 1 [10] _ OR.out.sl LT.out (by omega) (by omega)).mono ?_
              rintro e U3 ⟨r1, rfl, ho, hv, hb⟩
              have V4 : Hid (vl 4294967296 r1 = vl 4294967296 r * 10) := by rw [hv]; simp [vl, Hid]
              have O4 : Hid (Own U3 (w.heap.size + 1) (some ⟨U2.heap.size, 0, none⟩) (k + 1) (k + 1) r1) := ho.mono HS.out
              clear ho hv
              have OR : Hid (Own U3 (w.heap.size + 1) ma k mc r) := OR.out.below hb (Nat.le_refl _)
              have X1 : Hid (Box U3 w.heap.size (.bool false) (.slice none 0 0)) := X1.out.below hb X1.out.lt
              have LT : Hid (Sl U3 (some ⟨U0.heap.size, 0, none⟩) 1 1 [10]) := LT.out.below hb (Nat.le_refl _)
              have LD : Hid (Sl U3 (some ⟨U1.heap.size, 0, none⟩) 1 1 [d]) := LD.out.below hb (Nat.le_refl _)
              have HB : Hid (Below w.heap.size w U3) := HB.out.trans (hb.mono HB.out.size)
              have HS : Hid (w.heap.size + 1 ≤ U3.heap.size) := Nat.le_trans HS.out hb.size
              clear hb
              go_wp2_with fail
              refine hK.out _ _ trivial (fun hHeld => ?_)
              clear hK K hHeld
              try simp only [Act.put, List.setIfInBounds_toArray, List.set_cons_zero, List.set_cons_succ]
              refine wpAnyH_ready (rs := [9]) (by kernel_rfl) (by simp) ?_
              refine (AllReadyH.cons (o := { dst := some 55, op := Op.call { callee := Callee.value (Operand.func 43), args := #[Operand.tmp 48, Operand.tmp 54], argTypes := #[22, 22] }, type := 22, pos := "exact.go:219", after := #[{ on := 2, ground := Ground.data }, { on := 8, ground := Ground.data }, { on := 2, ground := Ground.chain }], guard := none }) rfl (fun K hK => ?_) AllReadyH.nil)
              go_simp
              refine (rplus_any (some ⟨U2.heap.size, 0, none⟩) (k + 1) (k + 1) r1 (some ⟨U1.heap.size, 0, none⟩) 1 1 [d] _ O4.out.sl LD.out (by omega) (by omega)).mono ?_
              rintro e U4 ⟨a5, k5, c5, r5, rfl, ho, hn5, hk5, hv, hb⟩
              have V5 : Hid (vl 4294967296 r5 = vl 4294967296 r * 10 + d) := by rw [hv, V4.out]; simp [vl, Hid]
              have hk5 : k5 ≤ k + 2 := by omega
              have N5 : Hid (a5 = none → c5 = 0) := hn5
              have O5 : Hid (Own U4 (w.heap.size + 1) a5 k5 c5 r5) := ho.mono HS.out
              clear ho hv hn5
              have OR : Hid (Own U4 (w.heap.size + 1) ma k mc r) := OR.out.below hb (Nat.le_refl _)
              have X1 : Hid (Box U4 w.heap.size (.bool false) (.slice none 0 0)) := X1.out.below hb X1.out.lt
              have LT : Hid (Sl U4 (some ⟨U0.heap.size, 0, none⟩) 1 1 [10]) := LT.out.below hb (Nat.le_refl _)
              have LD : Hid (Sl U4 (some ⟨U1.heap.size, 0, none⟩) 1 1 [d]) := LD.out.below hb (Nat.le_refl _)
              have O4 : Hid (Own U4 (w.heap.size + 1) (some ⟨U2.heap.size, 0, none⟩) (k + 1) (k + 1) r1) := O4.out.below hb (Nat.le_refl _)
              have HB : Hid (Below w.heap.size w U4) := HB.out.trans (hb.mono HB.out.size)
              have HS : Hid (w.heap.size + 1 ≤ U4.heap.size) := Nat.le_trans HS.out hb.size
              clear hb
              go_wp2_with fail
              refine hK.out _ _ trivial (fun hHeld => ?_)
              clear hK K hHeld
              try simp only [Act.put, List.setIfInBounds_toArray, List.set_cons_zero, List.set_cons_succ]
              refine wpAnyH_ready (rs := [10]) (by kernel_rfl) (by simp) ?_
              refine (AllReadyH.cons (o := { dst := some 56, op := Op.call { callee := Callee.value (Operand.func 52), args := #[Operand.tmp 55], argTypes := #[22] }, type := 22, pos := "exact.go:219", after := #[{ on := 9, ground := Ground.data }, { on := 9, ground := Ground.chain }], guard := none }) rfl (fun K hK => ?_) AllReadyH.nil)
              go_simp
              refine (rtrim_any a5 k5 c5 r5 _ O5.out.sl N5.out (by omega)).mono ?_
              rintro e U5 ⟨a6, c6, rfl, ho, hn6, hb⟩
              have K6 := tk_le O5.out.sl
              have N6 : Hid (a6 = none → c6 = 0) := hn6
              have O6 : Hid (Own U5 (w.heap.size + 1) a6 (tk r5) c6 (r5.take (tk r5))) := ho.mono HS.out
              clear ho hn6
              have OR : Hid (Own U5 (w.heap.size + 1) ma k mc r) := OR.out.below hb (Nat.le_refl _)
              have X1 : Hid (Box U5 w.heap.size (.bool false) (.slice none 0 0)) := X1.out.below hb X1.out.lt
              have LT : Hid (Sl U5 (some ⟨U0.heap.size, 0, none⟩) 1 1 [10]) := LT.out.below hb (Nat.le_refl _)
              have LD : Hid (Sl U5 (some ⟨U1.heap.size, 0, none⟩) 1 1 [d]) := LD.out.below hb (Nat.le_refl _)
              have O4 : Hid (Own U5 (w.heap.size + 1) (some ⟨U2.heap.size, 0, none⟩) (k + 1) (k + 1) r1) := O4.out.below hb (Nat.le_refl _)
              have O5 : Hid (Own U5 (w.heap.size + 1) a5 k5 c5 r5) := O5.out.below hb (Nat.le_refl _)
              have HB : Hid (Below w.heap.size w U5) := HB.out.trans (hb.mono HB.out.size)
              have HS : Hid (w.heap.size + 1 ≤ U5.heap.size) := Nat.le_trans HS.out hb.size
              clear hb
              go_wp2_with fail
              refine hK.out _ _ trivial (fun hHeld => ?_)
              clear hK K hHeld
              try simp only [Act.put, List.setIfInBounds_toArray, List.set_cons_zero, List.set_cons_succ]
              refine wpAnyH_take (i := 11) (oi := { dst := some 5, op := Op.assign (Operand.tmp 56), type := 22, pos := "exact.go:219", after := #[{ on := 10, ground := Ground.data }, { on := 10, ground := Ground.chain }, { on := 0, ground := Ground.phase }, { on := 1, ground := Ground.phase }, { on := 2, ground := Ground.phase }, { on := 3, ground := Ground.phase }, { on := 4, ground := Ground.phase }, { on := 5, ground := Ground.phase }, { on := 6, ground := Ground.phase }, { on := 7, ground := Ground.phase }, { on := 8, ground := Ground.phase }, { on := 9, ground := Ground.phase }, { on := 10, ground := Ground.phase }], guard := none }) (v := ?_) rfl (by kernel_rfl) (by kernel_rfl) (by kernel_rfl) (fun _ _ _ h => h) (Or.inl ⟨by rfl, ?_⟩) trivial ?_
              rotate_left
              · intro w hSw; (try dsimp only at hSw); (go_simp <;> with_reducible rfl)
              try simp only [Act.put, List.setIfInBounds_toArray, List.set_cons_zero, List.set_cons_succ]
              refine wpAnyH_done (by kernel_rfl) ?_ _
              go_wp2_with fail
              go_roundw
              case rel => exact ⟨i + 1, tk r5, c6, a6, r5.take (tk r5), by omega, by go_num, rfl, by omega, O6, N6, (by rw [trim_val, V5.out, VM.out, HDS.out]; show _ = _; omega), X1, HB, HS⟩
              case measure => simp [intOf]; omega
          · go_simp
            have hb : Below U0.heap.size U0 (U0.alloc (Obj.cells #[Value.int IntKind.u32 ((d : Nat) : Int)] 47)) := (Below.refl _ _).alloc (Nat.le_refl _) _
            have hl := lit_sl U0 d (by omega)
            refine hK.out _ _ trivial (fun hHeld => ?_)
            clear hK K hHeld
            try simp only [Act.put, List.setIfInBounds_toArray, List.set_cons_zero, List.set_cons_succ]
            generalize hg : World.alloc U0 _ = U1 at *
            clear hg
            have OR : Hid (Own U1 (w.heap.size + 1) ma k mc r) := OR.out.below hb (Nat.le_refl _)
            have X1 : Hid (Box U1 w.heap.size (.bool false) (.slice none 0 0)) := X1.out.below hb X1.out.lt
            have HB : Hid (Below w.heap.size w U1) := HB.out.trans (hb.mono HB.out.size)
            have HS : Hid (w.heap.size + 1 ≤ U1.heap.size) := Nat.le_trans HS.out hb.size
            clear hb
            have LD : Hid (Sl U1 (some ⟨U0.heap.size, 0, none⟩) 1 1 [d]) := hl
            clear hl
            refine wpAnyH_ready (rs := [1]) (by kernel_rfl) (by simp) ?_
            refine (AllReadyH.cons (o := { dst := some 47, op := Op.buildSlice 22 1 #[(0, Operand.const (Value.int IntKind.u32 10))], type := 22, pos := "exact.go:219", after := #[], guard := none }) rfl (fun K hK => ?_) AllReadyH.nil)
            go_simp
            have hb : Below U1.heap.size U1 (U1.alloc (Obj.cells #[Value.int IntKind.u32 (10 : Int)] 47)) := (Below.refl _ _).alloc (Nat.le_refl _) _
            have hl := lit_sl U1 10 (by omega)
            refine hK.out _ _ trivial (fun hHeld => ?_)
            clear hK K hHeld
            try simp only [Act.put, List.setIfInBounds_toArray, List.set_cons_zero, List.set_cons_succ]
            generalize hg : World.alloc U1 _ = U2 at *
            clear hg
            have OR : Hid (Own U2 (w.heap.size + 1) ma k mc r) := OR.out.below hb (Nat.le_refl _)
            have X1 : Hid (Box U2 w.heap.size (.bool false) (.slice none 0 0)) := X1.out.below hb X1.out.lt
            have LD : Hid (Sl U2 (some ⟨U0.heap.size, 0, none⟩) 1 1 [d]) := LD.out.below hb (Nat.le_refl _)
            have HB : Hid (Below w.heap.size w U2) := HB.out.trans (hb.mono HB.out.size)
            have HS : Hid (w.heap.size + 1 ≤ U2.heap.size) := Nat.le_trans HS.out hb.size
            clear hb
            have LT : Hid (Sl U2 (some ⟨U1.heap.size, 0, none⟩) 1 1 [10]) := hl
            clear hl
            refine wpAnyH_ready (rs := [2]) (by kernel_rfl) (by simp) ?_
            refine (AllReadyH.cons (o := { dst := some 48, op := Op.call { callee := Callee.value (Operand.func 51), args := #[Operand.tmp 46, Operand.tmp 47], argTypes := #[22, 22] }, type := 22, pos := "exact.go:219", after := #[{ on := 0, ground := Ground.data }, { on := 1, ground := Ground.data }], guard := none }) rfl (fun K hK => ?_) AllReadyH.nil)
            go_simp
            refine (rtimes_any ma k mc r (some ⟨U1.heap.size, 0, none⟩) 1 1 [10] _ OR.out.sl LT.out (by omega) (by omega)).mono ?_
            rintro e U3 ⟨r1, rfl, ho, hv, hb⟩
            have V4 : Hid (vl 4294967296 r1 = vl 4294967296 r * 10) := by rw [hv]; simp [vl, Hid]
            have O4 : Hid (Own U3 (w.heap.size + 1) (some ⟨U2.heap.size, 0, none⟩) (k + 1) (k + 1) r1) := ho.mono HS.out
            clear ho hv
            have OR : Hid (Own U3 (w.heap.size + 1) ma k mc r) := OR.out.below hb (Nat.le_refl _)
            have X1 : Hid (Box U3 w.heap.size (.bool false) (.slice none 0 0)) := X1.out.below hb X1.out.lt
            have LD : Hid (Sl U3 (some ⟨U0.heap.size, 0, none⟩) 1 1 [d]) := LD.out.below hb (Nat.le_refl _)
            have LT : Hid (Sl U3 (some ⟨U1.heap.size, 0, none⟩) 1 1 [10]) := LT.out.below hb (Nat.le_refl _)
            have HB : Hid (Below w.heap.size w U3) := HB.out.trans (hb.mono HB.out.size)
            have HS : Hid (w.heap.size + 1 ≤ U3.heap.size) := Nat.le_trans HS.out hb.size
            clear hb
            go_wp2_with fail
            refine hK.out _ _ trivial (fun hHeld => ?_)
            clear hK K hHeld
            try simp only [Act.put, List.setIfInBounds_toArray, List.set_cons_zero, List.set_cons_succ]
            refine wpAnyH_ready (rs := [9]) (by kernel_rfl) (by simp) ?_
            refine (AllReadyH.cons (o := { dst := some 55, op := Op.call { callee := Callee.value (Operand.func 43), args := #[Operand.tmp 48, Operand.tmp 54], argTypes := #[22, 22] }, type := 22, pos := "exact.go:219", after := #[{ on := 2, ground := Ground.data }, { on := 8, ground := Ground.data }, { on := 2, ground := Ground.chain }], guard := none }) rfl (fun K hK => ?_) AllReadyH.nil)
            go_simp
            refine (rplus_any (some ⟨U2.heap.size, 0, none⟩) (k + 1) (k + 1) r1 (some ⟨U0.heap.size, 0, none⟩) 1 1 [d] _ O4.out.sl LD.out (by omega) (by omega)).mono ?_
            rintro e U4 ⟨a5, k5, c5, r5, rfl, ho, hn5, hk5, hv, hb⟩
            have V5 : Hid (vl 4294967296 r5 = vl 4294967296 r * 10 + d) := by rw [hv, V4.out]; simp [vl, Hid]
            have hk5 : k5 ≤ k + 2 := by omega
            have N5 : Hid (a5 = none → c5 = 0) := hn5
            have O5 : Hid (Own U4 (w.heap.size + 1) a5 k5 c5 r5) := ho.mono HS.out
            clear ho hv hn5
            have OR : Hid (Own U4 (w.heap.size + 1) ma k mc r) := OR.out.below hb (Nat.le_refl _)
            have X1 : Hid (Box U4 w.heap.size (.bool false) (.slice none 0 0)) := X1.out.below hb X1.out.lt
            have LD : Hid (Sl U4 (some ⟨U0.heap.size, 0, none⟩) 1 1 [d]) := LD.out.below hb (Nat.le_refl _)
            have LT : Hid (Sl U4 (some ⟨U1.heap.size, 0, none⟩) 1 1 [10]) := LT.out.below hb (Nat.le_refl _)
            have O4 : Hid (Own U4 (w.heap.size + 1) (some ⟨U2.heap.size, 0, none⟩) (k + 1) (k + 1) r1) := O4.out.below hb (Nat.le_refl _)
            have HB : Hid (Below w.heap.size w U4) := HB.out.trans (hb.mono HB.out.size)
            have HS : Hid (w.heap.size + 1 ≤ U4.heap.size) := Nat.le_trans HS.out hb.size
            clear hb
            go_wp2_with fail
            refine hK.out _ _ trivial (fun hHeld => ?_)
            clear hK K hHeld
            try simp only [Act.put, List.setIfInBounds_toArray, List.set_cons_zero, List.set_cons_succ]
            refine wpAnyH_ready (rs := [10]) (by kernel_rfl) (by simp) ?_
            refine (AllReadyH.cons (o := { dst := some 56, op := Op.call { callee := Callee.value (Operand.func 52), args := #[Operand.tmp 55], argTypes := #[22] }, type := 22, pos := "exact.go:219", after := #[{ on := 9, ground := Ground.data }, { on := 9, ground := Ground.chain }], guard := none }) rfl (fun K hK => ?_) AllReadyH.nil)
            go_simp
            refine (rtrim_any a5 k5 c5 r5 _ O5.out.sl N5.out (by omega)).mono ?_
            rintro e U5 ⟨a6, c6, rfl, ho, hn6, hb⟩
            have K6 := tk_le O5.out.sl
            have N6 : Hid (a6 = none → c6 = 0) := hn6
            have O6 : Hid (Own U5 (w.heap.size + 1) a6 (tk r5) c6 (r5.take (tk r5))) := ho.mono HS.out
            clear ho hn6
            have OR : Hid (Own U5 (w.heap.size + 1) ma k mc r) := OR.out.below hb (Nat.le_refl _)
            have X1 : Hid (Box U5 w.heap.size (.bool false) (.slice none 0 0)) := X1.out.below hb X1.out.lt
            have LD : Hid (Sl U5 (some ⟨U0.heap.size, 0, none⟩) 1 1 [d]) := LD.out.below hb (Nat.le_refl _)
            have LT : Hid (Sl U5 (some ⟨U1.heap.size, 0, none⟩) 1 1 [10]) := LT.out.below hb (Nat.le_refl _)
            have O4 : Hid (Own U5 (w.heap.size + 1) (some ⟨U2.heap.size, 0, none⟩) (k + 1) (k + 1) r1) := O4.out.below hb (Nat.le_refl _)
            have O5 : Hid (Own U5 (w.heap.size + 1) a5 k5 c5 r5) := O5.out.below hb (Nat.le_refl _)
            have HB : Hid (Below w.heap.size w U5) := HB.out.trans (hb.mono HB.out.size)
            have HS : Hid (w.heap.size + 1 ≤ U5.heap.size) := Nat.le_trans HS.out hb.size
            clear hb
            go_wp2_with fail
            refine hK.out _ _ trivial (fun hHeld => ?_)
            clear hK K hHeld
            try simp only [Act.put, List.setIfInBounds_toArray, List.set_cons_zero, List.set_cons_succ]
            refine wpAnyH_take (i := 11) (oi := { dst := some 5, op := Op.assign (Operand.tmp 56), type := 22, pos := "exact.go:219", after := #[{ on := 10, ground := Ground.data }, { on := 10, ground := Ground.chain }, { on := 0, ground := Ground.phase }, { on := 1, ground := Ground.phase }, { on := 2, ground := Ground.phase }, { on := 3, ground := Ground.phase }, { on := 4, ground := Ground.phase }, { on := 5, ground := Ground.phase }, { on := 6, ground := Ground.phase }, { on := 7, ground := Ground.phase }, { on := 8, ground := Ground.phase }, { on := 9, ground := Ground.phase }, { on := 10, ground := Ground.phase }], guard := none }) (v := ?_) rfl (by kernel_rfl) (by kernel_rfl) (by kernel_rfl) (fun _ _ _ h => h) (Or.inl ⟨by rfl, ?_⟩) trivial ?_
            rotate_left
            · intro w hSw; (try dsimp only at hSw); (go_simp <;> with_reducible rfl)
            try simp only [Act.put, List.setIfInBounds_toArray, List.set_cons_zero, List.set_cons_succ]
            refine wpAnyH_done (by kernel_rfl) ?_ _
            go_wp2_with fail
            go_roundw
            case rel => exact ⟨i + 1, tk r5, c6, a6, r5.take (tk r5), by omega, by go_num, rfl, by omega, O6, N6, (by rw [trim_val, V5.out, VM.out, HDS.out]; show _ = _; omega), X1, HB, HS⟩
            case measure => simp [intOf]; omega
        · obtain rfl : i = S.size := by omega
          rw [Nat.sub_self, List.drop_zero] at VM
          go_wp2_with fail
          refine (rform_any false ma k mc r _ OR.out.sl NR.out (by omega)).mono ?_
          rintro e W5 ⟨a5, c5, rfl, ho, hn5, hb⟩
          have O5 : Hid (Own W5 (w.heap.size + 1) a5 (tk r) c5 (r.take (tk r))) := ho.mono (by have := HS.out; omega)
          have N5 : Hid (a5 = none → c5 = 0) := hn5
          have K5 := tk_le OR.out.sl
          have RW : Hid (Wd 4294967296 r) := OR.out.sl.wd
          have X1 : Hid (Box W5 w.heap.size (.bool false) (.slice none 0 0)) := X1.out.below hb X1.out.lt
          have HB : Hid (Below w.heap.size w W5) := HB.out.trans (hb.mono HB.out.size)
          clear ho hn5 hb
          rw [VM.out]
          go_wp2_with fail
          refine (rend_get _ a5 (tk r) c5 (r.take (tk r)) (vl 10 (dl S)) _ O5.out.sl N5.out (by omega) (by rw [trim_val, VM.out])).mono ?_
          rintro e W6 ⟨s6, a6, k6, c6, rfl, he6, hb⟩
          have E6 : Hid (EndR _ _ _ _ _ s6 a6 k6 c6) := he6
          have O6 : Hid (Own W6 (w.heap.size + 1) a5 (tk r) c5 (r.take (tk r))) := O5.out.below hb (Nat.le_refl _)
          have X1 : Hid (Box W6 w.heap.size (.bool false) (.slice none 0 0)) := X1.out.below hb X1.out.lt
          have HB : Hid (Below w.heap.size w W6) := HB.out.trans (hb.mono HB.out.size)
          clear he6 hb
          have z0 := X1.out.z0
          have z1 := X1.out.z1
          have f0 := X1.out.f0
          have f1 := X1.out.f1
          go_wp2_with fail
          have ho2 := (O6.out.setCell (a := ⟨w.heap.size, 0, none⟩) (by show w.heap.size < w.heap.size + 1; omega) (.bool s6)).setCell (a := ⟨w.heap.size, 1, none⟩) (by show w.heap.size < w.heap.size + 1; omega) (.slice a6 k6 c6)
          refine bodyPost_ret (v := .tuple #[.agg #[.bool s6, .slice a6 k6 c6], .int .i64 (eBig (vl 10 (dl S)))]) (by simp [results, Tryd.results27, go_sem, z0, z1]) rfl ⟨⟨_, rfl, E6.out.int (ho2.mono (by omega)) (trim_form RW.out) (by rw [trim_val, VM.out])⟩, ?_⟩
          exact below_set2 HB.out (Nat.le_refl _) _ _
theorem rparse_small (S : ByteArray) (w : World) (hs : S.size ≤ 200) (hN : NumP S) :
    Calls Tryd.prog 27 #[.string S] w fun e w' => ParC S w e w' := by
  have hp := hN.pos
  have hE := tl_empty hp
  obtain ⟨kb, hK⟩ : ∃ kb, (S.toList == [48]) = kb := ⟨_, rfl⟩
  obtain ⟨zb, hZ⟩ : ∃ zb, (((S[0]'hp).toNat : Int) == 48) = zb := ⟨_, rfl⟩
  have hkz := lead_ok hp hN.zero hK hZ
  cases zb <;> cases kb
  · exact rparse_small1 S w hp hs hN hE hZ
  · exact rparse_small1 S w hp hs hN hE hZ
  · simp at hkz
  · exact rparse_small3 S w hp hs hN hE hK hZ
theorem rparse_yes (S : ByteArray) (w : World) (hs : S.size ≤ 1000000) (hN : NumP S) :
    Calls Tryd.prog 27 #[.string S] w fun e w' => ParC S w e w' := by
  by_cases h1 : S.size ≤ 200
  · exact rparse_small S w h1 hN
  · have hbg := hN.big (by omega)
    refine (rparse_big S w hN.pos hs (by omega) hN.zero hN).mono fun e w' ⟨he, hb⟩ => ⟨⟨.agg #[.bool false, .slice none 0 0], ?_, ?_⟩, hb⟩
    · rw [he]; simp [eBig, hbg]
    · rw [show cutN (vl 10 (dl S)) = 0 from by simp [cutN, hbg]]; exact IntR.zero _ _
theorem one_zero {S : ByteArray} (h1 : S.size = 1) (h0 : bt S 0 = 48) : S = ⟨#[48]⟩ := by
  have hl := bs_len S
  unfold bt at h0
  apply ByteArray.ext
  apply Array.toList_inj.1
  cases hb : S.data.toList with
  | nil => rw [hb] at hl; simp at hl; omega
  | cons b bs =>
    rw [hb] at hl h0
    simp only [List.getD_cons_zero, List.length_cons] at h0 hl
    have e1 : bs = [] := List.eq_nil_of_length_eq_zero (by omega)
    have e2 : b = 48 := by apply UInt8.toNat_inj.1; rw [h0]; rfl
    rw [e1, e2]
theorem rparse_no (S : ByteArray) (w : World) (hs : S.size ≤ 1000000) (hN : ¬ NumP S) :
    Calls Tryd.prog 27 #[.string S] w fun e w' => e = .returned (.tuple #[.agg #[.bool false, .slice none 0 0], .int .i64 3]) ∧ Below w.heap.size w w' := by
  rcases Nat.eq_zero_or_pos S.size with h | hp
  · exact rparse_none S w h
  by_cases h0 : bt S 0 = 48
  · by_cases h1 : S.size = 1
    · exact rparse_dig S w hp hs (fun _ => one_zero h1 h0) (fun hd => hN ⟨hp, fun _ => h1, hd⟩)
    · exact rparse_lead S w (by omega) h0
  · exact rparse_dig S w hp hs (fun h => absurd h h0) (fun hd => hN ⟨hp, fun h => absurd h h0, hd⟩)
end Go.Proofs.YtimjafgaadafdaaDoor
