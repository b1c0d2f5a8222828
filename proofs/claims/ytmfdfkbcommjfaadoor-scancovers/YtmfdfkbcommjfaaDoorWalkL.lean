/-
  piece of the reader, walked: what begins at a place.
-/
import Derived.Test.YtmfdfkbcommjfaaDoorWalkK
import Derived.Test.YtmfdfkbcommjfaaDoorWalkI
namespace Go.Proofs.YtmfdfkbcommjfaaDoor
open Go.RowKit
attribute [local go_sem ↓] Go.wp_at_zero Go.wp_at_succ
theorem rune_eq {T : ByteArray} {pos : Nat} (h : pos < T.size) (n : Nat) (hn : n < 128) : ((((Utf8.decode T pos).1 : Nat) : Int) == (n : Int)) = decide (T[pos]'h = UInt8.ofNat n) := by
  by_cases hb : T[pos]'h = UInt8.ofNat n
  · have ha : (T[pos]'h).toNat < 128 := by rw [hb, UInt8.toNat_ofNat_of_lt' (show n < 256 by omega)]; exact hn
    rw [decode_ascii T pos h ha, decide_eq_true hb]; exact z_yes (by omega) hb
  · rw [decide_eq_false hb]; exact rune_ne h hn hb
theorem rune_ltr {T : ByteArray} {pos : Nat} (h : pos < T.size) : ltrZ (((Utf8.decode T pos).1 : Nat) : Int) = ltr (T[pos]'h) := by
  by_cases ha : (T[pos]'h).toNat < 128
  · rw [decode_ascii T pos h ha, ltrZ_nat]
  · rw [ltrZ_high (by have := (decode_high T pos h (by omega)).1; omega), ← ltrZ_nat, ltrZ_high (by omega)]
theorem rune_dgt {T : ByteArray} {pos : Nat} (h : pos < T.size) : dgtZ (((Utf8.decode T pos).1 : Nat) : Int) = dgt (T[pos]'h) := by
  by_cases ha : (T[pos]'h).toNat < 128
  · rw [decode_ascii T pos h ha, dgtZ_nat]
  · rw [dgtZ_high (by have := (decode_high T pos h (by omega)).1; omega), ← dgtZ_nat, dgtZ_high (by omega)]
theorem pre2 (b : UInt8) (t : List UInt8) (x y : UInt8) : Lib.hasPrefix (b :: t) [x, y] = decide (b = x ∧ t.head? = some y) := by
  unfold Lib.hasPrefix
  cases t with
  | nil => simp [List.isPrefixOf]
  | cons c t =>
    rw [Bool.eq_iff_iff]
    simp only [List.isPrefixOf, Bool.and_true, Bool.and_eq_true, beq_iff_eq, decide_eq_true_eq, List.head?_cons, Option.some.injEq]
    exact ⟨fun h => ⟨h.1.symm, h.2.symm⟩, fun h => ⟨h.1.symm, h.2.symm⟩⟩
theorem pre3 (b : UInt8) (t : List UInt8) (h : b = 46) : Lib.hasPrefix (b :: t) [46, 46, 46] = decide (t.headD 0 = 46 ∧ (t.drop 1).headD 0 = 46) := by
  subst h
  unfold Lib.hasPrefix
  match t with
  | [] => rfl
  | [c] => rw [Bool.eq_iff_iff]; simp [List.isPrefixOf]
  | c :: d :: t =>
    rw [Bool.eq_iff_iff]
    simp only [List.isPrefixOf, Bool.and_true, Bool.and_eq_true, beq_iff_eq, decide_eq_true_eq, List.headD_cons, List.drop_succ_cons, List.drop_zero]
    exact ⟨fun h => ⟨h.2.1.symm, h.2.2.symm⟩, fun h => ⟨trivial, h.1.symm, h.2.symm⟩⟩
theorem sign_call (S : ByteArray) (p : Nat) (hp : p < S.size) (hS : S.size ≤ 65536) (w : World) :
    Calls Tryd.prog 61 #[.string (S.extract p S.size)] w fun e w' => e = .returned (.int .i64 ((sgn (S[p]'hp) ((S.data.toList.drop (p + 1)).headD 0) (((S.data.toList.drop (p + 1)).drop 1).headD 0) : Nat) : Int)) ∧ w' = w := by
  have hz : (S.extract p S.size).size = S.size - p := by simp
  have h0 : 0 < (S.extract p S.size).size := by omega
  have e0 : (S.extract p S.size)[0]'h0 = S[p]'hp := sub_get S p 0 h0 (by omega)
  have hq := sign_any (S.extract p S.size) h0 (by omega) (((S.data.toList.drop (p + 1)).headD 0).toNat : Int) (by
    by_cases h1 : 1 < (S.extract p S.size).size
    · rw [dif_pos h1, sub_get S p 1 h1 (by omega), drop_cons S (p + 1) (by omega)]; rfl
    · rw [dif_neg h1, List.drop_of_length_le (by rw [bal]; omega)]; rfl) w
  rw [e0, ext_drop] at hq
  rw [sgnZ_eq (S[p]'hp) _ (((S.data.toList.drop (p + 1)).drop 1).headD 0) _ (fun h => by rw [drop_cons S p hp]; exact pre3 _ _ h)] at hq
  exact hq
/-- what piece does -/
def PP (w : World) (base R : Nat) (S : ByteArray) (s : St) (p : Nat) (pc : Pc) (e : Ending) (w' : World) : Prop :=
  match pc with
  | .bad o => PanP w base (p + o) e w'
  | pc => AddP w base R S (stp p s pc) (.int .i64 ((p + pc.len : Nat) : Int)) e w'
theorem PP.bad {w : World} {base R : Nat} {S : ByteArray} {s : St} {p o : Nat} {pc : Pc} {e : Ending} {w' : World} (hpc : pc = .bad o) (h : PanP w base (p + o) e w') : PP w base R S s p pc e w' := by subst hpc; exact h
theorem PP.ok {w : World} {base R : Nat} {S : ByteArray} {s : St} {p : Nat} {pc pc' : Pc} {e : Ending} {w' : World} (hpc : pc = pc') (hn : ∀ o, pc' ≠ .bad o) (h : AddP w base R S (stp p s pc') (.int .i64 ((p + pc'.len : Nat) : Int)) e w') : PP w base R S s p pc e w' := by
  subst hpc
  cases pc with
  | bad o => exact absurd rfl (hn o)
  | line => exact h
  | blank => exact h
  | tok k n x => exact h
  | rmk n l => exact h
set_option maxRecDepth 100000 in
set_option maxHeartbeats 2000000 in
theorem pc_line (w : World) (base R : Nat) (S : ByteArray) (s : St) (h : Rd w base R S s) (p : Nat) (hp : p < S.size) (hS : S.size ≤ 65536) (hl : s.toks.length ≤ 999999) (hl2 : s.rems.length ≤ 999999) (hb : S[p]'hp = 10) :
    Calls Tryd.prog 48 #[.pointer (some ⟨R, 0, none⟩), .int .i64 p, .int .i32 (((Utf8.decode S p).1 : Nat) : Int)] w (PP w base R S s p (pcOf (S.data.toList.drop p))) := by
  have _u := And.intro hS (And.intro hl hl2)
  clear _u
  have c0 := h.cell0
  have hlt := h.lt
  have hle := h.le
  have z1 : (0 : Int) ≤ (p : Int) := by omega
  have z2 : (p : Int) ≤ (S.size : Int) := by omega
  have n10 : ((((Utf8.decode S p).1 : Nat) : Int) == 10) = decide (S[p]'hp = 10) := rune_eq hp 10 (by decide)
  have n32 : ((((Utf8.decode S p).1 : Nat) : Int) == 32) = decide (S[p]'hp = 32) := rune_eq hp 32 (by decide)
  have n9 : ((((Utf8.decode S p).1 : Nat) : Int) == 9) = decide (S[p]'hp = 9) := rune_eq hp 9 (by decide)
  have n13 : ((((Utf8.decode S p).1 : Nat) : Int) == 13) = decide (S[p]'hp = 13) := rune_eq hp 13 (by decide)
  have n34 : ((((Utf8.decode S p).1 : Nat) : Int) == 34) = decide (S[p]'hp = 34) := rune_eq hp 34 (by decide)
  have n59 : ((((Utf8.decode S p).1 : Nat) : Int) == 59) = decide (S[p]'hp = 59) := rune_eq hp 59 (by decide)
  have h24 := fun w => letter_any (((Utf8.decode S p).1 : Nat) : Int) w
  have h44 := fun w => digit_any (((Utf8.decode S p).1 : Nat) : Int) w
  rw [rune_ltr hp] at h24
  rw [rune_dgt hp] at h44
  have h58 := fun q w => Tryd.strings_HasPrefix (S.extract p S.size) q w
  have p1 : Lib.hasPrefix (S.extract p S.size).data.toList [47, 47] = decide (S[p]'hp = 47 ∧ (S.data.toList.drop (p + 1)).head? = some 47) := by rw [ext_drop, drop_cons S p hp, pre2]
  have p2 : Lib.hasPrefix (S.extract p S.size).data.toList [47, 42] = decide (S[p]'hp = 47 ∧ (S.data.toList.drop (p + 1)).head? = some 42) := by rw [ext_drop, drop_cons S p hp, pre2]
  have h61 := sign_call S p hp hS
  have hdc := drop_cons S p hp
  have HH : Hid (Rd w base R S s) := h
  generalize hc : (((Utf8.decode S p).1 : Nat) : Int) = c at *
  generalize hE : S.extract p S.size = E at *
  clear hc
  rw [decide_eq_true hb] at n10
  have h49 := eol_any w base R S s h p (by omega)
  have HPC : Hid (pcOf (S.data.toList.drop p) = .line) := by rw [hdc, hb]; rfl
  have HZ : Hid (((p + 1 : Nat) : Int) = (p : Int) + 1) := (by omega : ((p + 1 : Nat) : Int) = (p : Int) + 1)
  clear h n32 n9 n13 n34 n59 p1 p2 hdc hb
  go_enter Tryd.func48, Tryd.ntmps48
  go_wp2_with (first
    | (go_at_call 24; refine (h24 _).mono ?_; rintro e w1 ⟨rfl, hw1⟩; obtain rfl := hw1.symm)
    | (go_at_call 44; refine (h44 _).mono ?_; rintro e w1 ⟨rfl, hw1⟩; obtain rfl := hw1.symm)
    | (go_at_call 58; refine (h58 _ _).mono ?_; rintro e w1 ⟨rfl, hw1⟩; obtain rfl := hw1.symm)
    | (go_at_call 61; refine (h61 _).mono ?_; rintro e w1 ⟨rfl, hw1⟩; obtain rfl := hw1.symm)
    | (go_at_call 62; refine (wrongAt_any _ _).mono ?_; rintro e w1 ⟨rfl, rfl⟩)
    | (go_at_call 49; refine (h49).mono ?_; intro e w3 h3; obtain rfl := h3.ret; have H3 : Hid _ := h3; clear h3))
  go_ret
  exact PP.ok HPC.out (fun o h => by cases h) ⟨by show _ = Ending.returned (.int .i64 ((p + 1 : Nat) : Int)); rw [HZ.out]; rfl, H3.out.rd, H3.out.bl, H3.out.ot⟩
set_option maxRecDepth 100000 in
set_option maxHeartbeats 2000000 in
theorem pc_blank32 (w : World) (base R : Nat) (S : ByteArray) (s : St) (h : Rd w base R S s) (p : Nat) (hp : p < S.size) (hS : S.size ≤ 65536) (hl : s.toks.length ≤ 999999) (hl2 : s.rems.length ≤ 999999) (hb : S[p]'hp = 32) :
    Calls Tryd.prog 48 #[.pointer (some ⟨R, 0, none⟩), .int .i64 p, .int .i32 (((Utf8.decode S p).1 : Nat) : Int)] w (PP w base R S s p (pcOf (S.data.toList.drop p))) := by
  have _u := And.intro hS (And.intro hl hl2)
  clear _u
  have c0 := h.cell0
  have hlt := h.lt
  have hle := h.le
  have z1 : (0 : Int) ≤ (p : Int) := by omega
  have z2 : (p : Int) ≤ (S.size : Int) := by omega
  have n10 : ((((Utf8.decode S p).1 : Nat) : Int) == 10) = decide (S[p]'hp = 10) := rune_eq hp 10 (by decide)
  have n32 : ((((Utf8.decode S p).1 : Nat) : Int) == 32) = decide (S[p]'hp = 32) := rune_eq hp 32 (by decide)
  have n9 : ((((Utf8.decode S p).1 : Nat) : Int) == 9) = decide (S[p]'hp = 9) := rune_eq hp 9 (by decide)
  have n13 : ((((Utf8.decode S p).1 : Nat) : Int) == 13) = decide (S[p]'hp = 13) := rune_eq hp 13 (by decide)
  have n34 : ((((Utf8.decode S p).1 : Nat) : Int) == 34) = decide (S[p]'hp = 34) := rune_eq hp 34 (by decide)
  have n59 : ((((Utf8.decode S p).1 : Nat) : Int) == 59) = decide (S[p]'hp = 59) := rune_eq hp 59 (by decide)
  have h24 := fun w => letter_any (((Utf8.decode S p).1 : Nat) : Int) w
  have h44 := fun w => digit_any (((Utf8.decode S p).1 : Nat) : Int) w
  rw [rune_ltr hp] at h24
  rw [rune_dgt hp] at h44
  have h58 := fun q w => Tryd.strings_HasPrefix (S.extract p S.size) q w
  have p1 : Lib.hasPrefix (S.extract p S.size).data.toList [47, 47] = decide (S[p]'hp = 47 ∧ (S.data.toList.drop (p + 1)).head? = some 47) := by rw [ext_drop, drop_cons S p hp, pre2]
  have p2 : Lib.hasPrefix (S.extract p S.size).data.toList [47, 42] = decide (S[p]'hp = 47 ∧ (S.data.toList.drop (p + 1)).head? = some 42) := by rw [ext_drop, drop_cons S p hp, pre2]
  have h61 := sign_call S p hp hS
  have hdc := drop_cons S p hp
  have HH : Hid (Rd w base R S s) := h
  generalize hc : (((Utf8.decode S p).1 : Nat) : Int) = c at *
  generalize hE : S.extract p S.size = E at *
  clear hc
  rw [decide_eq_true hb] at n32
  rw [decide_eq_false (by rw [hb]; decide)] at n10
  have HPC : Hid (pcOf (S.data.toList.drop p) = .blank) := by rw [hdc, hb]; rfl
  have HZ : Hid (((p + 1 : Nat) : Int) = (p : Int) + 1) := (by omega : ((p + 1 : Nat) : Int) = (p : Int) + 1)
  clear h n34 n59 p1 p2 hdc hb
  go_enter Tryd.func48, Tryd.ntmps48
  go_wp2_with (first
    | (go_at_call 24; refine (h24 _).mono ?_; rintro e w1 ⟨rfl, hw1⟩; obtain rfl := hw1.symm)
    | (go_at_call 44; refine (h44 _).mono ?_; rintro e w1 ⟨rfl, hw1⟩; obtain rfl := hw1.symm)
    | (go_at_call 58; refine (h58 _ _).mono ?_; rintro e w1 ⟨rfl, hw1⟩; obtain rfl := hw1.symm)
    | (go_at_call 61; refine (h61 _).mono ?_; rintro e w1 ⟨rfl, hw1⟩; obtain rfl := hw1.symm)
    | (go_at_call 62; refine (wrongAt_any _ _).mono ?_; rintro e w1 ⟨rfl, rfl⟩)
    | fail)
  go_ret
  exact PP.ok HPC.out (fun o h => by cases h) ⟨by show _ = Ending.returned (.int .i64 ((p + 1 : Nat) : Int)); rw [HZ.out]; rfl, HH.out, Below.refl _ _, Oth.refl _ _⟩
set_option maxRecDepth 100000 in
set_option maxHeartbeats 2000000 in
theorem pc_blank9 (w : World) (base R : Nat) (S : ByteArray) (s : St) (h : Rd w base R S s) (p : Nat) (hp : p < S.size) (hS : S.size ≤ 65536) (hl : s.toks.length ≤ 999999) (hl2 : s.rems.length ≤ 999999) (hb : S[p]'hp = 9) :
    Calls Tryd.prog 48 #[.pointer (some ⟨R, 0, none⟩), .int .i64 p, .int .i32 (((Utf8.decode S p).1 : Nat) : Int)] w (PP w base R S s p (pcOf (S.data.toList.drop p))) := by
  have _u := And.intro hS (And.intro hl hl2)
  clear _u
  have c0 := h.cell0
  have hlt := h.lt
  have hle := h.le
  have z1 : (0 : Int) ≤ (p : Int) := by omega
  have z2 : (p : Int) ≤ (S.size : Int) := by omega
  have n10 : ((((Utf8.decode S p).1 : Nat) : Int) == 10) = decide (S[p]'hp = 10) := rune_eq hp 10 (by decide)
  have n32 : ((((Utf8.decode S p).1 : Nat) : Int) == 32) = decide (S[p]'hp = 32) := rune_eq hp 32 (by decide)
  have n9 : ((((Utf8.decode S p).1 : Nat) : Int) == 9) = decide (S[p]'hp = 9) := rune_eq hp 9 (by decide)
  have n13 : ((((Utf8.decode S p).1 : Nat) : Int) == 13) = decide (S[p]'hp = 13) := rune_eq hp 13 (by decide)
  have n34 : ((((Utf8.decode S p).1 : Nat) : Int) == 34) = decide (S[p]'hp = 34) := rune_eq hp 34 (by decide)
  have n59 : ((((Utf8.decode S p).1 : Nat) : Int) == 59) = decide (S[p]'hp = 59) := rune_eq hp 59 (by decide)
  have h24 := fun w => letter_any (((Utf8.decode S p).1 : Nat) : Int) w
  have h44 := fun w => digit_any (((Utf8.decode S p).1 : Nat) : Int) w
  rw [rune_ltr hp] at h24
  rw [rune_dgt hp] at h44
  have h58 := fun q w => Tryd.strings_HasPrefix (S.extract p S.size) q w
  have p1 : Lib.hasPrefix (S.extract p S.size).data.toList [47, 47] = decide (S[p]'hp = 47 ∧ (S.data.toList.drop (p + 1)).head? = some 47) := by rw [ext_drop, drop_cons S p hp, pre2]
  have p2 : Lib.hasPrefix (S.extract p S.size).data.toList [47, 42] = decide (S[p]'hp = 47 ∧ (S.data.toList.drop (p + 1)).head? = some 42) := by rw [ext_drop, drop_cons S p hp, pre2]
  have h61 := sign_call S p hp hS
  have hdc := drop_cons S p hp
  have HH : Hid (Rd w base R S s) := h
  generalize hc : (((Utf8.decode S p).1 : Nat) : Int) = c at *
  generalize hE : S.extract p S.size = E at *
  clear hc
  rw [decide_eq_true hb] at n9
  rw [decide_eq_false (by rw [hb]; decide)] at n10
  rw [decide_eq_false (by rw [hb]; decide)] at n32
  have HPC : Hid (pcOf (S.data.toList.drop p) = .blank) := by rw [hdc, hb]; rfl
  have HZ : Hid (((p + 1 : Nat) : Int) = (p : Int) + 1) := (by omega : ((p + 1 : Nat) : Int) = (p : Int) + 1)
  clear h n34 n59 p1 p2 hdc hb
  go_enter Tryd.func48, Tryd.ntmps48
  go_wp2_with (first
    | (go_at_call 24; refine (h24 _).mono ?_; rintro e w1 ⟨rfl, hw1⟩; obtain rfl := hw1.symm)
    | (go_at_call 44; refine (h44 _).mono ?_; rintro e w1 ⟨rfl, hw1⟩; obtain rfl := hw1.symm)
    | (go_at_call 58; refine (h58 _ _).mono ?_; rintro e w1 ⟨rfl, hw1⟩; obtain rfl := hw1.symm)
    | (go_at_call 61; refine (h61 _).mono ?_; rintro e w1 ⟨rfl, hw1⟩; obtain rfl := hw1.symm)
    | (go_at_call 62; refine (wrongAt_any _ _).mono ?_; rintro e w1 ⟨rfl, rfl⟩)
    | fail)
  go_ret
  exact PP.ok HPC.out (fun o h => by cases h) ⟨by show _ = Ending.returned (.int .i64 ((p + 1 : Nat) : Int)); rw [HZ.out]; rfl, HH.out, Below.refl _ _, Oth.refl _ _⟩
set_option maxRecDepth 100000 in
set_option maxHeartbeats 2000000 in
theorem pc_blank13 (w : World) (base R : Nat) (S : ByteArray) (s : St) (h : Rd w base R S s) (p : Nat) (hp : p < S.size) (hS : S.size ≤ 65536) (hl : s.toks.length ≤ 999999) (hl2 : s.rems.length ≤ 999999) (hb : S[p]'hp = 13) :
    Calls Tryd.prog 48 #[.pointer (some ⟨R, 0, none⟩), .int .i64 p, .int .i32 (((Utf8.decode S p).1 : Nat) : Int)] w (PP w base R S s p (pcOf (S.data.toList.drop p))) := by
  have _u := And.intro hS (And.intro hl hl2)
  clear _u
  have c0 := h.cell0
  have hlt := h.lt
  have hle := h.le
  have z1 : (0 : Int) ≤ (p : Int) := by omega
  have z2 : (p : Int) ≤ (S.size : Int) := by omega
  have n10 : ((((Utf8.decode S p).1 : Nat) : Int) == 10) = decide (S[p]'hp = 10) := rune_eq hp 10 (by decide)
  have n32 : ((((Utf8.decode S p).1 : Nat) : Int) == 32) = decide (S[p]'hp = 32) := rune_eq hp 32 (by decide)
  have n9 : ((((Utf8.decode S p).1 : Nat) : Int) == 9) = decide (S[p]'hp = 9) := rune_eq hp 9 (by decide)
  have n13 : ((((Utf8.decode S p).1 : Nat) : Int) == 13) = decide (S[p]'hp = 13) := rune_eq hp 13 (by decide)
  have n34 : ((((Utf8.decode S p).1 : Nat) : Int) == 34) = decide (S[p]'hp = 34) := rune_eq hp 34 (by decide)
  have n59 : ((((Utf8.decode S p).1 : Nat) : Int) == 59) = decide (S[p]'hp = 59) := rune_eq hp 59 (by decide)
  have h24 := fun w => letter_any (((Utf8.decode S p).1 : Nat) : Int) w
  have h44 := fun w => digit_any (((Utf8.decode S p).1 : Nat) : Int) w
  rw [rune_ltr hp] at h24
  rw [rune_dgt hp] at h44
  have h58 := fun q w => Tryd.strings_HasPrefix (S.extract p S.size) q w
  have p1 : Lib.hasPrefix (S.extract p S.size).data.toList [47, 47] = decide (S[p]'hp = 47 ∧ (S.data.toList.drop (p + 1)).head? = some 47) := by rw [ext_drop, drop_cons S p hp, pre2]
  have p2 : Lib.hasPrefix (S.extract p S.size).data.toList [47, 42] = decide (S[p]'hp = 47 ∧ (S.data.toList.drop (p + 1)).head? = some 42) := by rw [ext_drop, drop_cons S p hp, pre2]
  have h61 := sign_call S p hp hS
  have hdc := drop_cons S p hp
  have HH : Hid (Rd w base R S s) := h
  generalize hc : (((Utf8.decode S p).1 : Nat) : Int) = c at *
  generalize hE : S.extract p S.size = E at *
  clear hc
  rw [decide_eq_true hb] at n13
  rw [decide_eq_false (by rw [hb]; decide)] at n10
  rw [decide_eq_false (by rw [hb]; decide)] at n32
  rw [decide_eq_false (by rw [hb]; decide)] at n9
  have HPC : Hid (pcOf (S.data.toList.drop p) = .blank) := by rw [hdc, hb]; rfl
  have HZ : Hid (((p + 1 : Nat) : Int) = (p : Int) + 1) := (by omega : ((p + 1 : Nat) : Int) = (p : Int) + 1)
  clear h n34 n59 p1 p2 hdc hb
  go_enter Tryd.func48, Tryd.ntmps48
  go_wp2_with (first
    | (go_at_call 24; refine (h24 _).mono ?_; rintro e w1 ⟨rfl, hw1⟩; obtain rfl := hw1.symm)
    | (go_at_call 44; refine (h44 _).mono ?_; rintro e w1 ⟨rfl, hw1⟩; obtain rfl := hw1.symm)
    | (go_at_call 58; refine (h58 _ _).mono ?_; rintro e w1 ⟨rfl, hw1⟩; obtain rfl := hw1.symm)
    | (go_at_call 61; refine (h61 _).mono ?_; rintro e w1 ⟨rfl, hw1⟩; obtain rfl := hw1.symm)
    | (go_at_call 62; refine (wrongAt_any _ _).mono ?_; rintro e w1 ⟨rfl, rfl⟩)
    | fail)
  go_ret
  exact PP.ok HPC.out (fun o h => by cases h) ⟨by show _ = Ending.returned (.int .i64 ((p + 1 : Nat) : Int)); rw [HZ.out]; rfl, HH.out, Below.refl _ _, Oth.refl _ _⟩
end Go.Proofs.YtmfdfkbcommjfaaDoor
