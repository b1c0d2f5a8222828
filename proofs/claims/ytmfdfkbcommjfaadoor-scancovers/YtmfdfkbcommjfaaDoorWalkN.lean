/-
  piece of the reader, walked: strings, remarks, signs.
-/
import Derived.Test.YtmfdfkbcommjfaaDoorWalkM
namespace Go.Proofs.YtmfdfkbcommjfaaDoor
open Go.RowKit
attribute [local go_sem ↓] Go.wp_at_zero Go.wp_at_succ
set_option maxRecDepth 100000 in
set_option maxHeartbeats 2000000 in
theorem pc_str_bad (w : World) (base R : Nat) (S : ByteArray) (s : St) (h : Rd w base R S s) (p : Nat) (hp : p < S.size) (hS : S.size ≤ 65536) (hl : s.toks.length ≤ 999999) (hl2 : s.rems.length ≤ 999999) (hv : Vs S p) (hb : S[p]'hp = 34) (o : Nat) (hn : strL (S.data.toList.drop (p + 1)) false 1 [] = .error o) :
    Calls Tryd.prog 48 #[.pointer (some ⟨R, 0, none⟩), .int .i64 p, .int .i32 (((Utf8.decode S p).1 : Nat) : Int)] w (PP w base R S s p (pcOf (S.data.toList.drop p))) := by
  have _u := And.intro hS (And.intro hl hl2)
  clear _u
  have c0 := h.cell0
  have hlt := h.lt
  have hle := h.le
  have z1 : (0 : Int) ≤ (p : Int) := by omega
  have z2 : (p : Int) ≤ (S.size : Int) := by omega
  have n10 : ((((Utf8.decode S p).1 : Nat) : Int) == 10) = decide (S[p]'hp = 10) := rune_eq hp 10 (by decide)
  have n32 : ((((Utf8.decode S p).1 : Nat) : Int) == 32) = decide (S[p]'hp = 32) := rune_eq hp 32 (by decide)
  have n9 : ((((Utf8.decode S p).1 : Nat) : Int) == 9) = decide (S[p]'hp = 9) := rune_eq hp 9 (by decide)
  have n13 : ((((Utf8.decode S p).1 : Nat) : Int) == 13) = decide (S[p]'hp = 13) := rune_eq hp 13 (by decide)
  have n34 : ((((Utf8.decode S p).1 : Nat) : Int) == 34) = decide (S[p]'hp = 34) := rune_eq hp 34 (by decide)
  have n59 : ((((Utf8.decode S p).1 : Nat) : Int) == 59) = decide (S[p]'hp = 59) := rune_eq hp 59 (by decide)
  have h24 := fun w => letter_any (((Utf8.decode S p).1 : Nat) : Int) w
  have h44 := fun w => digit_any (((Utf8.decode S p).1 : Nat) : Int) w
  rw [rune_ltr hp] at h24
  rw [rune_dgt hp] at h44
  have h58 := fun q w => Tryd.strings_HasPrefix (S.extract p S.size) q w
  have p1 : Lib.hasPrefix (S.extract p S.size).data.toList [47, 47] = decide (S[p]'hp = 47 ∧ (S.data.toList.drop (p + 1)).head? = some 47) := by rw [ext_drop, drop_cons S p hp, pre2]
  have p2 : Lib.hasPrefix (S.extract p S.size).data.toList [47, 42] = decide (S[p]'hp = 47 ∧ (S.data.toList.drop (p + 1)).head? = some 42) := by rw [ext_drop, drop_cons S p hp, pre2]
  have h61 := sign_call S p hp hS
  have hdc := drop_cons S p hp
  have HH : Hid (Rd w base R S s) := h
  generalize hc : (((Utf8.decode S p).1 : Nat) : Int) = c at *
  generalize hE : S.extract p S.size = E at *
  clear hc
  rw [decide_eq_false (by rw [hb]; decide)] at n10
  rw [decide_eq_false (by rw [hb]; decide)] at n32
  rw [decide_eq_false (by rw [hb]; decide)] at n9
  rw [decide_eq_false (by rw [hb]; decide)] at n13
  rw [hb, show ltr 34 = false from rfl] at h24
  rw [hb, show dgt 34 = false from rfl] at h44
  rw [decide_eq_true hb] at n34
  have h57 := quoted_any w base R S s h p (by omega) hS (by omega) (hv.ascii hp (by rw [hb]; decide))
  rw [hn] at h57
  have h57 : Calls Tryd.prog 57 #[.pointer (some ⟨R, 0, none⟩), .int .i64 p] w (PanP w base (p + o)) := h57
  have HPC : Hid (pcOf (S.data.toList.drop p) = .bad o) := by
    show _ = _
    rw [hdc, hb, pcOf_str, hn]
  clear h n59 p1 p2 hdc hb hn hv
  go_enter Tryd.func48, Tryd.ntmps48
  go_wp2_with (first
    | (go_at_call 24; refine (h24 _).mono ?_; rintro e w1 ⟨rfl, hw1⟩; obtain rfl := hw1.symm)
    | (go_at_call 44; refine (h44 _).mono ?_; rintro e w1 ⟨rfl, hw1⟩; obtain rfl := hw1.symm)
    | (go_at_call 58; refine (h58 _ _).mono ?_; rintro e w1 ⟨rfl, hw1⟩; obtain rfl := hw1.symm)
    | (go_at_call 61; refine (h61 _).mono ?_; rintro e w1 ⟨rfl, hw1⟩; obtain rfl := hw1.symm)
    | (go_at_call 62; refine (wrongAt_any _ _).mono ?_; rintro e w1 ⟨rfl, rfl⟩)
    | (go_at_call 57; refine (h57).mono ?_; intro e w3 h3; obtain rfl := h3.pan; have H3 : Hid _ := h3; clear h3))
  exact ⟨rfl, PP.bad HPC.out ⟨rfl, H3.out.bl⟩⟩
set_option maxRecDepth 100000 in
set_option maxHeartbeats 2000000 in
theorem pc_str_ok (w : World) (base R : Nat) (S : ByteArray) (s : St) (h : Rd w base R S s) (p : Nat) (hp : p < S.size) (hS : S.size ≤ 65536) (hl : s.toks.length ≤ 999999) (hl2 : s.rems.length ≤ 999999) (hv : Vs S p) (hb : S[p]'hp = 34) (n : Nat) (x : List UInt8) (hn : strL (S.data.toList.drop (p + 1)) false 1 [] = .ok (n, x)) :
    Calls Tryd.prog 48 #[.pointer (some ⟨R, 0, none⟩), .int .i64 p, .int .i32 (((Utf8.decode S p).1 : Nat) : Int)] w (PP w base R S s p (pcOf (S.data.toList.drop p))) := by
  have _u := And.intro hS (And.intro hl hl2)
  clear _u
  have c0 := h.cell0
  have hlt := h.lt
  have hle := h.le
  have z1 : (0 : Int) ≤ (p : Int) := by omega
  have z2 : (p : Int) ≤ (S.size : Int) := by omega
  have n10 : ((((Utf8.decode S p).1 : Nat) : Int) == 10) = decide (S[p]'hp = 10) := rune_eq hp 10 (by decide)
  have n32 : ((((Utf8.decode S p).1 : Nat) : Int) == 32) = decide (S[p]'hp = 32) := rune_eq hp 32 (by decide)
  have n9 : ((((Utf8.decode S p).1 : Nat) : Int) == 9) = decide (S[p]'hp = 9) := rune_eq hp 9 (by decide)
  have n13 : ((((Utf8.decode S p).1 : Nat) : Int) == 13) = decide (S[p]'hp = 13) := rune_eq hp 13 (by decide)
  have n34 : ((((Utf8.decode S p).1 : Nat) : Int) == 34) = decide (S[p]'hp = 34) := rune_eq hp 34 (by decide)
  have n59 : ((((Utf8.decode S p).1 : Nat) : Int) == 59) = decide (S[p]'hp = 59) := rune_eq hp 59 (by decide)
  have h24 := fun w => letter_any (((Utf8.decode S p).1 : Nat) : Int) w
  have h44 := fun w => digit_any (((Utf8.decode S p).1 : Nat) : Int) w
  rw [rune_ltr hp] at h24
  rw [rune_dgt hp] at h44
  have h58 := fun q w => Tryd.strings_HasPrefix (S.extract p S.size) q w
  have p1 : Lib.hasPrefix (S.extract p S.size).data.toList [47, 47] = decide (S[p]'hp = 47 ∧ (S.data.toList.drop (p + 1)).head? = some 47) := by rw [ext_drop, drop_cons S p hp, pre2]
  have p2 : Lib.hasPrefix (S.extract p S.size).data.toList [47, 42] = decide (S[p]'hp = 47 ∧ (S.data.toList.drop (p + 1)).head? = some 42) := by rw [ext_drop, drop_cons S p hp, pre2]
  have h61 := sign_call S p hp hS
  have hdc := drop_cons S p hp
  have HH : Hid (Rd w base R S s) := h
  generalize hc : (((Utf8.decode S p).1 : Nat) : Int) = c at *
  generalize hE : S.extract p S.size = E at *
  clear hc
  rw [decide_eq_false (by rw [hb]; decide)] at n10
  rw [decide_eq_false (by rw [hb]; decide)] at n32
  rw [decide_eq_false (by rw [hb]; decide)] at n9
  rw [decide_eq_false (by rw [hb]; decide)] at n13
  rw [hb, show ltr 34 = false from rfl] at h24
  rw [hb, show dgt 34 = false from rfl] at h44
  rw [decide_eq_true hb] at n34
  have h57 := quoted_any w base R S s h p (by omega) hS (by omega) (hv.ascii hp (by rw [hb]; decide))
  rw [hn] at h57
  have h57 : Calls Tryd.prog 57 #[.pointer (some ⟨R, 0, none⟩), .int .i64 p] w (AddP w base R S (stp p s (.tok 3 n x)) (.int .i64 ((p + n : Nat) : Int))) := h57
  have HPC : Hid (pcOf (S.data.toList.drop p) = .tok 3 n x) := by
    show _ = _
    rw [hdc, hb, pcOf_str, hn]
  clear h n59 p1 p2 hdc hb hn hv
  go_enter Tryd.func48, Tryd.ntmps48
  go_wp2_with (first
    | (go_at_call 24; refine (h24 _).mono ?_; rintro e w1 ⟨rfl, hw1⟩; obtain rfl := hw1.symm)
    | (go_at_call 44; refine (h44 _).mono ?_; rintro e w1 ⟨rfl, hw1⟩; obtain rfl := hw1.symm)
    | (go_at_call 58; refine (h58 _ _).mono ?_; rintro e w1 ⟨rfl, hw1⟩; obtain rfl := hw1.symm)
    | (go_at_call 61; refine (h61 _).mono ?_; rintro e w1 ⟨rfl, hw1⟩; obtain rfl := hw1.symm)
    | (go_at_call 62; refine (wrongAt_any _ _).mono ?_; rintro e w1 ⟨rfl, rfl⟩)
    | (go_at_call 57; refine (h57).mono ?_; intro e w3 h3; obtain rfl := h3.ret; have H3 : Hid _ := h3; clear h3))
  go_ret
  exact PP.ok HPC.out (fun o h => by cases h) H3.out
set_option maxRecDepth 100000 in
set_option maxHeartbeats 2000000 in
theorem pc_short (w : World) (base R : Nat) (S : ByteArray) (s : St) (h : Rd w base R S s) (p : Nat) (hp : p < S.size) (hS : S.size ≤ 65536) (hl : s.toks.length ≤ 999999) (hl2 : s.rems.length ≤ 999999) (hb : S[p]'hp = 47) (hn : (S.data.toList.drop (p + 1)).head? = some 47) :
    Calls Tryd.prog 48 #[.pointer (some ⟨R, 0, none⟩), .int .i64 p, .int .i32 (((Utf8.decode S p).1 : Nat) : Int)] w (PP w base R S s p (pcOf (S.data.toList.drop p))) := by
  have _u := And.intro hS (And.intro hl hl2)
  clear _u
  have c0 := h.cell0
  have hlt := h.lt
  have hle := h.le
  have z1 : (0 : Int) ≤ (p : Int) := by omega
  have z2 : (p : Int) ≤ (S.size : Int) := by omega
  have n10 : ((((Utf8.decode S p).1 : Nat) : Int) == 10) = decide (S[p]'hp = 10) := rune_eq hp 10 (by decide)
  have n32 : ((((Utf8.decode S p).1 : Nat) : Int) == 32) = decide (S[p]'hp = 32) := rune_eq hp 32 (by decide)
  have n9 : ((((Utf8.decode S p).1 : Nat) : Int) == 9) = decide (S[p]'hp = 9) := rune_eq hp 9 (by decide)
  have n13 : ((((Utf8.decode S p).1 : Nat) : Int) == 13) = decide (S[p]'hp = 13) := rune_eq hp 13 (by decide)
  have n34 : ((((Utf8.decode S p).1 : Nat) : Int) == 34) = decide (S[p]'hp = 34) := rune_eq hp 34 (by decide)
  have n59 : ((((Utf8.decode S p).1 : Nat) : Int) == 59) = decide (S[p]'hp = 59) := rune_eq hp 59 (by decide)
  have h24 := fun w => letter_any (((Utf8.decode S p).1 : Nat) : Int) w
  have h44 := fun w => digit_any (((Utf8.decode S p).1 : Nat) : Int) w
  rw [rune_ltr hp] at h24
  rw [rune_dgt hp] at h44
  have h58 := fun q w => Tryd.strings_HasPrefix (S.extract p S.size) q w
  have p1 : Lib.hasPrefix (S.extract p S.size).data.toList [47, 47] = decide (S[p]'hp = 47 ∧ (S.data.toList.drop (p + 1)).head? = some 47) := by rw [ext_drop, drop_cons S p hp, pre2]
  have p2 : Lib.hasPrefix (S.extract p S.size).data.toList [47, 42] = decide (S[p]'hp = 47 ∧ (S.data.toList.drop (p + 1)).head? = some 42) := by rw [ext_drop, drop_cons S p hp, pre2]
  have h61 := sign_call S p hp hS
  have hdc := drop_cons S p hp
  have HH : Hid (Rd w base R S s) := h
  generalize hc : (((Utf8.decode S p).1 : Nat) : Int) = c at *
  generalize hE : S.extract p S.size = E at *
  clear hc
  rw [decide_eq_false (by rw [hb]; decide)] at n10
  rw [decide_eq_false (by rw [hb]; decide)] at n32
  rw [decide_eq_false (by rw [hb]; decide)] at n9
  rw [decide_eq_false (by rw [hb]; decide)] at n13
  rw [hb, show ltr 47 = false from rfl] at h24
  rw [hb, show dgt 47 = false from rfl] at h44
  rw [decide_eq_false (by rw [hb]; decide)] at n34
  rw [decide_eq_true ⟨hb, hn⟩] at p1
  have h59 := short_any w base R S s h p hp hS (by omega)
  have HPC : Hid (pcOf (S.data.toList.drop p) = .rmk (run notNl (S.data.toList.drop p)) false) := by
    show _ = _
    rw [hdc, hb, pcOf_short hn]
  clear h n59 p2 hdc hb hn
  go_enter Tryd.func48, Tryd.ntmps48
  go_wp2_with (first
    | (go_at_call 24; refine (h24 _).mono ?_; rintro e w1 ⟨rfl, hw1⟩; obtain rfl := hw1.symm)
    | (go_at_call 44; refine (h44 _).mono ?_; rintro e w1 ⟨rfl, hw1⟩; obtain rfl := hw1.symm)
    | (go_at_call 58; refine (h58 _ _).mono ?_; rintro e w1 ⟨rfl, hw1⟩; obtain rfl := hw1.symm)
    | (go_at_call 61; refine (h61 _).mono ?_; rintro e w1 ⟨rfl, hw1⟩; obtain rfl := hw1.symm)
    | (go_at_call 62; refine (wrongAt_any _ _).mono ?_; rintro e w1 ⟨rfl, rfl⟩)
    | (go_at_call 59; refine (h59).mono ?_; intro e w3 h3; obtain rfl := h3.ret; have H3 : Hid _ := h3; clear h3))
  go_ret
  exact PP.ok HPC.out (fun o h => by cases h) H3.out
set_option maxRecDepth 100000 in
set_option maxHeartbeats 2000000 in
theorem pc_long_bad (w : World) (base R : Nat) (S : ByteArray) (s : St) (h : Rd w base R S s) (p : Nat) (hp : p < S.size) (hS : S.size ≤ 65536) (hl : s.toks.length ≤ 999999) (hl2 : s.rems.length ≤ 999999) (hM : Mx w) (hb : S[p]'hp = 47) (hn : (S.data.toList.drop (p + 1)).head? = some 42) (hk : endOf (S.data.toList.drop (p + 2)) = none) :
    Calls Tryd.prog 48 #[.pointer (some ⟨R, 0, none⟩), .int .i64 p, .int .i32 (((Utf8.decode S p).1 : Nat) : Int)] w (PP w base R S s p (pcOf (S.data.toList.drop p))) := by
  have _u := And.intro hS (And.intro hl hl2)
  clear _u
  have c0 := h.cell0
  have hlt := h.lt
  have hle := h.le
  have z1 : (0 : Int) ≤ (p : Int) := by omega
  have z2 : (p : Int) ≤ (S.size : Int) := by omega
  have n10 : ((((Utf8.decode S p).1 : Nat) : Int) == 10) = decide (S[p]'hp = 10) := rune_eq hp 10 (by decide)
  have n32 : ((((Utf8.decode S p).1 : Nat) : Int) == 32) = decide (S[p]'hp = 32) := rune_eq hp 32 (by decide)
  have n9 : ((((Utf8.decode S p).1 : Nat) : Int) == 9) = decide (S[p]'hp = 9) := rune_eq hp 9 (by decide)
  have n13 : ((((Utf8.decode S p).1 : Nat) : Int) == 13) = decide (S[p]'hp = 13) := rune_eq hp 13 (by decide)
  have n34 : ((((Utf8.decode S p).1 : Nat) : Int) == 34) = decide (S[p]'hp = 34) := rune_eq hp 34 (by decide)
  have n59 : ((((Utf8.decode S p).1 : Nat) : Int) == 59) = decide (S[p]'hp = 59) := rune_eq hp 59 (by decide)
  have h24 := fun w => letter_any (((Utf8.decode S p).1 : Nat) : Int) w
  have h44 := fun w => digit_any (((Utf8.decode S p).1 : Nat) : Int) w
  rw [rune_ltr hp] at h24
  rw [rune_dgt hp] at h44
  have h58 := fun q w => Tryd.strings_HasPrefix (S.extract p S.size) q w
  have p1 : Lib.hasPrefix (S.extract p S.size).data.toList [47, 47] = decide (S[p]'hp = 47 ∧ (S.data.toList.drop (p + 1)).head? = some 47) := by rw [ext_drop, drop_cons S p hp, pre2]
  have p2 : Lib.hasPrefix (S.extract p S.size).data.toList [47, 42] = decide (S[p]'hp = 47 ∧ (S.data.toList.drop (p + 1)).head? = some 42) := by rw [ext_drop, drop_cons S p hp, pre2]
  have h61 := sign_call S p hp hS
  have hdc := drop_cons S p hp
  have HH : Hid (Rd w base R S s) := h
  generalize hc : (((Utf8.decode S p).1 : Nat) : Int) = c at *
  generalize hE : S.extract p S.size = E at *
  clear hc
  rw [decide_eq_false (by rw [hb]; decide)] at n10
  rw [decide_eq_false (by rw [hb]; decide)] at n32
  rw [decide_eq_false (by rw [hb]; decide)] at n9
  rw [decide_eq_false (by rw [hb]; decide)] at n13
  rw [hb, show ltr 47 = false from rfl] at h24
  rw [hb, show dgt 47 = false from rfl] at h44
  rw [decide_eq_false (by rw [hb]; decide)] at n34
  rw [decide_eq_false (by rw [hn]; rintro ⟨_, e⟩; exact absurd e (by decide))] at p1
  rw [decide_eq_true ⟨hb, hn⟩] at p2
  have hp2 : p + 2 ≤ S.size := by
    rw [head_drop] at hn
    by_cases q : p + 1 < S.size
    · omega
    · rw [dif_neg q] at hn; cases hn
  have h60 := long_bad w base R S s h p hp2 hS hM hk
  have HPC : Hid (pcOf (S.data.toList.drop p) = .bad 0) := by
    show _ = _
    rw [hdc, hb, pcOf_long hn, List.drop_drop, hk]
  clear h n59 hdc hb hn hk hM hp2
  go_enter Tryd.func48, Tryd.ntmps48
  go_wp2_with (first
    | (go_at_call 24; refine (h24 _).mono ?_; rintro e w1 ⟨rfl, hw1⟩; obtain rfl := hw1.symm)
    | (go_at_call 44; refine (h44 _).mono ?_; rintro e w1 ⟨rfl, hw1⟩; obtain rfl := hw1.symm)
    | (go_at_call 58; refine (h58 _ _).mono ?_; rintro e w1 ⟨rfl, hw1⟩; obtain rfl := hw1.symm)
    | (go_at_call 61; refine (h61 _).mono ?_; rintro e w1 ⟨rfl, hw1⟩; obtain rfl := hw1.symm)
    | (go_at_call 62; refine (wrongAt_any _ _).mono ?_; rintro e w1 ⟨rfl, rfl⟩)
    | (go_at_call 60; refine (h60).mono ?_; intro e w3 h3; obtain rfl := h3.pan; have H3 : Hid _ := h3; clear h3))
  exact ⟨rfl, PP.bad HPC.out ⟨rfl, H3.out.bl⟩⟩
set_option maxRecDepth 100000 in
set_option maxHeartbeats 2000000 in
theorem pc_long_ok (w : World) (base R : Nat) (S : ByteArray) (s : St) (h : Rd w base R S s) (p : Nat) (hp : p < S.size) (hS : S.size ≤ 65536) (hl : s.toks.length ≤ 999999) (hl2 : s.rems.length ≤ 999999) (hM : Mx w) (hb : S[p]'hp = 47) (hn : (S.data.toList.drop (p + 1)).head? = some 42) (k : Nat) (hk : endOf (S.data.toList.drop (p + 2)) = some k) :
    Calls Tryd.prog 48 #[.pointer (some ⟨R, 0, none⟩), .int .i64 p, .int .i32 (((Utf8.decode S p).1 : Nat) : Int)] w (PP w base R S s p (pcOf (S.data.toList.drop p))) := by
  have _u := And.intro hS (And.intro hl hl2)
  clear _u
  have c0 := h.cell0
  have hlt := h.lt
  have hle := h.le
  have z1 : (0 : Int) ≤ (p : Int) := by omega
  have z2 : (p : Int) ≤ (S.size : Int) := by omega
  have n10 : ((((Utf8.decode S p).1 : Nat) : Int) == 10) = decide (S[p]'hp = 10) := rune_eq hp 10 (by decide)
  have n32 : ((((Utf8.decode S p).1 : Nat) : Int) == 32) = decide (S[p]'hp = 32) := rune_eq hp 32 (by decide)
  have n9 : ((((Utf8.decode S p).1 : Nat) : Int) == 9) = decide (S[p]'hp = 9) := rune_eq hp 9 (by decide)
  have n13 : ((((Utf8.decode S p).1 : Nat) : Int) == 13) = decide (S[p]'hp = 13) := rune_eq hp 13 (by decide)
  have n34 : ((((Utf8.decode S p).1 : Nat) : Int) == 34) = decide (S[p]'hp = 34) := rune_eq hp 34 (by decide)
  have n59 : ((((Utf8.decode S p).1 : Nat) : Int) == 59) = decide (S[p]'hp = 59) := rune_eq hp 59 (by decide)
  have h24 := fun w => letter_any (((Utf8.decode S p).1 : Nat) : Int) w
  have h44 := fun w => digit_any (((Utf8.decode S p).1 : Nat) : Int) w
  rw [rune_ltr hp] at h24
  rw [rune_dgt hp] at h44
  have h58 := fun q w => Tryd.strings_HasPrefix (S.extract p S.size) q w
  have p1 : Lib.hasPrefix (S.extract p S.size).data.toList [47, 47] = decide (S[p]'hp = 47 ∧ (S.data.toList.drop (p + 1)).head? = some 47) := by rw [ext_drop, drop_cons S p hp, pre2]
  have p2 : Lib.hasPrefix (S.extract p S.size).data.toList [47, 42] = decide (S[p]'hp = 47 ∧ (S.data.toList.drop (p + 1)).head? = some 42) := by rw [ext_drop, drop_cons S p hp, pre2]
  have h61 := sign_call S p hp hS
  have hdc := drop_cons S p hp
  have HH : Hid (Rd w base R S s) := h
  generalize hc : (((Utf8.decode S p).1 : Nat) : Int) = c at *
  generalize hE : S.extract p S.size = E at *
  clear hc
  rw [decide_eq_false (by rw [hb]; decide)] at n10
  rw [decide_eq_false (by rw [hb]; decide)] at n32
  rw [decide_eq_false (by rw [hb]; decide)] at n9
  rw [decide_eq_false (by rw [hb]; decide)] at n13
  rw [hb, show ltr 47 = false from rfl] at h24
  rw [hb, show dgt 47 = false from rfl] at h44
  rw [decide_eq_false (by rw [hb]; decide)] at n34
  rw [decide_eq_false (by rw [hn]; rintro ⟨_, e⟩; exact absurd e (by decide))] at p1
  rw [decide_eq_true ⟨hb, hn⟩] at p2
  have hp2 : p + 2 ≤ S.size := by
    rw [head_drop] at hn
    by_cases q : p + 1 < S.size
    · omega
    · rw [dif_neg q] at hn; cases hn
  have h60 := long_ok w base R S s h p k hp2 hS hM (by omega) (by omega) hk
  have HPC : Hid (pcOf (S.data.toList.drop p) = .rmk (k + 4) (((S.data.toList.drop (p + 2)).take k).contains 10)) := by
    show _ = _
    rw [hdc, hb, pcOf_long hn, List.drop_drop, hk]
  clear h n59 hdc hb hn hk hM hp2
  go_enter Tryd.func48, Tryd.ntmps48
  go_wp2_with (first
    | (go_at_call 24; refine (h24 _).mono ?_; rintro e w1 ⟨rfl, hw1⟩; obtain rfl := hw1.symm)
    | (go_at_call 44; refine (h44 _).mono ?_; rintro e w1 ⟨rfl, hw1⟩; obtain rfl := hw1.symm)
    | (go_at_call 58; refine (h58 _ _).mono ?_; rintro e w1 ⟨rfl, hw1⟩; obtain rfl := hw1.symm)
    | (go_at_call 61; refine (h61 _).mono ?_; rintro e w1 ⟨rfl, hw1⟩; obtain rfl := hw1.symm)
    | (go_at_call 62; refine (wrongAt_any _ _).mono ?_; rintro e w1 ⟨rfl, rfl⟩)
    | (go_at_call 60; refine (h60).mono ?_; intro e w3 h3; obtain rfl := h3.ret; have H3 : Hid _ := h3; clear h3))
  go_ret
  exact PP.ok HPC.out (fun o h => by cases h) H3.out
set_option maxRecDepth 100000 in
set_option maxHeartbeats 2000000 in
theorem pc_semi (w : World) (base R : Nat) (S : ByteArray) (s : St) (h : Rd w base R S s) (p : Nat) (hp : p < S.size) (hS : S.size ≤ 65536) (hl : s.toks.length ≤ 999999) (hl2 : s.rems.length ≤ 999999) (hb : S[p]'hp = 59) :
    Calls Tryd.prog 48 #[.pointer (some ⟨R, 0, none⟩), .int .i64 p, .int .i32 (((Utf8.decode S p).1 : Nat) : Int)] w (PP w base R S s p (pcOf (S.data.toList.drop p))) := by
  have _u := And.intro hS (And.intro hl hl2)
  clear _u
  have c0 := h.cell0
  have hlt := h.lt
  have hle := h.le
  have z1 : (0 : Int) ≤ (p : Int) := by omega
  have z2 : (p : Int) ≤ (S.size : Int) := by omega
  have n10 : ((((Utf8.decode S p).1 : Nat) : Int) == 10) = decide (S[p]'hp = 10) := rune_eq hp 10 (by decide)
  have n32 : ((((Utf8.decode S p).1 : Nat) : Int) == 32) = decide (S[p]'hp = 32) := rune_eq hp 32 (by decide)
  have n9 : ((((Utf8.decode S p).1 : Nat) : Int) == 9) = decide (S[p]'hp = 9) := rune_eq hp 9 (by decide)
  have n13 : ((((Utf8.decode S p).1 : Nat) : Int) == 13) = decide (S[p]'hp = 13) := rune_eq hp 13 (by decide)
  have n34 : ((((Utf8.decode S p).1 : Nat) : Int) == 34) = decide (S[p]'hp = 34) := rune_eq hp 34 (by decide)
  have n59 : ((((Utf8.decode S p).1 : Nat) : Int) == 59) = decide (S[p]'hp = 59) := rune_eq hp 59 (by decide)
  have h24 := fun w => letter_any (((Utf8.decode S p).1 : Nat) : Int) w
  have h44 := fun w => digit_any (((Utf8.decode S p).1 : Nat) : Int) w
  rw [rune_ltr hp] at h24
  rw [rune_dgt hp] at h44
  have h58 := fun q w => Tryd.strings_HasPrefix (S.extract p S.size) q w
  have p1 : Lib.hasPrefix (S.extract p S.size).data.toList [47, 47] = decide (S[p]'hp = 47 ∧ (S.data.toList.drop (p + 1)).head? = some 47) := by rw [ext_drop, drop_cons S p hp, pre2]
  have p2 : Lib.hasPrefix (S.extract p S.size).data.toList [47, 42] = decide (S[p]'hp = 47 ∧ (S.data.toList.drop (p + 1)).head? = some 42) := by rw [ext_drop, drop_cons S p hp, pre2]
  have h61 := sign_call S p hp hS
  have hdc := drop_cons S p hp
  have HH : Hid (Rd w base R S s) := h
  generalize hc : (((Utf8.decode S p).1 : Nat) : Int) = c at *
  generalize hE : S.extract p S.size = E at *
  clear hc
  rw [decide_eq_false (by rw [hb]; decide)] at n10
  rw [decide_eq_false (by rw [hb]; decide)] at n32
  rw [decide_eq_false (by rw [hb]; decide)] at n9
  rw [decide_eq_false (by rw [hb]; decide)] at n13
  rw [hb, show ltr 59 = false from rfl] at h24
  rw [hb, show dgt 59 = false from rfl] at h44
  rw [decide_eq_false (by rw [hb]; decide)] at n34
  rw [decide_eq_false (by rintro ⟨e, _⟩; rw [hb] at e; exact absurd e (by decide))] at p1 p2
  rw [decide_eq_true hb] at n59
  have h50 := add_any w base R S s h 6 p (p + 1) (by omega) (by omega) (by omega)
  rw [ext_tok, hdc, hb] at h50
  have zc : ((p + 1 : Nat) : Int) = (p : Int) + 1 := by omega
  have HZ : Hid (((p + 1 : Nat) : Int) = (p : Int) + 1) := zc
  have h50 : Calls Tryd.prog 50 #[.pointer (some ⟨R, 0, none⟩), .int .i64 6, .int .i64 p, .int .i64 ((p : Int) + 1)] w (AddP w base R S (stp p s (.tok 6 1 [59])) (.int .i64 ((p + 1 : Nat) : Int))) := by rw [← zc]; exact h50
  clear zc
  have HPC : Hid (pcOf (S.data.toList.drop p) = .tok 6 1 [59]) := by
    show _ = _
    rw [hdc, hb, pcOf_semi]
  clear h hdc hb
  go_enter Tryd.func48, Tryd.ntmps48
  go_wp2_with (first
    | (go_at_call 24; refine (h24 _).mono ?_; rintro e w1 ⟨rfl, hw1⟩; obtain rfl := hw1.symm)
    | (go_at_call 44; refine (h44 _).mono ?_; rintro e w1 ⟨rfl, hw1⟩; obtain rfl := hw1.symm)
    | (go_at_call 58; refine (h58 _ _).mono ?_; rintro e w1 ⟨rfl, hw1⟩; obtain rfl := hw1.symm)
    | (go_at_call 61; refine (h61 _).mono ?_; rintro e w1 ⟨rfl, hw1⟩; obtain rfl := hw1.symm)
    | (go_at_call 62; refine (wrongAt_any _ _).mono ?_; rintro e w1 ⟨rfl, rfl⟩)
    | (go_at_call 50; refine (h50).mono ?_; intro e w3 h3; obtain rfl := h3.ret; have H3 : Hid _ := h3; clear h3))
  go_ret
  exact PP.ok HPC.out (fun o h => by cases h) H3.out
set_option maxRecDepth 100000 in
set_option maxHeartbeats 2000000 in
theorem pc_sign_bad (w : World) (base R : Nat) (S : ByteArray) (s : St) (h : Rd w base R S s) (p : Nat) (hp : p < S.size) (hS : S.size ≤ 65536) (hl : s.toks.length ≤ 999999) (hl2 : s.rems.length ≤ 999999) (q10 : S[p]'hp ≠ 10) (qb : ¬ (S[p]'hp = 32 ∨ S[p]'hp = 9 ∨ S[p]'hp = 13)) (hnl : ltr (S[p]'hp) = false) (hnd : dgt (S[p]'hp) = false) (q34 : S[p]'hp ≠ 34) (qs : ¬ (S[p]'hp = 47 ∧ (S.data.toList.drop (p + 1)).head? = some 47)) (ql : ¬ (S[p]'hp = 47 ∧ (S.data.toList.drop (p + 1)).head? = some 42)) (q59 : S[p]'hp ≠ 59) (hn : sgn (S[p]'hp) ((S.data.toList.drop (p + 1)).headD 0) (((S.data.toList.drop (p + 1)).drop 1).headD 0) = 0) :
    Calls Tryd.prog 48 #[.pointer (some ⟨R, 0, none⟩), .int .i64 p, .int .i32 (((Utf8.decode S p).1 : Nat) : Int)] w (PP w base R S s p (pcOf (S.data.toList.drop p))) := by
  have _u := And.intro hS (And.intro hl hl2)
  clear _u
  have c0 := h.cell0
  have hlt := h.lt
  have hle := h.le
  have z1 : (0 : Int) ≤ (p : Int) := by omega
  have z2 : (p : Int) ≤ (S.size : Int) := by omega
  have n10 : ((((Utf8.decode S p).1 : Nat) : Int) == 10) = decide (S[p]'hp = 10) := rune_eq hp 10 (by decide)
  have n32 : ((((Utf8.decode S p).1 : Nat) : Int) == 32) = decide (S[p]'hp = 32) := rune_eq hp 32 (by decide)
  have n9 : ((((Utf8.decode S p).1 : Nat) : Int) == 9) = decide (S[p]'hp = 9) := rune_eq hp 9 (by decide)
  have n13 : ((((Utf8.decode S p).1 : Nat) : Int) == 13) = decide (S[p]'hp = 13) := rune_eq hp 13 (by decide)
  have n34 : ((((Utf8.decode S p).1 : Nat) : Int) == 34) = decide (S[p]'hp = 34) := rune_eq hp 34 (by decide)
  have n59 : ((((Utf8.decode S p).1 : Nat) : Int) == 59) = decide (S[p]'hp = 59) := rune_eq hp 59 (by decide)
  have h24 := fun w => letter_any (((Utf8.decode S p).1 : Nat) : Int) w
  have h44 := fun w => digit_any (((Utf8.decode S p).1 : Nat) : Int) w
  rw [rune_ltr hp] at h24
  rw [rune_dgt hp] at h44
  have h58 := fun q w => Tryd.strings_HasPrefix (S.extract p S.size) q w
  have p1 : Lib.hasPrefix (S.extract p S.size).data.toList [47, 47] = decide (S[p]'hp = 47 ∧ (S.data.toList.drop (p + 1)).head? = some 47) := by rw [ext_drop, drop_cons S p hp, pre2]
  have p2 : Lib.hasPrefix (S.extract p S.size).data.toList [47, 42] = decide (S[p]'hp = 47 ∧ (S.data.toList.drop (p + 1)).head? = some 42) := by rw [ext_drop, drop_cons S p hp, pre2]
  have h61 := sign_call S p hp hS
  have hdc := drop_cons S p hp
  have HH : Hid (Rd w base R S s) := h
  generalize hc : (((Utf8.decode S p).1 : Nat) : Int) = c at *
  generalize hE : S.extract p S.size = E at *
  clear hc
  rw [decide_eq_false q10] at n10
  rw [decide_eq_false (fun e => qb (.inl e))] at n32
  rw [decide_eq_false (fun e => qb (.inr (.inl e)))] at n9
  rw [decide_eq_false (fun e => qb (.inr (.inr e)))] at n13
  rw [decide_eq_false q34] at n34
  rw [decide_eq_false q59] at n59
  rw [hnl] at h24
  rw [hnd] at h44
  rw [decide_eq_false qs] at p1
  rw [decide_eq_false ql] at p2
  have hpc := pcOf_sign (t := S.data.toList.drop (p + 1)) q10 qb hnl hnd q34 qs ql q59
  have hroom := sgn_room (S[p]'hp) (S.data.toList.drop (p + 1))
  rw [← hdc, List.length_drop, bal] at hroom
  rw [← hdc] at hpc
  generalize sgn (S[p]'hp) ((S.data.toList.drop (p + 1)).headD 0) (((S.data.toList.drop (p + 1)).drop 1).headD 0) = n at *
  subst hn
  have HPC : Hid (pcOf (S.data.toList.drop p) = .bad 0) := (by show _ = _; rw [hpc, if_pos rfl])
  clear h hdc hpc hroom q10 qb hnl hnd q34 qs ql q59
  go_enter Tryd.func48, Tryd.ntmps48
  go_wp2_with (first
    | (go_at_call 24; refine (h24 _).mono ?_; rintro e w1 ⟨rfl, hw1⟩; obtain rfl := hw1.symm)
    | (go_at_call 44; refine (h44 _).mono ?_; rintro e w1 ⟨rfl, hw1⟩; obtain rfl := hw1.symm)
    | (go_at_call 58; refine (h58 _ _).mono ?_; rintro e w1 ⟨rfl, hw1⟩; obtain rfl := hw1.symm)
    | (go_at_call 61; refine (h61 _).mono ?_; rintro e w1 ⟨rfl, hw1⟩; obtain rfl := hw1.symm)
    | (go_at_call 62; refine (wrongAt_any _ _).mono ?_; rintro e w1 ⟨rfl, rfl⟩)
    | fail)
  exact ⟨rfl, PP.bad HPC.out ⟨rfl, ((Below.refl _ _).alloc (Nat.le_refl _) _).mono (by omega)⟩⟩
set_option maxRecDepth 100000 in
set_option maxHeartbeats 2000000 in
theorem pc_sign_ok (w : World) (base R : Nat) (S : ByteArray) (s : St) (h : Rd w base R S s) (p : Nat) (hp : p < S.size) (hS : S.size ≤ 65536) (hl : s.toks.length ≤ 999999) (hl2 : s.rems.length ≤ 999999) (q10 : S[p]'hp ≠ 10) (qb : ¬ (S[p]'hp = 32 ∨ S[p]'hp = 9 ∨ S[p]'hp = 13)) (hnl : ltr (S[p]'hp) = false) (hnd : dgt (S[p]'hp) = false) (q34 : S[p]'hp ≠ 34) (qs : ¬ (S[p]'hp = 47 ∧ (S.data.toList.drop (p + 1)).head? = some 47)) (ql : ¬ (S[p]'hp = 47 ∧ (S.data.toList.drop (p + 1)).head? = some 42)) (q59 : S[p]'hp ≠ 59) (hn : sgn (S[p]'hp) ((S.data.toList.drop (p + 1)).headD 0) (((S.data.toList.drop (p + 1)).drop 1).headD 0) ≠ 0) :
    Calls Tryd.prog 48 #[.pointer (some ⟨R, 0, none⟩), .int .i64 p, .int .i32 (((Utf8.decode S p).1 : Nat) : Int)] w (PP w base R S s p (pcOf (S.data.toList.drop p))) := by
  have _u := And.intro hS (And.intro hl hl2)
  clear _u
  have c0 := h.cell0
  have hlt := h.lt
  have hle := h.le
  have z1 : (0 : Int) ≤ (p : Int) := by omega
  have z2 : (p : Int) ≤ (S.size : Int) := by omega
  have n10 : ((((Utf8.decode S p).1 : Nat) : Int) == 10) = decide (S[p]'hp = 10) := rune_eq hp 10 (by decide)
  have n32 : ((((Utf8.decode S p).1 : Nat) : Int) == 32) = decide (S[p]'hp = 32) := rune_eq hp 32 (by decide)
  have n9 : ((((Utf8.decode S p).1 : Nat) : Int) == 9) = decide (S[p]'hp = 9) := rune_eq hp 9 (by decide)
  have n13 : ((((Utf8.decode S p).1 : Nat) : Int) == 13) = decide (S[p]'hp = 13) := rune_eq hp 13 (by decide)
  have n34 : ((((Utf8.decode S p).1 : Nat) : Int) == 34) = decide (S[p]'hp = 34) := rune_eq hp 34 (by decide)
  have n59 : ((((Utf8.decode S p).1 : Nat) : Int) == 59) = decide (S[p]'hp = 59) := rune_eq hp 59 (by decide)
  have h24 := fun w => letter_any (((Utf8.decode S p).1 : Nat) : Int) w
  have h44 := fun w => digit_any (((Utf8.decode S p).1 : Nat) : Int) w
  rw [rune_ltr hp] at h24
  rw [rune_dgt hp] at h44
  have h58 := fun q w => Tryd.strings_HasPrefix (S.extract p S.size) q w
  have p1 : Lib.hasPrefix (S.extract p S.size).data.toList [47, 47] = decide (S[p]'hp = 47 ∧ (S.data.toList.drop (p + 1)).head? = some 47) := by rw [ext_drop, drop_cons S p hp, pre2]
  have p2 : Lib.hasPrefix (S.extract p S.size).data.toList [47, 42] = decide (S[p]'hp = 47 ∧ (S.data.toList.drop (p + 1)).head? = some 42) := by rw [ext_drop, drop_cons S p hp, pre2]
  have h61 := sign_call S p hp hS
  have hdc := drop_cons S p hp
  have HH : Hid (Rd w base R S s) := h
  generalize hc : (((Utf8.decode S p).1 : Nat) : Int) = c at *
  generalize hE : S.extract p S.size = E at *
  clear hc
  rw [decide_eq_false q10] at n10
  rw [decide_eq_false (fun e => qb (.inl e))] at n32
  rw [decide_eq_false (fun e => qb (.inr (.inl e)))] at n9
  rw [decide_eq_false (fun e => qb (.inr (.inr e)))] at n13
  rw [decide_eq_false q34] at n34
  rw [decide_eq_false q59] at n59
  rw [hnl] at h24
  rw [hnd] at h44
  rw [decide_eq_false qs] at p1
  rw [decide_eq_false ql] at p2
  have hpc := pcOf_sign (t := S.data.toList.drop (p + 1)) q10 qb hnl hnd q34 qs ql q59
  have hroom := sgn_room (S[p]'hp) (S.data.toList.drop (p + 1))
  rw [← hdc, List.length_drop, bal] at hroom
  rw [← hdc] at hpc
  generalize sgn (S[p]'hp) ((S.data.toList.drop (p + 1)).headD 0) (((S.data.toList.drop (p + 1)).drop 1).headD 0) = n at *
  rw [if_neg hn] at hpc
  have hr := hroom hn
  have nz : ((n : Int) == 0) = false := nat_bne hn
  have HPC : Hid (pcOf (S.data.toList.drop p) = .tok 5 n ((S.data.toList.drop p).take n)) := hpc
  have h50 := add_any w base R S s h 5 p (p + n) (by omega) (by omega) (by omega)
  rw [ext_tok] at h50
  have zc : ((p + n : Nat) : Int) = (p : Int) + (n : Int) := by omega
  have HZ : Hid (((p + n : Nat) : Int) = (p : Int) + (n : Int)) := zc
  have z5 : IntKind.i64.wrap ((p : Int) + (n : Int)) = (p : Int) + (n : Int) := wrap_small _ (by omega) (by omega)
  have h50 : Calls Tryd.prog 50 #[.pointer (some ⟨R, 0, none⟩), .int .i64 5, .int .i64 p, .int .i64 ((p : Int) + (n : Int))] w (AddP w base R S (stp p s (.tok 5 n ((S.data.toList.drop p).take n))) (.int .i64 ((p + n : Nat) : Int))) := by rw [← zc]; exact h50
  clear zc h hdc hpc hroom hn q10 qb hnl hnd q34 qs ql q59 hr
  go_enter Tryd.func48, Tryd.ntmps48
  go_wp2_with (first
    | (go_at_call 24; refine (h24 _).mono ?_; rintro e w1 ⟨rfl, hw1⟩; obtain rfl := hw1.symm)
    | (go_at_call 44; refine (h44 _).mono ?_; rintro e w1 ⟨rfl, hw1⟩; obtain rfl := hw1.symm)
    | (go_at_call 58; refine (h58 _ _).mono ?_; rintro e w1 ⟨rfl, hw1⟩; obtain rfl := hw1.symm)
    | (go_at_call 61; refine (h61 _).mono ?_; rintro e w1 ⟨rfl, hw1⟩; obtain rfl := hw1.symm)
    | (go_at_call 62; refine (wrongAt_any _ _).mono ?_; rintro e w1 ⟨rfl, rfl⟩)
    | (go_at_call 50; refine (h50).mono ?_; intro e w3 h3; obtain rfl := h3.ret; have H3 : Hid _ := h3; clear h3))
  go_ret
  exact PP.ok HPC.out (fun o h => by cases h) H3.out
end Go.Proofs.YtmfdfkbcommjfaaDoor
