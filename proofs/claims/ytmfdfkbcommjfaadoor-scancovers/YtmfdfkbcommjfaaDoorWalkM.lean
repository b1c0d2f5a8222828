/-
  piece of the reader, walked: names, ints, strings, remarks, signs.
-/
import Derived.Test.YtmfdfkbcommjfaaDoorWalkL
namespace Go.Proofs.YtmfdfkbcommjfaaDoor
open Go.RowKit
attribute [local go_sem ↓] Go.wp_at_zero Go.wp_at_succ
theorem pcOf_name {b : UInt8} {t : List UInt8} (h1 : b ≠ 10) (h2 : ¬ (b = 32 ∨ b = 9 ∨ b = 13)) (hb : ltr b = true) : pcOf (b :: t) = if 60 < run lod (b :: t) then .bad 0 else .tok (if word ((b :: t).take (run lod (b :: t))) then 4 else 1) (run lod (b :: t)) ((b :: t).take (run lod (b :: t))) := by
  simp only [pcOf]; rw [if_neg h1, if_neg h2, if_pos hb]
theorem pcOf_num {b : UInt8} {t : List UInt8} (h1 : b ≠ 10) (h2 : ¬ (b = 32 ∨ b = 9 ∨ b = 13)) (hl : ltr b = false) (hb : dgt b = true) : pcOf (b :: t) = if numBad (b :: t) (run dgt (b :: t)) = true then .bad 0 else .tok 2 (run dgt (b :: t)) ((b :: t).take (run dgt (b :: t))) := by
  simp only [pcOf]; rw [if_neg h1, if_neg h2, if_neg (by rw [hl]; decide), if_pos hb]
theorem pcOf_str {t : List UInt8} : pcOf (34 :: t) = (match strL t false 1 [] with | .error o => .bad o | .ok (n, x) => .tok 3 n x) := rfl
theorem pcOf_short {t : List UInt8} (h : t.head? = some 47) : pcOf (47 :: t) = .rmk (run notNl (47 :: t)) false := by
  show (if (47 : UInt8) = 47 ∧ t.head? = some 47 then _ else _) = _
  rw [if_pos ⟨rfl, h⟩]
theorem pcOf_long {t : List UInt8} (h : t.head? = some 42) : pcOf (47 :: t) = (match endOf (t.drop 1) with | none => .bad 0 | some k => .rmk (k + 4) (((t.drop 1).take k).contains 10)) := by
  show (if (47 : UInt8) = 47 ∧ t.head? = some 47 then _ else if (47 : UInt8) = 47 ∧ t.head? = some 42 then _ else _) = _
  rw [if_neg (by rw [h]; decide), if_pos ⟨rfl, h⟩]
  rfl
theorem pcOf_semi {t : List UInt8} : pcOf (59 :: t) = .tok 6 1 [59] := rfl
theorem pcOf_sign {b : UInt8} {t : List UInt8} (h1 : b ≠ 10) (h2 : ¬ (b = 32 ∨ b = 9 ∨ b = 13)) (hl : ltr b = false) (hd : dgt b = false) (h3 : b ≠ 34) (h4 : ¬ (b = 47 ∧ t.head? = some 47)) (h5 : ¬ (b = 47 ∧ t.head? = some 42)) (h6 : b ≠ 59) :
    pcOf (b :: t) = if sgn b (t.headD 0) ((t.drop 1).headD 0) = 0 then .bad 0 else .tok 5 (sgn b (t.headD 0) ((t.drop 1).headD 0)) ((b :: t).take (sgn b (t.headD 0) ((t.drop 1).headD 0))) := by
  simp only [pcOf]; rw [if_neg h1, if_neg h2, if_neg (by rw [hl]; decide), if_neg (by rw [hd]; decide), if_neg h3, if_neg h4, if_neg h5, if_neg h6]
theorem sgn_room (b : UInt8) (t : List UInt8) (h : sgn b (t.headD 0) ((t.drop 1).headD 0) ≠ 0) : sgn b (t.headD 0) ((t.drop 1).headD 0) ≤ (b :: t).length := by
  match t with
  | [] => simp only [List.headD_nil, List.drop_nil, List.length_cons, List.length_nil]; unfold sgn; repeat' split
          all_goals first | omega | (exfalso; simp_all; done) | (exfalso; rename_i q1 q2; rcases q1 with q1 | q1 <;> (rw [q1] at q2; exact absurd q2 (by decide)))
  | [c] => simp only [List.headD_cons, List.drop_succ_cons, List.drop_zero, List.headD_nil, List.length_cons, List.length_nil]; unfold sgn; repeat' split
           all_goals first | omega | (exfalso; simp_all; done)
  | c :: d :: t => simp only [List.headD_cons, List.drop_succ_cons, List.drop_zero, List.length_cons]; unfold sgn; repeat' split
                   all_goals omega
set_option maxRecDepth 100000 in
set_option maxHeartbeats 2000000 in
theorem pc_name_bad (w : World) (base R : Nat) (S : ByteArray) (s : St) (h : Rd w base R S s) (p : Nat) (hp : p < S.size) (hS : S.size ≤ 65536) (hl : s.toks.length ≤ 999999) (hl2 : s.rems.length ≤ 999999) (hb : ltr (S[p]'hp) = true) (hn : 60 < run lod (S.data.toList.drop p)) :
    Calls Tryd.prog 48 #[.pointer (some ⟨R, 0, none⟩), .int .i64 p, .int .i32 (((Utf8.decode S p).1 : Nat) : Int)] w (PP w base R S s p (pcOf (S.data.toList.drop p))) := by
  have _u := And.intro hS (And.intro hl hl2)
  clear _u
  have c0 := h.cell0
  have hlt := h.lt
  have hle := h.le
  have z1 : (0 : Int) ≤ (p : Int) := by omega
  have z2 : (p : Int) ≤ (S.size : Int) := by omega
  have n10 : ((((Utf8.decode S p).1 : Nat) : Int) == 10) = decide (S[p]'hp = 10) := rune_eq hp 10 (by decide)
  have n32 : ((((Utf8.decode S p).1 : Nat) : Int) == 32) = decide (S[p]'hp = 32) := rune_eq hp 32 (by decide)
  have n9 : ((((Utf8.decode S p).1 : Nat) : Int) == 9) = decide (S[p]'hp = 9) := rune_eq hp 9 (by decide)
  have n13 : ((((Utf8.decode S p).1 : Nat) : Int) == 13) = decide (S[p]'hp = 13) := rune_eq hp 13 (by decide)
  have n34 : ((((Utf8.decode S p).1 : Nat) : Int) == 34) = decide (S[p]'hp = 34) := rune_eq hp 34 (by decide)
  have n59 : ((((Utf8.decode S p).1 : Nat) : Int) == 59) = decide (S[p]'hp = 59) := rune_eq hp 59 (by decide)
  have h24 := fun w => letter_any (((Utf8.decode S p).1 : Nat) : Int) w
  have h44 := fun w => digit_any (((Utf8.decode S p).1 : Nat) : Int) w
  rw [rune_ltr hp] at h24
  rw [rune_dgt hp] at h44
  have h58 := fun q w => Tryd.strings_HasPrefix (S.extract p S.size) q w
  have p1 : Lib.hasPrefix (S.extract p S.size).data.toList [47, 47] = decide (S[p]'hp = 47 ∧ (S.data.toList.drop (p + 1)).head? = some 47) := by rw [ext_drop, drop_cons S p hp, pre2]
  have p2 : Lib.hasPrefix (S.extract p S.size).data.toList [47, 42] = decide (S[p]'hp = 47 ∧ (S.data.toList.drop (p + 1)).head? = some 42) := by rw [ext_drop, drop_cons S p hp, pre2]
  have h61 := sign_call S p hp hS
  have hdc := drop_cons S p hp
  have HH : Hid (Rd w base R S s) := h
  generalize hc : (((Utf8.decode S p).1 : Nat) : Int) = c at *
  generalize hE : S.extract p S.size = E at *
  clear hc
  have hq : ∀ x : UInt8, ltr x = false → S[p]'hp ≠ x := fun x hx e => by rw [e, hx] at hb; cases hb
  rw [decide_eq_false (hq 10 (by decide))] at n10
  rw [decide_eq_false (hq 32 (by decide))] at n32
  rw [decide_eq_false (hq 9 (by decide))] at n9
  rw [decide_eq_false (hq 13 (by decide))] at n13
  rw [hb] at h24
  have h55 := name_long w base R S s h p (by omega) hS hn
  have HPC : Hid (pcOf (S.data.toList.drop p) = .bad 0) := by
    show _ = _
    rw [hdc] at hn ⊢
    rw [pcOf_name (hq 10 (by decide)) (fun e => e.elim (hq 32 (by decide)) (fun e => e.elim (hq 9 (by decide)) (hq 13 (by decide)))) hb, if_pos hn]
  clear h n34 n59 p1 p2 hdc hb hn hq
  go_enter Tryd.func48, Tryd.ntmps48
  go_wp2_with (first
    | (go_at_call 24; refine (h24 _).mono ?_; rintro e w1 ⟨rfl, hw1⟩; obtain rfl := hw1.symm)
    | (go_at_call 44; refine (h44 _).mono ?_; rintro e w1 ⟨rfl, hw1⟩; obtain rfl := hw1.symm)
    | (go_at_call 58; refine (h58 _ _).mono ?_; rintro e w1 ⟨rfl, hw1⟩; obtain rfl := hw1.symm)
    | (go_at_call 61; refine (h61 _).mono ?_; rintro e w1 ⟨rfl, hw1⟩; obtain rfl := hw1.symm)
    | (go_at_call 62; refine (wrongAt_any _ _).mono ?_; rintro e w1 ⟨rfl, rfl⟩)
    | (go_at_call 55; refine (h55).mono ?_; intro e w3 h3; obtain rfl := h3.pan; have H3 : Hid _ := h3; clear h3))
  exact ⟨rfl, PP.bad HPC.out ⟨rfl, H3.out.bl⟩⟩
set_option maxRecDepth 100000 in
set_option maxHeartbeats 2000000 in
theorem pc_name_ok (w : World) (base R : Nat) (S : ByteArray) (s : St) (h : Rd w base R S s) (p : Nat) (hp : p < S.size) (hS : S.size ≤ 65536) (hl : s.toks.length ≤ 999999) (hl2 : s.rems.length ≤ 999999) (hb : ltr (S[p]'hp) = true) (hn : ¬ 60 < run lod (S.data.toList.drop p)) :
    Calls Tryd.prog 48 #[.pointer (some ⟨R, 0, none⟩), .int .i64 p, .int .i32 (((Utf8.decode S p).1 : Nat) : Int)] w (PP w base R S s p (pcOf (S.data.toList.drop p))) := by
  have _u := And.intro hS (And.intro hl hl2)
  clear _u
  have c0 := h.cell0
  have hlt := h.lt
  have hle := h.le
  have z1 : (0 : Int) ≤ (p : Int) := by omega
  have z2 : (p : Int) ≤ (S.size : Int) := by omega
  have n10 : ((((Utf8.decode S p).1 : Nat) : Int) == 10) = decide (S[p]'hp = 10) := rune_eq hp 10 (by decide)
  have n32 : ((((Utf8.decode S p).1 : Nat) : Int) == 32) = decide (S[p]'hp = 32) := rune_eq hp 32 (by decide)
  have n9 : ((((Utf8.decode S p).1 : Nat) : Int) == 9) = decide (S[p]'hp = 9) := rune_eq hp 9 (by decide)
  have n13 : ((((Utf8.decode S p).1 : Nat) : Int) == 13) = decide (S[p]'hp = 13) := rune_eq hp 13 (by decide)
  have n34 : ((((Utf8.decode S p).1 : Nat) : Int) == 34) = decide (S[p]'hp = 34) := rune_eq hp 34 (by decide)
  have n59 : ((((Utf8.decode S p).1 : Nat) : Int) == 59) = decide (S[p]'hp = 59) := rune_eq hp 59 (by decide)
  have h24 := fun w => letter_any (((Utf8.decode S p).1 : Nat) : Int) w
  have h44 := fun w => digit_any (((Utf8.decode S p).1 : Nat) : Int) w
  rw [rune_ltr hp] at h24
  rw [rune_dgt hp] at h44
  have h58 := fun q w => Tryd.strings_HasPrefix (S.extract p S.size) q w
  have p1 : Lib.hasPrefix (S.extract p S.size).data.toList [47, 47] = decide (S[p]'hp = 47 ∧ (S.data.toList.drop (p + 1)).head? = some 47) := by rw [ext_drop, drop_cons S p hp, pre2]
  have p2 : Lib.hasPrefix (S.extract p S.size).data.toList [47, 42] = decide (S[p]'hp = 47 ∧ (S.data.toList.drop (p + 1)).head? = some 42) := by rw [ext_drop, drop_cons S p hp, pre2]
  have h61 := sign_call S p hp hS
  have hdc := drop_cons S p hp
  have HH : Hid (Rd w base R S s) := h
  generalize hc : (((Utf8.decode S p).1 : Nat) : Int) = c at *
  generalize hE : S.extract p S.size = E at *
  clear hc
  have hq : ∀ x : UInt8, ltr x = false → S[p]'hp ≠ x := fun x hx e => by rw [e, hx] at hb; cases hb
  rw [decide_eq_false (hq 10 (by decide))] at n10
  rw [decide_eq_false (hq 32 (by decide))] at n32
  rw [decide_eq_false (hq 9 (by decide))] at n9
  rw [decide_eq_false (hq 13 (by decide))] at n13
  rw [hb] at h24
  have h55 := name_ok w base R S s h p (by omega) hS (by omega) hn
  have HPC : Hid (pcOf (S.data.toList.drop p) = .tok (if word ((S.data.toList.drop p).take (run lod (S.data.toList.drop p))) then 4 else 1) (run lod (S.data.toList.drop p)) ((S.data.toList.drop p).take (run lod (S.data.toList.drop p)))) := by
    show _ = _
    rw [hdc] at hn ⊢
    rw [pcOf_name (hq 10 (by decide)) (fun e => e.elim (hq 32 (by decide)) (fun e => e.elim (hq 9 (by decide)) (hq 13 (by decide)))) hb, if_neg hn]
  clear h n34 n59 p1 p2 hdc hb hn hq
  go_enter Tryd.func48, Tryd.ntmps48
  go_wp2_with (first
    | (go_at_call 24; refine (h24 _).mono ?_; rintro e w1 ⟨rfl, hw1⟩; obtain rfl := hw1.symm)
    | (go_at_call 44; refine (h44 _).mono ?_; rintro e w1 ⟨rfl, hw1⟩; obtain rfl := hw1.symm)
    | (go_at_call 58; refine (h58 _ _).mono ?_; rintro e w1 ⟨rfl, hw1⟩; obtain rfl := hw1.symm)
    | (go_at_call 61; refine (h61 _).mono ?_; rintro e w1 ⟨rfl, hw1⟩; obtain rfl := hw1.symm)
    | (go_at_call 62; refine (wrongAt_any _ _).mono ?_; rintro e w1 ⟨rfl, rfl⟩)
    | (go_at_call 55; refine (h55).mono ?_; intro e w3 h3; obtain rfl := h3.ret; have H3 : Hid _ := h3; clear h3))
  go_ret
  exact PP.ok HPC.out (fun o h => by cases h) H3.out
set_option maxRecDepth 100000 in
set_option maxHeartbeats 2000000 in
theorem pc_num_bad (w : World) (base R : Nat) (S : ByteArray) (s : St) (h : Rd w base R S s) (p : Nat) (hp : p < S.size) (hS : S.size ≤ 65536) (hl : s.toks.length ≤ 999999) (hl2 : s.rems.length ≤ 999999) (hnl : ltr (S[p]'hp) = false) (hb : dgt (S[p]'hp) = true) (hn : numBad (S.data.toList.drop p) (run dgt (S.data.toList.drop p)) = true) :
    Calls Tryd.prog 48 #[.pointer (some ⟨R, 0, none⟩), .int .i64 p, .int .i32 (((Utf8.decode S p).1 : Nat) : Int)] w (PP w base R S s p (pcOf (S.data.toList.drop p))) := by
  have _u := And.intro hS (And.intro hl hl2)
  clear _u
  have c0 := h.cell0
  have hlt := h.lt
  have hle := h.le
  have z1 : (0 : Int) ≤ (p : Int) := by omega
  have z2 : (p : Int) ≤ (S.size : Int) := by omega
  have n10 : ((((Utf8.decode S p).1 : Nat) : Int) == 10) = decide (S[p]'hp = 10) := rune_eq hp 10 (by decide)
  have n32 : ((((Utf8.decode S p).1 : Nat) : Int) == 32) = decide (S[p]'hp = 32) := rune_eq hp 32 (by decide)
  have n9 : ((((Utf8.decode S p).1 : Nat) : Int) == 9) = decide (S[p]'hp = 9) := rune_eq hp 9 (by decide)
  have n13 : ((((Utf8.decode S p).1 : Nat) : Int) == 13) = decide (S[p]'hp = 13) := rune_eq hp 13 (by decide)
  have n34 : ((((Utf8.decode S p).1 : Nat) : Int) == 34) = decide (S[p]'hp = 34) := rune_eq hp 34 (by decide)
  have n59 : ((((Utf8.decode S p).1 : Nat) : Int) == 59) = decide (S[p]'hp = 59) := rune_eq hp 59 (by decide)
  have h24 := fun w => letter_any (((Utf8.decode S p).1 : Nat) : Int) w
  have h44 := fun w => digit_any (((Utf8.decode S p).1 : Nat) : Int) w
  rw [rune_ltr hp] at h24
  rw [rune_dgt hp] at h44
  have h58 := fun q w => Tryd.strings_HasPrefix (S.extract p S.size) q w
  have p1 : Lib.hasPrefix (S.extract p S.size).data.toList [47, 47] = decide (S[p]'hp = 47 ∧ (S.data.toList.drop (p + 1)).head? = some 47) := by rw [ext_drop, drop_cons S p hp, pre2]
  have p2 : Lib.hasPrefix (S.extract p S.size).data.toList [47, 42] = decide (S[p]'hp = 47 ∧ (S.data.toList.drop (p + 1)).head? = some 42) := by rw [ext_drop, drop_cons S p hp, pre2]
  have h61 := sign_call S p hp hS
  have hdc := drop_cons S p hp
  have HH : Hid (Rd w base R S s) := h
  generalize hc : (((Utf8.decode S p).1 : Nat) : Int) = c at *
  generalize hE : S.extract p S.size = E at *
  clear hc
  have hq : ∀ x : UInt8, dgt x = false → S[p]'hp ≠ x := fun x hx e => by rw [e, hx] at hb; cases hb
  rw [decide_eq_false (hq 10 (by decide))] at n10
  rw [decide_eq_false (hq 32 (by decide))] at n32
  rw [decide_eq_false (hq 9 (by decide))] at n9
  rw [decide_eq_false (hq 13 (by decide))] at n13
  rw [hnl] at h24
  rw [hb] at h44
  have h56 := num_bad w base R S s h p hp hS hn
  have HPC : Hid (pcOf (S.data.toList.drop p) = .bad 0) := by
    show _ = _
    rw [hdc] at hn ⊢
    rw [pcOf_num (hq 10 (by decide)) (fun e => e.elim (hq 32 (by decide)) (fun e => e.elim (hq 9 (by decide)) (hq 13 (by decide)))) hnl hb, if_pos hn]
  clear h n34 n59 p1 p2 hdc hb hn hq hnl
  go_enter Tryd.func48, Tryd.ntmps48
  go_wp2_with (first
    | (go_at_call 24; refine (h24 _).mono ?_; rintro e w1 ⟨rfl, hw1⟩; obtain rfl := hw1.symm)
    | (go_at_call 44; refine (h44 _).mono ?_; rintro e w1 ⟨rfl, hw1⟩; obtain rfl := hw1.symm)
    | (go_at_call 58; refine (h58 _ _).mono ?_; rintro e w1 ⟨rfl, hw1⟩; obtain rfl := hw1.symm)
    | (go_at_call 61; refine (h61 _).mono ?_; rintro e w1 ⟨rfl, hw1⟩; obtain rfl := hw1.symm)
    | (go_at_call 62; refine (wrongAt_any _ _).mono ?_; rintro e w1 ⟨rfl, rfl⟩)
    | (go_at_call 56; refine (h56).mono ?_; intro e w3 h3; obtain rfl := h3.pan; have H3 : Hid _ := h3; clear h3))
  exact ⟨rfl, PP.bad HPC.out ⟨rfl, H3.out.bl⟩⟩
set_option maxRecDepth 100000 in
set_option maxHeartbeats 2000000 in
theorem pc_num_ok (w : World) (base R : Nat) (S : ByteArray) (s : St) (h : Rd w base R S s) (p : Nat) (hp : p < S.size) (hS : S.size ≤ 65536) (hl : s.toks.length ≤ 999999) (hl2 : s.rems.length ≤ 999999) (hnl : ltr (S[p]'hp) = false) (hb : dgt (S[p]'hp) = true) (hn : numBad (S.data.toList.drop p) (run dgt (S.data.toList.drop p)) = false) :
    Calls Tryd.prog 48 #[.pointer (some ⟨R, 0, none⟩), .int .i64 p, .int .i32 (((Utf8.decode S p).1 : Nat) : Int)] w (PP w base R S s p (pcOf (S.data.toList.drop p))) := by
  have _u := And.intro hS (And.intro hl hl2)
  clear _u
  have c0 := h.cell0
  have hlt := h.lt
  have hle := h.le
  have z1 : (0 : Int) ≤ (p : Int) := by omega
  have z2 : (p : Int) ≤ (S.size : Int) := by omega
  have n10 : ((((Utf8.decode S p).1 : Nat) : Int) == 10) = decide (S[p]'hp = 10) := rune_eq hp 10 (by decide)
  have n32 : ((((Utf8.decode S p).1 : Nat) : Int) == 32) = decide (S[p]'hp = 32) := rune_eq hp 32 (by decide)
  have n9 : ((((Utf8.decode S p).1 : Nat) : Int) == 9) = decide (S[p]'hp = 9) := rune_eq hp 9 (by decide)
  have n13 : ((((Utf8.decode S p).1 : Nat) : Int) == 13) = decide (S[p]'hp = 13) := rune_eq hp 13 (by decide)
  have n34 : ((((Utf8.decode S p).1 : Nat) : Int) == 34) = decide (S[p]'hp = 34) := rune_eq hp 34 (by decide)
  have n59 : ((((Utf8.decode S p).1 : Nat) : Int) == 59) = decide (S[p]'hp = 59) := rune_eq hp 59 (by decide)
  have h24 := fun w => letter_any (((Utf8.decode S p).1 : Nat) : Int) w
  have h44 := fun w => digit_any (((Utf8.decode S p).1 : Nat) : Int) w
  rw [rune_ltr hp] at h24
  rw [rune_dgt hp] at h44
  have h58 := fun q w => Tryd.strings_HasPrefix (S.extract p S.size) q w
  have p1 : Lib.hasPrefix (S.extract p S.size).data.toList [47, 47] = decide (S[p]'hp = 47 ∧ (S.data.toList.drop (p + 1)).head? = some 47) := by rw [ext_drop, drop_cons S p hp, pre2]
  have p2 : Lib.hasPrefix (S.extract p S.size).data.toList [47, 42] = decide (S[p]'hp = 47 ∧ (S.data.toList.drop (p + 1)).head? = some 42) := by rw [ext_drop, drop_cons S p hp, pre2]
  have h61 := sign_call S p hp hS
  have hdc := drop_cons S p hp
  have HH : Hid (Rd w base R S s) := h
  generalize hc : (((Utf8.decode S p).1 : Nat) : Int) = c at *
  generalize hE : S.extract p S.size = E at *
  clear hc
  have hq : ∀ x : UInt8, dgt x = false → S[p]'hp ≠ x := fun x hx e => by rw [e, hx] at hb; cases hb
  rw [decide_eq_false (hq 10 (by decide))] at n10
  rw [decide_eq_false (hq 32 (by decide))] at n32
  rw [decide_eq_false (hq 9 (by decide))] at n9
  rw [decide_eq_false (hq 13 (by decide))] at n13
  rw [hnl] at h24
  rw [hb] at h44
  have h56 := num_ok w base R S s h p hp hS (by omega) hn
  have HPC : Hid (pcOf (S.data.toList.drop p) = .tok 2 (run dgt (S.data.toList.drop p)) ((S.data.toList.drop p).take (run dgt (S.data.toList.drop p)))) := by
    show _ = _
    rw [hdc] at hn ⊢
    rw [pcOf_num (hq 10 (by decide)) (fun e => e.elim (hq 32 (by decide)) (fun e => e.elim (hq 9 (by decide)) (hq 13 (by decide)))) hnl hb, if_neg (by rw [hn]; decide)]
  clear h n34 n59 p1 p2 hdc hb hn hq hnl
  go_enter Tryd.func48, Tryd.ntmps48
  go_wp2_with (first
    | (go_at_call 24; refine (h24 _).mono ?_; rintro e w1 ⟨rfl, hw1⟩; obtain rfl := hw1.symm)
    | (go_at_call 44; refine (h44 _).mono ?_; rintro e w1 ⟨rfl, hw1⟩; obtain rfl := hw1.symm)
    | (go_at_call 58; refine (h58 _ _).mono ?_; rintro e w1 ⟨rfl, hw1⟩; obtain rfl := hw1.symm)
    | (go_at_call 61; refine (h61 _).mono ?_; rintro e w1 ⟨rfl, hw1⟩; obtain rfl := hw1.symm)
    | (go_at_call 62; refine (wrongAt_any _ _).mono ?_; rintro e w1 ⟨rfl, rfl⟩)
    | (go_at_call 56; refine (h56).mono ?_; intro e w3 h3; obtain rfl := h3.ret; have H3 : Hid _ := h3; clear h3))
  go_ret
  exact PP.ok HPC.out (fun o h => by cases h) H3.out
end Go.Proofs.YtmfdfkbcommjfaaDoor
