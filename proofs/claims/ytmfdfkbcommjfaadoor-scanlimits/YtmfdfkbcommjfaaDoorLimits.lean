/-
  ScanLimits, called in memory that holds Go's tables of UTF-8 and any MaxLen: it returns true and leaves all that lay there as it was.
-/
import Derived.Test.YtmfdfkbcommjfaaDoorQuotes
namespace Go.Proofs.YtmfdfkbcommjfaaDoor
open Go.RowKit
attribute [local go_sem ↓] Go.wp_at_zero Go.wp_at_succ
/-- a name, a blank, an int, blanks -/
def limL (n d t : Nat) : List UInt8 := List.replicate n 97 ++ ([32] ++ (List.replicate d (55 : UInt8) ++ List.replicate t 32))
theorem lim_len (n d t : Nat) : (limL n d t).length = n + 1 + d + t := by simp [limL]; omega
theorem lim_mem {n d t : Nat} : ∀ x ∈ limL n d t, x = 97 ∨ x = 32 ∨ x = 55 := by
  intro x hx
  unfold limL at hx
  rcases List.mem_append.1 hx with hx | hx
  · exact .inl (List.eq_of_mem_replicate hx)
  rcases List.mem_append.1 hx with hx | hx
  · exact .inr (.inl (by simpa using hx))
  rcases List.mem_append.1 hx with hx | hx
  · exact .inr (.inr (List.eq_of_mem_replicate hx))
  · exact .inr (.inl (List.eq_of_mem_replicate hx))
theorem lim_ok (n d t : Nat) : okT (bsL (limL n d t)) = true := by
  have e : (bsL (limL n d t)).data.toList = limL n d t := by simp [bsL]
  rw [okT_iff, e]
  refine ⟨?_, fun x hx => ?_⟩
  · rw [Lib.validD_ascii (limL n d t).length (limL n d t) (fun x hx => ?_), List.drop_length]
    · rfl
    · rcases lim_mem x (List.mem_of_mem_take hx) with rfl | rfl | rfl <;> decide
  · rcases lim_mem x hx with rfl | rfl | rfl <;> decide
theorem run_rep {f : UInt8 → Bool} {b : UInt8} (hb : f b = true) (v : List UInt8) (hv : ∀ c, v.head? = some c → f c = false) (n : Nat) : run f (List.replicate n b ++ v) = n := by
  induction n with
  | zero =>
    cases v with
    | nil => rfl
    | cons c t => simp [run, hv c rfl]
  | succ n ih => rw [List.replicate_succ, List.cons_append]; simp only [run, hb, if_true, ih]
theorem scn_spaces (t : Nat) : ∀ (p : Nat) (s : St), ∃ st, scn (List.replicate t 32) 0 p s = .ok st := by
  induction t with
  | zero => intro p s; exact ⟨_, rfl⟩
  | succ t ih =>
    intro p s
    have e : pcOf (32 :: List.replicate t 32) = .blank := rfl
    rw [List.replicate_succ, scn_ok (by rw [e]; intro o h; cases h), e]
    exact ih _ _
theorem take_rep (n : Nat) (b : UInt8) (v : List UInt8) : (List.replicate n b ++ v).take n = List.replicate n b := by
  rw [List.take_append_of_le_length (by simp)]; simp
theorem drop_rep (n : Nat) (b : UInt8) (v : List UInt8) : (List.replicate n b ++ v).drop n = v := by
  rw [List.drop_append_of_le_length (by simp)]; simp
theorem lim_scn (n d t : Nat) (hn : 1 ≤ n) (hd : 1 ≤ d) : (∃ st, scn (limL n d t) 0 0 ⟨[], []⟩ = .ok st) ↔ n ≤ 60 ∧ d ≤ 200 := by
  have r1 : run lod (limL n d t) = n := run_rep (by decide) _ (fun c hc => by have : c = 32 := (Option.some.inj hc).symm; rw [this]; decide) n
  have hne : limL n d t ≠ [] := fun e => by have := lim_len n d t; rw [e] at this; simp at this; omega
  obtain ⟨n', rfl⟩ : ∃ n', n = n' + 1 := ⟨n - 1, by omega⟩
  obtain ⟨tl, htl⟩ : ∃ tl, limL (n' + 1) d t = 97 :: tl := ⟨_, by unfold limL; rw [List.replicate_succ, List.cons_append]⟩
  have p1 : pcOf (limL (n' + 1) d t) = if 60 < n' + 1 then .bad 0 else .tok (if word ((limL (n' + 1) d t).take (n' + 1)) then 4 else 1) (n' + 1) ((limL (n' + 1) d t).take (n' + 1)) := by
    rw [htl, pcOf_name (by decide) (by decide) (by decide), ← htl, r1]
  by_cases h60 : 60 < n' + 1
  · rw [if_pos h60] at p1
    constructor
    · rintro ⟨st, h⟩; exact absurd p1 (scn_not_bad hne h 0)
    · rintro ⟨h, _⟩; omega
  rw [if_neg h60] at p1
  have hd1 : (limL (n' + 1) d t).drop (n' + 1) = [32] ++ (List.replicate d (55 : UInt8) ++ List.replicate t 32) := drop_rep _ _ _
  rw [scn_piece hne (by rw [p1]; intro o h; cases h), p1]
  show (∃ st, scn ((limL (n' + 1) d t).drop (n' + 1)) 0 _ _ = .ok st) ↔ _
  rw [hd1]
  generalize stp 0 ⟨[], []⟩ _ = s1
  generalize 0 + Pc.len _ = q1
  have e2 : pcOf ([32] ++ (List.replicate d (55 : UInt8) ++ List.replicate t 32)) = .blank := rfl
  rw [scn_piece (by simp) (by rw [e2]; intro o h; cases h), e2]
  show (∃ st, scn (List.replicate d (55 : UInt8) ++ List.replicate t 32) 0 _ _ = .ok st) ↔ _
  generalize stp q1 s1 _ = s2
  generalize q1 + Pc.len _ = q2
  have r3 : run dgt (List.replicate d (55 : UInt8) ++ List.replicate t 32) = d := run_rep (by decide) _ (fun c hc => by
    cases t with
    | zero => cases hc
    | succ t => have : c = 32 := (Option.some.inj hc).symm; rw [this]; decide) d
  obtain ⟨d', rfl⟩ : ∃ d', d = d' + 1 := ⟨d - 1, by omega⟩
  have p3 : pcOf (List.replicate (d' + 1) (55 : UInt8) ++ List.replicate t 32) = if numBad (List.replicate (d' + 1) (55 : UInt8) ++ List.replicate t 32) (d' + 1) = true then .bad 0 else .tok 2 (d' + 1) ((List.replicate (d' + 1) (55 : UInt8) ++ List.replicate t 32).take (d' + 1)) := by
    have e : List.replicate (d' + 1) (55 : UInt8) ++ List.replicate t 32 = (55 : UInt8) :: (List.replicate d' (55 : UInt8) ++ List.replicate t 32) := by rw [List.replicate_succ, List.cons_append]
    rw [e, pcOf_num (by decide) (by decide) (by decide) (by decide), ← e, r3]
  have hnb : numBad (List.replicate (d' + 1) (55 : UInt8) ++ List.replicate t 32) (d' + 1) = decide (200 < d' + 1) := by
    unfold numBad
    rw [drop_rep]
    have h1 : (List.replicate (d' + 1) (55 : UInt8) ++ List.replicate t 32).head? = some 55 := by rw [List.replicate_succ]; rfl
    rw [h1]
    cases t with
    | zero => simp
    | succ t => rw [List.replicate_succ]; simp; intro h; exact absurd h (by decide)
  rw [hnb] at p3
  by_cases h200 : 200 < d' + 1
  · rw [if_pos (by simpa using h200)] at p3
    constructor
    · rintro ⟨st, h⟩; exact absurd p3 (scn_not_bad (by simp) h 0)
    · rintro ⟨_, h⟩; omega
  · rw [if_neg (by simpa using h200)] at p3
    rw [scn_piece (by simp) (by rw [p3]; intro o h; cases h), p3]
    refine ⟨fun _ => ⟨by omega, by omega⟩, fun _ => ?_⟩
    show ∃ st, scn ((List.replicate (d' + 1) (55 : UInt8) ++ List.replicate t 32).drop (d' + 1)) 0 _ _ = .ok st
    rw [drop_rep]
    exact scn_spaces t _ _
theorem lim_code (n d t : Nat) (hn : 1 ≤ n) (hd : 1 ≤ d) : roC (readOf (bsL (limL n d t))) = 0 ↔ n ≤ 60 ∧ d ≤ 200 ∧ n + 1 + d + t ≤ 65536 := by
  have hz : (bsL (limL n d t)).size = n + 1 + d + t := by rw [← lim_len]; simp [bsL, ByteArray.size]
  have e : (bsL (limL n d t)).data.toList = limL n d t := by simp [bsL]
  have hs := lim_scn n d t hn hd
  rw [readOf_eq, lim_ok, hz, e]
  by_cases h1 : 65536 < n + 1 + d + t
  · rw [if_pos h1]
    exact ⟨fun h => absurd h (by decide), fun h => absurd h1 (by omega)⟩
  · rw [if_neg h1, if_neg (by decide)]
    cases hq : scn (limL n d t) 0 0 ⟨[], []⟩ with
    | ok st => rw [hq] at hs; exact ⟨fun _ => (by have := hs.1 ⟨st, rfl⟩; omega), fun _ => rfl⟩
    | error o =>
      rw [hq] at hs
      exact ⟨fun h => absurd h (by show ¬ (3 : Nat) = 0; omega), fun h => (by obtain ⟨st, h2⟩ := hs.2 ⟨h.1, h.2.1⟩; cases h2)⟩
theorem rep_snoc (pre : List UInt8) (k : Nat) (b : UInt8) : bC (pre ++ List.replicate (k + 1) b) = bC (pre ++ List.replicate k b) ++ [.int .u8 (b.toNat : Int)] := by
  rw [← bC_snoc]
  congr 1
  rw [List.append_assoc, List.replicate_succ']
theorem lim_eq (n d t : Nat) : List.replicate n 97 ++ [32] ++ List.replicate d 55 ++ List.replicate t 32 = limL n d t := by simp [limL]
set_option maxRecDepth 100000 in
set_option maxHeartbeats 4000000 in
theorem lim_in (n d t : Nat) (w : World) (hM : Mem w) (hn : 1 ≤ n) (hn2 : n ≤ 70) (hd : 1 ≤ d) (hd2 : d ≤ 210) (ht2 : t ≤ 66000) : Calls Tryd.prog 6 #[.int .i64 n, .int .i64 d, .int .i64 t] w fun e w' => e = .returned (.bool true) ∧ Below w.heap.size w w' := by
  have k1 : ¬ (n : Int) < 1 := by omega
  have k2 : ¬ (70 : Int) < (n : Int) := by omega
  have k3 : ¬ (d : Int) < 1 := by omega
  have k4 : ¬ (210 : Int) < (d : Int) := by omega
  have k5 : ¬ (t : Int) < 0 := by omega
  have k6 : ¬ (66000 : Int) < (t : Int) := by omega
  have HM : Hid (Mem w) := hM
  obtain ⟨i5, i1, i2, i3, i4⟩ := info5_ex
  have HI : Hid (Tryd.prog.info? 5 = some i5 ∧ i5.zero = some (.int .u8 0) ∧ i5.size = 1 ∧ i5.bytes = 1) := ⟨i1, i2, i3, i4⟩
  clear hM i1 i2 i3 i4
  go_enter Tryd.func6, Tryd.ntmps6
  go_wp2_with fail
  go_loopw [7, 8] (fun ub ui wr => ∃ k : Nat, k ≤ n ∧ ui = .int .i64 k ∧ Below w.heap.size w wr ∧ wr.ownsRow w.heap.size 5 1 ub k (bC ([] ++ List.replicate k 97))) (fun _ ui _ => n - (intOf ui).toNat)
  case atStart => exact ⟨0, Nat.zero_le _, rfl, Below.refl _ _, World.ownsRow_nil _ _ _ _⟩
  case round =>
    obtain ⟨k, hk, rfl, hbl, hown⟩ := hrel
    have HB1 : Hid (Below w.heap.size w wr) := hbl
    have HO1 : Hid (wr.ownsRow w.heap.size 5 1 u7 k (bC ([] ++ List.replicate k 97))) := hown
    have hsz := hbl.size
    clear hbl hown
    by_cases hkc : k < n
    · have z1 : (k : Int) < (n : Int) := by omega
      go_wp2_with (at_builtin; refine wpList_append_lies _ (by rfl) _ _ _ (by rfl) w.heap.size 5 i5 _ 1 1 Tryd.underlying34 HI.out.1 HI.out.2.1 HI.out.2.2.1 HI.out.2.2.2 rfl (by omega) u7 k (bC ([] ++ List.replicate k 97)) (by rfl) (HO1.out.alloc _) ⟨wr.heap.size, 0, none⟩ 1 1 [.int .u8 97] (by rfl) (by rfl) (World.news_of_block (heap_alloc_new wr _)) (by simp [Value.oneCell']) (by omega) (by unfold maxLen; omega) (by omega) (by simp; omega) (wr.heap.size + 1) (by simp) ?_; intro gg cap w9 hown1 hgrow hat hlt1; have HW9 : Hid (w9.ownsRow w.heap.size 5 1 (.slice (some ⟨gg, 0, none⟩) (k + 1) cap) (k + 1) ((bC ([] ++ List.replicate k 97)) ++ [.int .u8 97])) := hown1; have HB9 : Hid (Below w.heap.size w w9) := ((HB1.out.alloc (by omega) _).grown hgrow (by simp; omega) (fun k hk => (own_blk HO1.out hk).1)); have hz9 := HB9.out.size; clear hown1 hgrow hat hlt1)
      go_roundw
      case rel => exact ⟨k + 1, by omega, by go_num, HB9.out, (by rw [rep_snoc]; exact HW9.out)⟩
      case measure => simp [intOf]; omega
    · have z1 : ¬ (k : Int) < (n : Int) := by omega
      have hkc2 : k = n := by omega
      rw [hkc2] at HO1
      go_wp2_with (at_builtin; refine wpList_append_lies _ (by rfl) _ _ _ (by rfl) w.heap.size 5 i5 _ 1 1 Tryd.underlying34 HI.out.1 HI.out.2.1 HI.out.2.2.1 HI.out.2.2.2 rfl (by omega) u7 n (bC ([] ++ List.replicate n 97)) (by rfl) (HO1.out.alloc _) ⟨wr.heap.size, 0, none⟩ 1 1 [.int .u8 32] (by rfl) (by rfl) (World.news_of_block (heap_alloc_new wr _)) (by simp [Value.oneCell']) (by omega) (by unfold maxLen; omega) (by omega) (by simp; omega) (wr.heap.size + 1) (by simp) ?_; intro gg cap w9 hown1 hgrow hat hlt1; have HW9 : Hid (w9.ownsRow w.heap.size 5 1 (.slice (some ⟨gg, 0, none⟩) (n + 1) cap) (n + 1) ((bC ([] ++ List.replicate n 97)) ++ [.int .u8 32])) := hown1; have HB9 : Hid (Below w.heap.size w w9) := ((HB1.out.alloc (by omega) _).grown hgrow (by simp; omega) (fun k hk => (own_blk HO1.out hk).1)); have hz9 := HB9.out.size; clear hown1 hgrow hat hlt1)
      have HOs : Hid (w9.ownsRow w.heap.size 5 1 (.slice (some ⟨gg, 0, none⟩) (n + 1) cap) (n + 1) (bC (List.replicate n 97 ++ [32]))) := by
        have q := HW9.out
        rw [bC_snoc]
        exact q
      have HBs : Hid (Below w.heap.size w w9) := HB9.out
      clear HW9 HB9 HO1 HB1
      go_loopw [7, 9] (fun ub ui wr => ∃ k : Nat, k ≤ d ∧ ui = .int .i64 k ∧ Below w.heap.size w wr ∧ wr.ownsRow w.heap.size 5 1 ub (n + 1 + k) (bC ((List.replicate n 97 ++ [32]) ++ List.replicate k 55))) (fun _ ui _ => d - (intOf ui).toNat)
      case atStart => exact ⟨0, Nat.zero_le _, rfl, HBs.out, (by simpa using HOs.out)⟩
      case round =>
        obtain ⟨k, hk, rfl, hbl, hown⟩ := hrel
        have HB2 : Hid (Below w.heap.size w wr) := hbl
        have HO2 : Hid (wr.ownsRow w.heap.size 5 1 u7 (n + 1 + k) (bC ((List.replicate n 97 ++ [32]) ++ List.replicate k 55))) := hown
        have hsz := hbl.size
        clear hbl hown
        by_cases hkc : k < d
        · have z1 : (k : Int) < (d : Int) := by omega
          go_wp2_with (at_builtin; refine wpList_append_lies _ (by rfl) _ _ _ (by rfl) w.heap.size 5 i5 _ 1 1 Tryd.underlying34 HI.out.1 HI.out.2.1 HI.out.2.2.1 HI.out.2.2.2 rfl (by omega) u7 (n + 1 + k) (bC ((List.replicate n 97 ++ [32]) ++ List.replicate k 55)) (by rfl) (HO2.out.alloc _) ⟨wr.heap.size, 0, none⟩ 1 1 [.int .u8 55] (by rfl) (by rfl) (World.news_of_block (heap_alloc_new wr _)) (by simp [Value.oneCell']) (by omega) (by unfold maxLen; omega) (by omega) (by simp; omega) (wr.heap.size + 1) (by simp) ?_; intro gg cap w9 hown1 hgrow hat hlt1; have HW9 : Hid (w9.ownsRow w.heap.size 5 1 (.slice (some ⟨gg, 0, none⟩) ((n + 1 + k) + 1) cap) ((n + 1 + k) + 1) ((bC ((List.replicate n 97 ++ [32]) ++ List.replicate k 55)) ++ [.int .u8 55])) := hown1; have HB9 : Hid (Below w.heap.size w w9) := ((HB2.out.alloc (by omega) _).grown hgrow (by simp; omega) (fun k hk => (own_blk HO2.out hk).1)); have hz9 := HB9.out.size; clear hown1 hgrow hat hlt1)
          go_roundw
          case rel => exact ⟨k + 1, by omega, by go_num, HB9.out, (by rw [rep_snoc]; exact HW9.out)⟩
          case measure => simp [intOf]; omega
        · have z1 : ¬ (k : Int) < (d : Int) := by omega
          have hkc2 : k = d := by omega
          rw [hkc2] at HO2
          go_wp2_with fail
          go_loopw [7, 10] (fun ub ui wr => ∃ k : Nat, k ≤ t ∧ ui = .int .i64 k ∧ Below w.heap.size w wr ∧ wr.ownsRow w.heap.size 5 1 ub (n + 1 + d + k) (bC ((List.replicate n 97 ++ [32] ++ List.replicate d 55) ++ List.replicate k 32))) (fun _ ui _ => t - (intOf ui).toNat)
          case atStart => exact ⟨0, Nat.zero_le _, rfl, HB2.out, (by simpa using HO2.out)⟩
          case round =>
            obtain ⟨k, hk, rfl, hbl, hown⟩ := hrel
            have HB3 : Hid (Below w.heap.size w wr) := hbl
            have HO3 : Hid (wr.ownsRow w.heap.size 5 1 u7 (n + 1 + d + k) (bC ((List.replicate n 97 ++ [32] ++ List.replicate d 55) ++ List.replicate k 32))) := hown
            have hsz := hbl.size
            clear hbl hown
            by_cases hkc : k < t
            · have z1 : (k : Int) < (t : Int) := by omega
              go_wp2_with (at_builtin; refine wpList_append_lies _ (by rfl) _ _ _ (by rfl) w.heap.size 5 i5 _ 1 1 Tryd.underlying34 HI.out.1 HI.out.2.1 HI.out.2.2.1 HI.out.2.2.2 rfl (by omega) u7 (n + 1 + d + k) (bC ((List.replicate n 97 ++ [32] ++ List.replicate d 55) ++ List.replicate k 32)) (by rfl) (HO3.out.alloc _) ⟨wr.heap.size, 0, none⟩ 1 1 [.int .u8 32] (by rfl) (by rfl) (World.news_of_block (heap_alloc_new wr _)) (by simp [Value.oneCell']) (by omega) (by unfold maxLen; omega) (by omega) (by simp; omega) (wr.heap.size + 1) (by simp) ?_; intro gg cap w9 hown1 hgrow hat hlt1; have HW9 : Hid (w9.ownsRow w.heap.size 5 1 (.slice (some ⟨gg, 0, none⟩) ((n + 1 + d + k) + 1) cap) ((n + 1 + d + k) + 1) ((bC ((List.replicate n 97 ++ [32] ++ List.replicate d 55) ++ List.replicate k 32)) ++ [.int .u8 32])) := hown1; have HB9 : Hid (Below w.heap.size w w9) := ((HB3.out.alloc (by omega) _).grown hgrow (by simp; omega) (fun k hk => (own_blk HO3.out hk).1)); have hz9 := HB9.out.size; clear hown1 hgrow hat hlt1)
              go_roundw
              case rel => exact ⟨k + 1, by omega, by go_num, HB9.out, (by rw [rep_snoc]; exact HW9.out)⟩
              case measure => simp [intOf]; omega
            · have z1 : ¬ (k : Int) < (t : Int) := by omega
              have hkc2 : k = t := by omega
              rw [hkc2] at HO3
              have HS : Hid ((bsL (limL n d t)).data.toList = limL n d t) := (by simp [bsL] : (bsL (limL n d t)).data.toList = limL n d t)
              have hcv : ∀ W, Below wr.heap.size wr W → (convert 34 9 u7).run Tryd.prog W = .ok (.string (bsL (limL n d t))) W := fun W hW => own_string (l := limL n d t) (n := n + 1 + d + t) (by have := HO3.out.below hW; rw [lim_eq] at this; exact this)
              have hul : ∃ a c, u7 = .slice a (n + 1 + d + t) c := own_slice HO3.out
              obtain ⟨a7, c7, rfl⟩ := hul
              have hc0 := hcv wr (Below.refl _ _)
              have g10 := fun W (hb : Below w.heap.size w W) => tokens_q (bsL (limL n d t)) W (HM.out.below hb)
              have g11 := fun W => rtokens_any (bsL (limL n d t)) W
              have HL : Hid _ := readOf_len (bsL (limL n d t))
              have HCD : Hid _ := lim_code n d t hn hd
              generalize readOf (bsL (limL n d t)) = r at *
              generalize bsL (limL n d t) = Q at *
              obtain ⟨C, hC⟩ : ∃ C : Int, (roC r : Int) = C := ⟨_, rfl⟩
              have HC : Hid (fltV (roC r) (roA r) = .agg #[.int .i64 C, .string ⟨#[]⟩, .int .i64 (roA r)]) := by show _ = _; rw [fltV, hC]
              have hcc1 : (n ≤ 60 ∧ d ≤ 200 ∧ n + 1 + d + t ≤ 65536) → (C == 0) = true := fun h => by rw [← hC, HCD.out.2 h]; rfl
              have hcc2 : ¬ (n ≤ 60 ∧ d ≤ 200 ∧ n + 1 + d + t ≤ 65536) → (C == 0) = false := fun h => by
                have : roC r ≠ 0 := fun e => h (HCD.out.1 e)
                rw [← hC]; simp; omega
              have HC1 : Hid _ := hcc1
              have HC2 : Hid _ := hcc2
              clear hC hcc1 hcc2 HCD HS
              have hsw := HB3.out.size
              by_cases p1 : n ≤ 60
              · have m1 : (n : Int) ≤ 60 := by omega
                by_cases p2 : d ≤ 200
                · have m2 : (d : Int) ≤ 200 := by omega
                  by_cases p3 : n + 1 + d + t ≤ 65536
                  · have m3 : ((n + 1 + d + t : Nat) : Int) ≤ 65536 := by omega
                    have kC := HC1.out ⟨p1, p2, p3⟩
                    go_wp2_with (first
                      | (go_at_call 10; refine (g10 _ HB3.out).mono ?_; clear g10; rintro e w1 ⟨hb1, a1, c1, rfl, ho1⟩; rw [HC.out]; have HE1 : Hid (Below w.heap.size w w1) := HB3.out.trans (hb1.mono hsw); have hz1 : w.heap.size ≤ w1.heap.size := HE1.out.size; have HO1 : Hid (w1.ownsRow w.heap.size 38 4 (.slice a1 (roT r).length c1) (roT r).length (flT (roT r))) := own_base ho1 hsw; have hc1 := hcv (w1.alloc (.cells #[.int .i64 C, .string ⟨#[]⟩, .int .i64 (roA r)] 25)) (hb1.alloc (by exact hb1.size) _); clear hb1 ho1)
                      | (go_at_call 11; refine (g11 _).mono ?_; clear g11; rintro e w2 ⟨hb2, a2, c2, rfl, ho2⟩; rw [HC.out]; have HB2 : Hid (Below (w1.alloc (.cells #[.int .i64 C, .string ⟨#[]⟩, .int .i64 (roA r)] 25)).heap.size (w1.alloc (.cells #[.int .i64 C, .string ⟨#[]⟩, .int .i64 (roA r)] 25)) w2) := hb2; have hz2 : w1.heap.size < w2.heap.size := (by have := hb2.size; simp at this; omega); have HO2 : Hid (w2.ownsRow (w1.alloc (.cells #[.int .i64 C, .string ⟨#[]⟩, .int .i64 (roA r)] 25)).heap.size 38 4 (.slice a2 (roT r).length c2) (roT r).length (flT (roT r))) := ho2; have x : w2.heap[w1.heap.size]? = some (.cells #[.int .i64 C, .string ⟨#[]⟩, .int .i64 (roA r)] 25 (0, 0)) := (hb2.block _ (by simp)).trans (heap_alloc_new w1 _); have y0 := cell_of x 0; have y1 := cell_of x 1; have y2 := cell_of x 2; have HX : Hid (w2.heap[w1.heap.size]? = some (.cells #[.int .i64 C, .string ⟨#[]⟩, .int .i64 (roA r)] 25 (0, 0))) := x; clear hb2 ho2 x)
                      | (go_at_call 12; refine (same_any _ _ _ _ _ (roT r) ((HO1.out.below (((Below.refl _ _).alloc (Nat.le_refl _) _).trans (HB2.out.mono (by simp)))).alloc _) (HO2.out.alloc _) (by have := HL.out.1; omega)).mono ?_; rintro e w3 ⟨rfl, hb3⟩; have HB4 : Hid (Below (w2.alloc (.cells #[.int .i64 C, .string ⟨#[]⟩, .int .i64 (roA r)] 25)).heap.size (w2.alloc (.cells #[.int .i64 C, .string ⟨#[]⟩, .int .i64 (roA r)] 25)) w3) := hb3; have z3 := hb3.size; have x1 : w3.heap[w1.heap.size]? = some (.cells #[.int .i64 C, .string ⟨#[]⟩, .int .i64 (roA r)] 25 (0, 0)) := (hb3.block _ (by simp; omega)).trans ((Below.heap_alloc _ _ _ hz2).trans HX.out); have y3 := cell_of x1 0; clear hb3 x1)
                      | (go_at_call 9; refine (awake_any _ (HM.out.below ((HE1.out.alloc (by omega) _).trans ((HB2.out.mono (by simp; omega)).trans (((Below.refl _ _).alloc (by omega) _).trans (HB4.out.mono (by simp; omega))))))).mono ?_; rintro e w4 ⟨rfl, hb4⟩; have HB5 : Hid (Below w3.heap.size w3 w4) := hb4; clear hb4))
                    go_ret
                    exact ⟨rfl, ((HE1.out.alloc (by omega) _).trans ((HB2.out.mono (by simp; omega)).trans (((Below.refl _ _).alloc (by omega) _).trans (HB4.out.mono (by simp; omega))))).trans (HB5.out.mono (by simp at z3; omega))⟩
                  · have m3 : decide ((n : Int) + 1 + (d : Int) + (t : Int) ≤ 65536) = false := decide_eq_false (by omega)
                    have kC := HC2.out (fun h => p3 h.2.2)
                    go_wp2_with (first
                      | (go_at_call 10; refine (g10 _ HB3.out).mono ?_; clear g10; rintro e w1 ⟨hb1, a1, c1, rfl, ho1⟩; rw [HC.out]; have HE1 : Hid (Below w.heap.size w w1) := HB3.out.trans (hb1.mono hsw); have hz1 : w.heap.size ≤ w1.heap.size := HE1.out.size; have HO1 : Hid (w1.ownsRow w.heap.size 38 4 (.slice a1 (roT r).length c1) (roT r).length (flT (roT r))) := own_base ho1 hsw; have hc1 := hcv (w1.alloc (.cells #[.int .i64 C, .string ⟨#[]⟩, .int .i64 (roA r)] 25)) (hb1.alloc (by exact hb1.size) _); clear hb1 ho1)
                      | (go_at_call 11; refine (g11 _).mono ?_; clear g11; rintro e w2 ⟨hb2, a2, c2, rfl, ho2⟩; rw [HC.out]; have HB2 : Hid (Below (w1.alloc (.cells #[.int .i64 C, .string ⟨#[]⟩, .int .i64 (roA r)] 25)).heap.size (w1.alloc (.cells #[.int .i64 C, .string ⟨#[]⟩, .int .i64 (roA r)] 25)) w2) := hb2; have hz2 : w1.heap.size < w2.heap.size := (by have := hb2.size; simp at this; omega); have HO2 : Hid (w2.ownsRow (w1.alloc (.cells #[.int .i64 C, .string ⟨#[]⟩, .int .i64 (roA r)] 25)).heap.size 38 4 (.slice a2 (roT r).length c2) (roT r).length (flT (roT r))) := ho2; have x : w2.heap[w1.heap.size]? = some (.cells #[.int .i64 C, .string ⟨#[]⟩, .int .i64 (roA r)] 25 (0, 0)) := (hb2.block _ (by simp)).trans (heap_alloc_new w1 _); have y0 := cell_of x 0; have y1 := cell_of x 1; have y2 := cell_of x 2; have HX : Hid (w2.heap[w1.heap.size]? = some (.cells #[.int .i64 C, .string ⟨#[]⟩, .int .i64 (roA r)] 25 (0, 0))) := x; clear hb2 ho2 x)
                      | (go_at_call 12; refine (same_any _ _ _ _ _ (roT r) ((HO1.out.below (((Below.refl _ _).alloc (Nat.le_refl _) _).trans (HB2.out.mono (by simp)))).alloc _) (HO2.out.alloc _) (by have := HL.out.1; omega)).mono ?_; rintro e w3 ⟨rfl, hb3⟩; have HB4 : Hid (Below (w2.alloc (.cells #[.int .i64 C, .string ⟨#[]⟩, .int .i64 (roA r)] 25)).heap.size (w2.alloc (.cells #[.int .i64 C, .string ⟨#[]⟩, .int .i64 (roA r)] 25)) w3) := hb3; have z3 := hb3.size; have x1 : w3.heap[w1.heap.size]? = some (.cells #[.int .i64 C, .string ⟨#[]⟩, .int .i64 (roA r)] 25 (0, 0)) := (hb3.block _ (by simp; omega)).trans ((Below.heap_alloc _ _ _ hz2).trans HX.out); have y3 := cell_of x1 0; clear hb3 x1)
                      | (go_at_call 9; refine (awake_any _ (HM.out.below ((HE1.out.alloc (by omega) _).trans ((HB2.out.mono (by simp; omega)).trans (((Below.refl _ _).alloc (by omega) _).trans (HB4.out.mono (by simp; omega))))))).mono ?_; rintro e w4 ⟨rfl, hb4⟩; have HB5 : Hid (Below w3.heap.size w3 w4) := hb4; clear hb4))
                    go_ret
                    exact ⟨rfl, ((HE1.out.alloc (by omega) _).trans ((HB2.out.mono (by simp; omega)).trans (((Below.refl _ _).alloc (by omega) _).trans (HB4.out.mono (by simp; omega))))).trans (HB5.out.mono (by simp at z3; omega))⟩
                · have m2 : decide ((d : Int) ≤ 200) = false := decide_eq_false (by omega)
                  have kC := HC2.out (fun h => p2 h.2.1)
                  go_wp2_with (first
                    | (go_at_call 10; refine (g10 _ HB3.out).mono ?_; clear g10; rintro e w1 ⟨hb1, a1, c1, rfl, ho1⟩; rw [HC.out]; have HE1 : Hid (Below w.heap.size w w1) := HB3.out.trans (hb1.mono hsw); have hz1 : w.heap.size ≤ w1.heap.size := HE1.out.size; have HO1 : Hid (w1.ownsRow w.heap.size 38 4 (.slice a1 (roT r).length c1) (roT r).length (flT (roT r))) := own_base ho1 hsw; have hc1 := hcv (w1.alloc (.cells #[.int .i64 C, .string ⟨#[]⟩, .int .i64 (roA r)] 25)) (hb1.alloc (by exact hb1.size) _); clear hb1 ho1)
                    | (go_at_call 11; refine (g11 _).mono ?_; clear g11; rintro e w2 ⟨hb2, a2, c2, rfl, ho2⟩; rw [HC.out]; have HB2 : Hid (Below (w1.alloc (.cells #[.int .i64 C, .string ⟨#[]⟩, .int .i64 (roA r)] 25)).heap.size (w1.alloc (.cells #[.int .i64 C, .string ⟨#[]⟩, .int .i64 (roA r)] 25)) w2) := hb2; have hz2 : w1.heap.size < w2.heap.size := (by have := hb2.size; simp at this; omega); have HO2 : Hid (w2.ownsRow (w1.alloc (.cells #[.int .i64 C, .string ⟨#[]⟩, .int .i64 (roA r)] 25)).heap.size 38 4 (.slice a2 (roT r).length c2) (roT r).length (flT (roT r))) := ho2; have x : w2.heap[w1.heap.size]? = some (.cells #[.int .i64 C, .string ⟨#[]⟩, .int .i64 (roA r)] 25 (0, 0)) := (hb2.block _ (by simp)).trans (heap_alloc_new w1 _); have y0 := cell_of x 0; have y1 := cell_of x 1; have y2 := cell_of x 2; have HX : Hid (w2.heap[w1.heap.size]? = some (.cells #[.int .i64 C, .string ⟨#[]⟩, .int .i64 (roA r)] 25 (0, 0))) := x; clear hb2 ho2 x)
                    | (go_at_call 12; refine (same_any _ _ _ _ _ (roT r) ((HO1.out.below (((Below.refl _ _).alloc (Nat.le_refl _) _).trans (HB2.out.mono (by simp)))).alloc _) (HO2.out.alloc _) (by have := HL.out.1; omega)).mono ?_; rintro e w3 ⟨rfl, hb3⟩; have HB4 : Hid (Below (w2.alloc (.cells #[.int .i64 C, .string ⟨#[]⟩, .int .i64 (roA r)] 25)).heap.size (w2.alloc (.cells #[.int .i64 C, .string ⟨#[]⟩, .int .i64 (roA r)] 25)) w3) := hb3; have z3 := hb3.size; have x1 : w3.heap[w1.heap.size]? = some (.cells #[.int .i64 C, .string ⟨#[]⟩, .int .i64 (roA r)] 25 (0, 0)) := (hb3.block _ (by simp; omega)).trans ((Below.heap_alloc _ _ _ hz2).trans HX.out); have y3 := cell_of x1 0; clear hb3 x1)
                    | (go_at_call 9; refine (awake_any _ (HM.out.below ((HE1.out.alloc (by omega) _).trans ((HB2.out.mono (by simp; omega)).trans (((Below.refl _ _).alloc (by omega) _).trans (HB4.out.mono (by simp; omega))))))).mono ?_; rintro e w4 ⟨rfl, hb4⟩; have HB5 : Hid (Below w3.heap.size w3 w4) := hb4; clear hb4))
                  go_ret
                  exact ⟨rfl, ((HE1.out.alloc (by omega) _).trans ((HB2.out.mono (by simp; omega)).trans (((Below.refl _ _).alloc (by omega) _).trans (HB4.out.mono (by simp; omega))))).trans (HB5.out.mono (by simp at z3; omega))⟩
              · have m1 : decide ((n : Int) ≤ 60) = false := decide_eq_false (by omega)
                have kC := HC2.out (fun h => p1 h.1)
                go_wp2_with (first
                  | (go_at_call 10; refine (g10 _ HB3.out).mono ?_; clear g10; rintro e w1 ⟨hb1, a1, c1, rfl, ho1⟩; rw [HC.out]; have HE1 : Hid (Below w.heap.size w w1) := HB3.out.trans (hb1.mono hsw); have hz1 : w.heap.size ≤ w1.heap.size := HE1.out.size; have HO1 : Hid (w1.ownsRow w.heap.size 38 4 (.slice a1 (roT r).length c1) (roT r).length (flT (roT r))) := own_base ho1 hsw; have hc1 := hcv (w1.alloc (.cells #[.int .i64 C, .string ⟨#[]⟩, .int .i64 (roA r)] 25)) (hb1.alloc (by exact hb1.size) _); clear hb1 ho1)
                  | (go_at_call 11; refine (g11 _).mono ?_; clear g11; rintro e w2 ⟨hb2, a2, c2, rfl, ho2⟩; rw [HC.out]; have HB2 : Hid (Below (w1.alloc (.cells #[.int .i64 C, .string ⟨#[]⟩, .int .i64 (roA r)] 25)).heap.size (w1.alloc (.cells #[.int .i64 C, .string ⟨#[]⟩, .int .i64 (roA r)] 25)) w2) := hb2; have hz2 : w1.heap.size < w2.heap.size := (by have := hb2.size; simp at this; omega); have HO2 : Hid (w2.ownsRow (w1.alloc (.cells #[.int .i64 C, .string ⟨#[]⟩, .int .i64 (roA r)] 25)).heap.size 38 4 (.slice a2 (roT r).length c2) (roT r).length (flT (roT r))) := ho2; have x : w2.heap[w1.heap.size]? = some (.cells #[.int .i64 C, .string ⟨#[]⟩, .int .i64 (roA r)] 25 (0, 0)) := (hb2.block _ (by simp)).trans (heap_alloc_new w1 _); have y0 := cell_of x 0; have y1 := cell_of x 1; have y2 := cell_of x 2; have HX : Hid (w2.heap[w1.heap.size]? = some (.cells #[.int .i64 C, .string ⟨#[]⟩, .int .i64 (roA r)] 25 (0, 0))) := x; clear hb2 ho2 x)
                  | (go_at_call 12; refine (same_any _ _ _ _ _ (roT r) ((HO1.out.below (((Below.refl _ _).alloc (Nat.le_refl _) _).trans (HB2.out.mono (by simp)))).alloc _) (HO2.out.alloc _) (by have := HL.out.1; omega)).mono ?_; rintro e w3 ⟨rfl, hb3⟩; have HB4 : Hid (Below (w2.alloc (.cells #[.int .i64 C, .string ⟨#[]⟩, .int .i64 (roA r)] 25)).heap.size (w2.alloc (.cells #[.int .i64 C, .string ⟨#[]⟩, .int .i64 (roA r)] 25)) w3) := hb3; have z3 := hb3.size; have x1 : w3.heap[w1.heap.size]? = some (.cells #[.int .i64 C, .string ⟨#[]⟩, .int .i64 (roA r)] 25 (0, 0)) := (hb3.block _ (by simp; omega)).trans ((Below.heap_alloc _ _ _ hz2).trans HX.out); have y3 := cell_of x1 0; clear hb3 x1)
                  | (go_at_call 9; refine (awake_any _ (HM.out.below ((HE1.out.alloc (by omega) _).trans ((HB2.out.mono (by simp; omega)).trans (((Below.refl _ _).alloc (by omega) _).trans (HB4.out.mono (by simp; omega))))))).mono ?_; rintro e w4 ⟨rfl, hb4⟩; have HB5 : Hid (Below w3.heap.size w3 w4) := hb4; clear hb4))
                go_ret
                exact ⟨rfl, ((HE1.out.alloc (by omega) _).trans ((HB2.out.mono (by simp; omega)).trans (((Below.refl _ _).alloc (by omega) _).trans (HB4.out.mono (by simp; omega))))).trans (HB5.out.mono (by simp at z3; omega))⟩
set_option maxRecDepth 100000 in
set_option maxHeartbeats 2000000 in
theorem lim_out (a b c : Int) (w : World) (hM : Mem w) (h : ¬ (1 ≤ a ∧ a ≤ 70 ∧ 1 ≤ b ∧ b ≤ 210 ∧ 0 ≤ c ∧ c ≤ 66000)) : Calls Tryd.prog 6 #[.int .i64 a, .int .i64 b, .int .i64 c] w fun e w' => e = .returned (.bool true) ∧ Below w.heap.size w w' := by
  have g9 := awake_any w hM
  clear hM
  go_enter Tryd.func6, Tryd.ntmps6
  go_wp2_with (go_at_call 9; refine g9.mono ?_; rintro e w1 ⟨rfl, hb1⟩; have HB1 : Hid (Below w.heap.size w w1) := hb1; clear hb1)
  all_goals first
    | (exfalso; omega)
    | (go_ret; exact ⟨rfl, HB1.out⟩)
theorem limits_any (a b c : Int) (w : World) (hM : Mem w) : Calls Tryd.prog 6 #[.int .i64 a, .int .i64 b, .int .i64 c] w fun e w' => e = .returned (.bool true) ∧ Below w.heap.size w w' := by
  by_cases h : 1 ≤ a ∧ a ≤ 70 ∧ 1 ≤ b ∧ b ≤ 210 ∧ 0 ≤ c ∧ c ≤ 66000
  · obtain ⟨n, rfl⟩ : ∃ n : Nat, a = n := ⟨a.toNat, by omega⟩
    obtain ⟨d, rfl⟩ : ∃ n : Nat, b = n := ⟨b.toNat, by omega⟩
    obtain ⟨t, rfl⟩ : ∃ n : Nat, c = n := ⟨c.toNat, by omega⟩
    exact lim_in n d t w hM (by omega) (by omega) (by omega) (by omega) (by omega)
  · exact lim_out a b c w hM h
end Go.Proofs.YtmfdfkbcommjfaaDoor
