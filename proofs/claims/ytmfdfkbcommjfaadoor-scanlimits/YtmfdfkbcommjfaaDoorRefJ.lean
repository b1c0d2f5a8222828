/-
  The pieces that the document's scanner reads: each kind's contract; a round of its loop.
-/
import Derived.Test.YtmfdfkbcommjfaaDoorRefI
import Derived.Test.YtmfdfkbcommjfaaDoorRefH
import Derived.Test.YtmfdfkbcommjfaaDoorRefG
import Derived.Test.YtmfdfkbcommjfaaDoorRefE
import Derived.Test.YtmfdfkbcommjfaaDoorJoin
import Derived.Test.YtmfdfkbcommjfaaDoorSaE
namespace Go.Proofs.YtmfdfkbcommjfaaDoor
open Go.RowKit
attribute [local go_sem ↓] Go.wp_at_zero Go.wp_at_succ
theorem rname_pc (w : World) (base R : Nat) (S : ByteArray) (s : St) (p : Nat) (h : Sc w base R S p s 0 0) (hp : p < S.size) (hS : S.size ≤ 65536) (hl : s.toks.length ≤ 1000000) (h1 : S[p]'hp ≠ 10) (h2 : ¬ (S[p]'hp = 32 ∨ S[p]'hp = 9 ∨ S[p]'hp = 13)) (hb : ltr (S[p]'hp) = true) :
    Calls Tryd.prog 39 #[.pointer (some ⟨R, 0, none⟩)] w (RP w base R S s p (pcOf (S.data.toList.drop p))) := by
  have e : pcOf (S.data.toList.drop p) = if 60 < run lod (S.data.toList.drop p) then .bad 0 else .tok (if word ((S.data.toList.drop p).take (run lod (S.data.toList.drop p))) then 4 else 1) (run lod (S.data.toList.drop p)) ((S.data.toList.drop p).take (run lod (S.data.toList.drop p))) := by
    rw [drop_cons S p hp]; exact pcOf_name h1 h2 hb
  rw [e]
  by_cases hn : 60 < run lod (S.data.toList.drop p)
  · rw [if_pos hn]; exact rname_bad w base R S s p h (by omega) hS hn
  · rw [if_neg hn]; exact rname_ok w base R S s p h (by omega) hS hl hn
theorem rnum_pc (w : World) (base R : Nat) (S : ByteArray) (s : St) (p : Nat) (h : Sc w base R S p s 0 0) (hp : p < S.size) (hS : S.size ≤ 65536) (hl : s.toks.length ≤ 1000000) (h1 : S[p]'hp ≠ 10) (h2 : ¬ (S[p]'hp = 32 ∨ S[p]'hp = 9 ∨ S[p]'hp = 13)) (h3 : ltr (S[p]'hp) = false) (hd : dgt (S[p]'hp) = true) :
    Calls Tryd.prog 40 #[.pointer (some ⟨R, 0, none⟩)] w (RP w base R S s p (pcOf (S.data.toList.drop p))) :=
  rnum_any w base R S s p h hp hS hl hd _ (by rw [drop_cons S p hp]; exact pcOf_num h1 h2 h3 hd)
theorem rtext_pc (w : World) (base R : Nat) (S : ByteArray) (s : St) (p : Nat) (h : Sc w base R S p s 0 0) (hp : p < S.size) (hS : S.size ≤ 65536) (hl : s.toks.length ≤ 1000000) (h34 : S[p]'hp = 34) :
    Calls Tryd.prog 41 #[.pointer (some ⟨R, 0, none⟩)] w (RP w base R S s p (pcOf (S.data.toList.drop p))) :=
  rtext_any w base R S s p h hp hS hl _ (by
    rw [drop_cons S p hp, h34, pcOf_str]
    cases strL (S.data.toList.drop (p + 1)) false 1 [] with
    | error o => rfl
    | ok y => rfl)
theorem pre47 {S : ByteArray} {p : Nat} (hp : p < S.size) (x : UInt8) : ([47, x] : List UInt8).isPrefixOf (S.data.toList.drop p) = decide (S[p]'hp = 47 ∧ (S.data.toList.drop (p + 1)).head? = some x) := by
  rw [drop_cons S p hp]
  generalize S.data.toList.drop (p + 1) = t
  cases t with
  | nil => simp [List.isPrefixOf]
  | cons c t => simp [List.isPrefixOf]; rw [Bool.eq_iff_iff]; simp; exact and_congr eq_comm eq_comm
theorem rrem_pc (w : World) (base R : Nat) (S : ByteArray) (s : St) (p : Nat) (h : Sc w base R S p s 0 0) (hp : p < S.size) (hS : S.size ≤ 65536) (hl : s.rems.length ≤ 1000000) (hl2 : s.toks.length ≤ 1000000) (h47 : S[p]'hp = 47) (hq : (S.data.toList.drop (p + 1)).head? = some 47 ∨ (S.data.toList.drop (p + 1)).head? = some 42) :
    Calls Tryd.prog 38 #[.pointer (some ⟨R, 0, none⟩)] w (RP w base R S s p (pcOf (S.data.toList.drop p))) := by
  rcases hq with hq | hq
  · have e : pcOf (S.data.toList.drop p) = .rmk (run notNl (S.data.toList.drop p)) false := by
      rw [drop_cons S p hp, h47]; exact pcOf_short hq
    rw [e]
    exact rshort_any w base R S s p h (by omega) hS hl (by rw [pre47 hp]; exact decide_eq_true ⟨h47, hq⟩)
  · have hp2 : p + 1 < S.size := by
      apply Classical.byContradiction
      intro hc
      rw [List.drop_of_length_le (by rw [bal]; omega)] at hq
      cases hq
    refine rlong_any w base R S s p h (by omega) hS hl hl2 (by rw [pre47 hp]; exact decide_eq_false (fun e => by rw [hq] at e; exact absurd (Option.some.inj e.2) (by decide))) _ ?_
    rw [drop_cons S p hp, h47, pcOf_long hq, List.drop_drop]
    rfl
theorem rsign_pc (w : World) (base R : Nat) (S : ByteArray) (s : St) (p : Nat) (h : Sc w base R S p s 0 0) (hp : p < S.size) (hS : S.size ≤ 65536) (hl : s.toks.length ≤ 1000000) (h1 : S[p]'hp ≠ 10) (h2 : ¬ (S[p]'hp = 32 ∨ S[p]'hp = 9 ∨ S[p]'hp = 13)) (h3 : ltr (S[p]'hp) = false) (hd : dgt (S[p]'hp) = false) (h34 : S[p]'hp ≠ 34) (h4 : ¬ (S[p]'hp = 47 ∧ (S.data.toList.drop (p + 1)).head? = some 47)) (h5 : ¬ (S[p]'hp = 47 ∧ (S.data.toList.drop (p + 1)).head? = some 42)) :
    Calls Tryd.prog 42 #[.pointer (some ⟨R, 0, none⟩)] w (RP w base R S s p (pcOf (S.data.toList.drop p))) := by
  by_cases h59 : S[p]'hp = 59
  · have e : pcOf (S.data.toList.drop p) = .tok 6 1 [59] := by rw [drop_cons S p hp, h59]; rfl
    rw [e]
    exact rsemi_any w base R S s p h hp hS hl h59
  · refine rsign_any w base R S s p h hp hS hl h59 _ ?_
    rw [drop_cons S p hp, sgl_find, pcOf_sign h1 h2 h3 hd h34 h4 h5 h59]
    have hr := sgn_room (S[p]'hp) (S.data.toList.drop (p + 1))
    split
    · rfl
    · rename_i hn
      simp only
      rw [List.length_take, Nat.min_eq_left (hr hn)]
def ro : Except Nat St → RO
  | .ok s => .ok s
  | .error o => .bad 3 o
theorem readOf_eq (S : ByteArray) : readOf S = if 65536 < S.size then .bad 2 0 else if okT S = false then .bad 2 0 else ro (scn S.data.toList 0 0 ⟨[], []⟩) := by
  unfold readOf
  cases scn S.data.toList 0 0 ⟨[], []⟩ with
  | ok s => rfl
  | error o => rfl
/-- the loop of Scan -/
structure ScR (w : World) (base R : Nat) (S : ByteArray) (r : RO) (wr : World) : Prop where
  bl : Below base w wr
  ex : (∃ p s, Sc wr base R S p s 0 0 ∧ p ≤ S.size ∧ s.toks.length ≤ p ∧ s.rems.length ≤ p ∧ r = ro (scn (S.data.toList.drop p) 0 p s)) ∨ (∃ i s c a, Sc wr base R S i s (c + 1) a ∧ r = .bad (c + 1) a)
/-- what is left to read -/
def msr (w : World) (R n : Nat) : Nat := match w.cell? ⟨R, 4, none⟩ with | some (.int _ 0) => n + 1 - cellI w R | _ => 0
theorem Sc.msr0 {w : World} {base R : Nat} {S : ByteArray} {i : Nat} {s : St} {a : Nat} (h : Sc w base R S i s 0 a) (n : Nat) : msr w R n = n + 1 - i := by
  unfold msr; rw [h.cell4]; simp only [Int.natCast_zero]; rw [h.cellI]
theorem Sc.msr1 {w : World} {base R : Nat} {S : ByteArray} {i : Nat} {s : St} {c a : Nat} (h : Sc w base R S i s (c + 1) a) (n : Nat) : msr w R n = 0 := by
  unfold msr
  rw [h.cell4]
  split
  · rename_i q
    injection q with q
    injection q with _ q
    omega
  · rfl
/-- a piece read -/
theorem ScR.step {w wr : World} {base R : Nat} {S : ByteArray} {r : RO} {p : Nat} {s : St} {e : Ending} {w' : World} (hp : p < S.size) (hb : Below base w wr) (hsc : Sc wr base R S p s 0 0) (ht : s.toks.length ≤ p) (hrm : s.rems.length ≤ p)
    (hr : r = ro (scn (S.data.toList.drop p) 0 p s)) (h : RP wr base R S s p (pcOf (S.data.toList.drop p)) e w') : ScR w base R S r w' ∧ msr w' R S.size < msr wr R S.size := by
  have hne := drop_ne hp
  rw [hsc.msr0]
  have good : ∀ n, (∀ o, pcOf (S.data.toList.drop p) ≠ .bad o) → n = (pcOf (S.data.toList.drop p)).len → ScP wr base R S (p + n) (stp p s (pcOf (S.data.toList.drop p))) 0 0 e w' → ScR w base R S r w' ∧ msr w' R S.size < S.size + 1 - p := by
    intro n hnb hn hs
    obtain ⟨l1, l2⟩ := pc_len hne hnb
    rw [List.length_drop, bal] at l2
    have hst := stp_len p s (pcOf (S.data.toList.drop p))
    refine ⟨⟨hb.trans hs.bl, .inl ⟨p + n, _, hs.sc, by omega, by omega, by omega, ?_⟩⟩, ?_⟩
    · rw [hr, scn_piece hne hnb, List.drop_drop, hn]
    · rw [hs.sc.msr0]; omega
  cases hpc : pcOf (S.data.toList.drop p) with
  | bad o =>
    rw [hpc] at h
    obtain ⟨i, s', hs⟩ := h
    refine ⟨⟨hb.trans hs.bl, .inr ⟨i, s', 2, p + o, hs.sc, ?_⟩⟩, ?_⟩
    · rw [hr]
      rw [drop_cons S p hp] at hpc ⊢
      rw [scn_bad hpc]
      rfl
    · rw [hs.sc.msr1]; omega
  | line => rw [hpc] at h good; exact good 1 (fun o q => by cases q) rfl h
  | blank => rw [hpc] at h good; exact good 1 (fun o q => by cases q) rfl h
  | tok k n x => rw [hpc] at h good; exact good n (fun o q => by cases q) rfl h
  | rmk n ls => rw [hpc] at h good; exact good n (fun o q => by cases q) rfl h
end Go.Proofs.YtmfdfkbcommjfaaDoor
