/-
  What the document's holds answers: plain.
-/
import Derived.Test.YtpcpncgigdebiaaJaJ
import Derived.Lib.SmallJoins
import Derived.Deep.RegionLaw
import Derived.Deep.AppendLies
namespace Go.Proofs.Ytpcpncgigdebiaa
open Go.RowKit
/-- is a declared type's name marked? -/
def MtB (l : List Nmd) (bs : List Bool) (y : ByteArray) : Prop := ∃ i, ∃ hi : i < l.length, (l[i]).name = y ∧ bs[i]? = some true
/-- what holds answers of a type that holds the names H, where bs was marked ahead and bs' is behind -/
structure HoP (l : List Nmd) (s : ByteArray) (H : List ByteArray) (bs : List Bool) (q : Bool) (bs' : List Bool) : Prop where
  len : bs'.length = bs.length
  le : ∀ i : Nat, bs[i]? = some true → bs'[i]? = some true
  yes : q = true → ∃ y ∈ H, y = s ∨ Rch (Hf l) y s
  no : q = false → (∀ y ∈ H, y ≠ s ∧ MtB l bs' y) ∧ ∀ i (hi : i < l.length), bs'[i]? = some true → bs[i]? ≠ some true → ∀ y ∈ (l[i]).under.hol (l.map Nmd.name), y ≠ s ∧ MtB l bs' y
theorem MtB.to {l : List Nmd} {bs bs' : List Bool} {y : ByteArray} (h : MtB l bs y) (hl : ∀ i : Nat, bs[i]? = some true → bs'[i]? = some true) : MtB l bs' y := by
  obtain ⟨i, hi, e, h⟩ := h
  exact ⟨i, hi, e, hl i h⟩
theorem HoP.nil (l : List Nmd) (s : ByteArray) (bs : List Bool) : HoP l s [] bs false bs :=
  ⟨rfl, fun _ h => h, (fun h => by cases h), fun _ => ⟨fun y h => (by simp at h), fun i hi h1 h2 => absurd h1 h2⟩⟩
theorem HoP.more {l : List Nmd} {s : ByteArray} {H H' : List ByteArray} {bs bs' : List Bool} (h : HoP l s H bs true bs') (hs : ∀ y ∈ H, y ∈ H') : HoP l s H' bs true bs' :=
  ⟨h.len, h.le, fun _ => by obtain ⟨y, hy, e⟩ := h.yes rfl; exact ⟨y, hs y hy, e⟩, fun e => by cases e⟩
theorem HoP.join {l : List Nmd} {s : ByteArray} {H1 H2 : List ByteArray} {b0 b1 b2 : List Bool} {q : Bool} (h : HoP l s H1 b0 false b1) (k : HoP l s H2 b1 q b2) : HoP l s (H1 ++ H2) b0 q b2 := by
  refine ⟨k.len.trans h.len, fun i hi => k.le i (h.le i hi), fun e => ?_, fun e => ⟨fun y hy => ?_, fun i hi h1 h2 y hy => ?_⟩⟩
  · obtain ⟨y, hy, e⟩ := k.yes e
    exact ⟨y, List.mem_append_right _ hy, e⟩
  · rcases List.mem_append.1 hy with hy | hy
    · obtain ⟨a, b⟩ := (h.no rfl).1 y hy
      exact ⟨a, b.to k.le⟩
    · exact (k.no e).1 y hy
  · by_cases hm : b1[i]? = some true
    · obtain ⟨a, b⟩ := (h.no rfl).2 i hi hm h2 y hy
      exact ⟨a, b.to k.le⟩
    · exact (k.no e).2 i hi h1 hm y hy
/-- a declared type that was met -/
theorem HoP.met {l : List Nmd} {s nm : ByteArray} {bs : List Bool} {i : Nat} (hi : i < l.length) (e : (l[i]).name = nm) (hn : nm ≠ s) (hb : bs[i]? = some true) : HoP l s [nm] bs false bs :=
  ⟨rfl, fun _ h => h, (fun h => by cases h), fun _ => ⟨fun y hy => by
    have : y = nm := by simpa using hy
    subst this
    exact ⟨hn, i, hi, e, hb⟩, fun i hi h1 h2 => absurd h1 h2⟩⟩
theorem set_true {bs : List Bool} {k i : Nat} (h : (bs.set k true)[i]? = some true) (hne : i ≠ k) : bs[i]? = some true := by
  rw [List.getElem?_set] at h
  rwa [if_neg (Ne.symm hne)] at h
theorem set_le {bs : List Bool} {k : Nat} (hk : k < bs.length) (i : Nat) (h : bs[i]? = some true) : (bs.set k true)[i]? = some true := by
  rw [List.getElem?_set]
  by_cases e : k = i
  · subst e; rw [if_pos rfl, if_pos hk]
  · rw [if_neg e]; exact h
/-- a declared type that is entered -/
theorem HoP.enter {l : List Nmd} {s nm : ByteArray} {bs bs' : List Bool} {q : Bool} {k : Nat} (hd : (l.map Nmd.name).Nodup) (hk : k < l.length) (hl : bs.length = l.length) (e : (l[k]).name = nm) (hn : nm ≠ s) (h : HoP l s ((l[k]).under.hol (l.map Nmd.name)) (bs.set k true) q bs') : HoP l s [nm] bs q bs' := by
  have hkb : k < bs.length := by omega
  have hf : Hf l nm = (l[k]).under.hol (l.map Nmd.name) := by rw [← e]; exact Hf_in hd (List.getElem_mem hk)
  refine ⟨by rw [h.len, List.length_set], fun i hi => h.le i (set_le hkb i hi), fun hq => ?_, fun hq => ⟨fun y hy => ?_, fun i hi h1 h2 y hy => ?_⟩⟩
  · obtain ⟨y, hy, hh⟩ := h.yes hq
    refine ⟨nm, by simp, .inr ?_⟩
    rcases hh with rfl | hh
    · exact .one (by rw [hf]; exact hy)
    · exact .step (by rw [hf]; exact hy) hh
  · have : y = nm := by simpa using hy
    subst this
    exact ⟨hn, k, hk, e, h.le k (by rw [List.getElem?_set, if_pos rfl, if_pos hkb])⟩
  · by_cases hm : (bs.set k true)[i]? = some true
    · by_cases hik : i = k
      · subst hik
        exact (h.no hq).1 y hy
      · exact absurd (set_true hm hik) h2
    · exact (h.no hq).2 i hi h1 hm y hy
/-- where nothing was marked ahead: whether the name reaches itself -/
theorem HoP.all {l : List Nmd} {t : Nmd} {bs bs' : List Bool} {q : Bool} (hd : (l.map Nmd.name).Nodup) (ht : t ∈ l) (hb : ∀ i : Nat, bs[i]? ≠ some true) (h : HoP l t.name (t.under.hol (l.map Nmd.name)) bs q bs') : q = true ↔ Rch (Hf l) t.name t.name := by
  have hf := Hf_in hd ht
  constructor
  · intro hq
    obtain ⟨y, hy, hh⟩ := h.yes hq
    rcases hh with e | hh
    · exact .one (by rw [hf, ← e]; exact hy)
    · exact .step (by rw [hf]; exact hy) hh
  · intro hr
    cases q with
    | true => rfl
    | false =>
      exfalso
      obtain ⟨h1, h2⟩ := h.no rfl
      have key : ∀ a c, Rch (Hf l) a c → (a = t.name ∨ MtB l bs' a) → c ≠ t.name := by
        intro a c hr
        have one : ∀ a b, b ∈ Hf l a → (a = t.name ∨ MtB l bs' a) → b ≠ t.name ∧ MtB l bs' b := by
          intro a b hb2 ha
          rcases ha with rfl | ⟨i, hi, e, hm⟩
          · rw [hf] at hb2
            exact h1 b hb2
          · rw [← e, Hf_in hd (List.getElem_mem hi)] at hb2
            exact h2 i hi hm (hb i) b hb2
        induction hr with
        | one hb2 => intro ha; exact (one _ _ hb2 ha).1
        | step hb2 _ ih => intro ha; exact ih (.inr (one _ _ hb2 ha).2)
      exact key _ _ hr (.inl rfl) rfl
/-- how many are not marked -/
def cntF : List Bool → Nat
  | [] => 0
  | b :: r => (if b = true then 0 else 1) + cntF r
theorem cntF_le : ∀ (bs bs' : List Bool), bs'.length = bs.length → (∀ i : Nat, bs[i]? = some true → bs'[i]? = some true) → cntF bs' ≤ cntF bs
  | [], bs', hl, _ => by
    cases bs' with
    | nil => exact Nat.le_refl _
    | cons b r => simp at hl
  | b :: r, bs', hl, h => by
    cases bs' with
    | nil => simp at hl
    | cons b' r' =>
      have ih := cntF_le r r' (by simpa using hl) (fun i hi => by have := h (i + 1) (by simpa using hi); simpa using this)
      have h0 := h 0
      simp only [cntF]
      cases b <;> cases b' <;> simp at h0 ⊢ <;> omega
theorem cntF_set : ∀ (bs : List Bool) (k : Nat), bs[k]? = some false → cntF (bs.set k true) + 1 = cntF bs
  | [], k, h => by simp at h
  | b :: r, 0, h => by
    have : b = false := by simpa using h
    subst this
    simp [cntF]; omega
  | b :: r, k + 1, h => by
    have ih := cntF_set r k (by simpa using h)
    simp only [List.set_cons_succ, cntF]
    omega
end Go.Proofs.Ytpcpncgigdebiaa

/-
  The document's holds, walked.
-/
namespace Go.Proofs.Ytpcpncgigdebiaa
open Go.RowKit
attribute [local go_sem ↓] Go.wp_at_zero Go.wp_at_succ
/-- marks as cells -/
def mtA (bs : List Bool) : Array Value := (bs.map Value.bool).toArray
/-- the marks lie at block M -/
def MtR (W : World) (M : Nat) (bs : List Bool) : Prop := W.heap[M]? = some (.cells (mtA bs) 4 (0, 0))
theorem MtR.cell {W : World} {M : Nat} {bs : List Bool} (h : MtR W M bs) {i : Nat} {b : Bool} (hb : bs[i]? = some b) : W.cell? ⟨M, i, none⟩ = some (.bool b) := by
  rw [cell_of h]
  simp [mtA, hb]
theorem MtR.frz {W : World} {M : Nat} {bs : List Bool} (h : MtR W M bs) (i : Nat) : W.frozen? ⟨M, i, none⟩ = false := by
  have h' : W.heap[M]? = some (.cells (mtA bs) 4 (0, 0)) := h
  simp [World.frozen?, h']
theorem MtR.put {W : World} {M : Nat} {bs : List Bool} (h : MtR W M bs) (k : Nat) : MtR (W.setCell ⟨M, k, none⟩ (.bool true)) M (bs.set k true) := by
  have := Go.Joins.block_setCell (i := k) h (.bool true)
  have e : mtA (bs.set k true) = (mtA bs).setIfInBounds k (.bool true) := by
    unfold mtA
    rw [List.map_set]
    simp
  unfold MtR
  rw [e]
  exact this
theorem MtR.lt {W : World} {M : Nat} {bs : List Bool} (h : MtR W M bs) : M < W.heap.size := by
  have h' : W.heap[M]? = some (.cells (mtA bs) 4 (0, 0)) := h
  rcases Nat.lt_or_ge M W.heap.size with h1 | h1
  · exact h1
  · rw [Array.getElem?_eq_none h1] at h'; cases h'
theorem MtR.kept {W W' : World} {M : Nat} {bs : List Bool} (h : MtR W M bs) (hb : Below W.heap.size W W') : MtR W' M bs := blk_kept hb h
/-- what holds answers -/
structure HoQ (w : World) (l : List Nmd) (M : Nat) (s : ByteArray) (H : List ByteArray) (bs : List Bool) (e : Ending) (w' : World) : Prop where
  kx : Kx (· = M) w w'
  ex : ∃ (q : Bool) (bs' : List Bool), e = .returned (.bool q) ∧ MtR w' M bs' ∧ HoP l s H bs q bs'
/-- between two kids -/
structure HoS (l : List Nmd) (M : Nat) (s : ByteArray) (H : List ByteArray) (bs : List Bool) (w W : World) : Prop where
  kx : Kx (· = M) w W
  ex : ∃ bs' : List Bool, MtR W M bs' ∧ HoP l s H bs false bs'
theorem holL_take (ks : List ByteArray) (l : List Ty) (i : Nat) (hi : i < l.length) : holL ks (l.take (i + 1)) = holL ks (l.take i) ++ (l[i]).hol ks := by
  rw [List.take_succ_eq_append_getElem hi, holL_append]
  simp [holL]
theorem holL_sub (ks : List ByteArray) (l : List Ty) (i : Nat) : ∀ y ∈ holL ks (l.take i), y ∈ holL ks l := by
  intro y hy
  have : holL ks l = holL ks (l.take i) ++ holL ks (l.drop i) := by rw [← holL_append, List.take_append_drop]
  rw [this]
  exact List.mem_append_left _ hy
set_option maxRecDepth 100000 in
set_option maxHeartbeats 8000000 in
theorem holds_any {B : BQ} {V M : Nat} {l : List Nmd} {s : ByteArray} (hV : V ≠ M) (hBM : ¬ B M) (hd : (l.map Nmd.name).Nodup) (hs : s ∈ l.map Nmd.name) : ∀ (m : Nat) (t : Ty) (w : World) (bs : List Bool) (vn vm vk : Value), cntF bs ≤ m → bs.length = l.length → W8S B w V l → Prt B w t vn vm vk → MtR w M bs → Calls Try.prog 26 #[.pointer (some ⟨V, 0, none⟩), agT t vn vm vk, .string s, .slice (some ⟨M, 0, none⟩) l.length l.length] w (HoQ w l M s (t.hol (l.map Nmd.name)) bs) := by
  intro m
  refine Nat.strongRecOn m fun m ihm => ?_
  refine Ty.ind fun k nm n f ns ms ks ih w bs vn vm vk hm hbl hw hp hmt => ?_
  have HM : Hid (∀ m' < m, ∀ (t : Ty) (w : World) (bs : List Bool) (vn vm vk : Value), cntF bs ≤ m' → bs.length = l.length → W8S B w V l → Prt B w t vn vm vk → MtR w M bs → Calls Try.prog 26 #[.pointer (some ⟨V, 0, none⟩), agT t vn vm vk, .string s, .slice (some ⟨M, 0, none⟩) l.length l.length] w (HoQ w l M s (t.hol (l.map Nmd.name)) bs)) := ihm
  have HI : Hid (∀ x ∈ ks, ∀ (w : World) (bs : List Bool) (vn vm vk : Value), cntF bs ≤ m → bs.length = l.length → W8S B w V l → Prt B w x vn vm vk → MtR w M bs → Calls Try.prog 26 #[.pointer (some ⟨V, 0, none⟩), agT x vn vm vk, .string s, .slice (some ⟨M, 0, none⟩) l.length l.length] w (HoQ w l M s (x.hol (l.map Nmd.name)) bs)) := ih
  clear ih ihm
  obtain ⟨an, cn, am, cm, ak, ck, rfl, rfl, rfl⟩ := hp.form
  obtain ⟨HL, hHL⟩ : ∃ HL, HL = (Ty.mk k nm n f ns ms ks).hol (l.map Nmd.name) := ⟨_, rfl⟩
  rw [← hHL]
  have HH : Hid (HL = (if k = 8 then (if memB nm (l.map Nmd.name) = true then [nm] else []) else if k = 14 then holL (l.map Nmd.name) ks else [])) := by show HL = _; rw [hHL]; simp only [Ty.hol]
  clear hHL
  unfold agT
  simp only [Ty.kind, Ty.name, Ty.n, Ty.flag, Ty.names, Ty.marks, Ty.kids]
  obtain ⟨W0, hW0⟩ : ∃ W0, W0 = w.alloc (.cells #[.int .i64 k, .string nm, .int .i64 n, .bool f, .slice an ns.length cn, .slice am ms.length cm, .slice ak ks.length ck] 27) := ⟨_, rfl⟩
  have hb0 : Below w.heap.size w W0 := by rw [hW0]; exact below_alloc _ _
  have HB0 : Hid (Below w.heap.size w W0) := hb0
  obtain ⟨a0, c0, e0, hlen, hel⟩ := (hp.kept hb0).ks.open
  obtain ⟨rfl, rfl⟩ : ak = a0 ∧ ck = c0 := by simpa [Ty.kids] using e0
  have HEL : Hid (∀ i (hi : i < ks.length), ∃ b o, ak = some ⟨b, o, none⟩ ∧ b < W0.heap.size ∧ B b ∧ (ks[i]).lies B W0 b (o + i * 7)) := hel
  have hlen : (ks.length : Int) ≤ 9223372036854775807 := hlen
  have HC : Hid (W0.cell? ⟨w.heap.size, 0, none⟩ = some (.int .i64 k) ∧ W0.cell? ⟨w.heap.size, 6, none⟩ = some (.slice ak ks.length ck)) := by
    rw [hW0]; exact ⟨(bx7 (heap_new w _)).1, (bx7 (heap_new w _)).2.2.2.2.2.2⟩
  have HW : Hid (W8S B W0 V l) := hw.kept hb0
  have HMT : Hid (MtR W0 M bs) := hmt.kept hb0
  have HWW : Hid (W8S B w V l ∧ MtR w M bs) := ⟨hw, hmt⟩
  have HLB : Hid (M < w.heap.size ∧ V ≠ M ∧ ¬ B M ∧ (l.map Nmd.name).Nodup ∧ s ∈ l.map Nmd.name ∧ cntF bs ≤ m ∧ bs.length = l.length) := ⟨hmt.lt, hV, hBM, hd, hs, hm, hbl⟩
  have HF : Hid (∀ e w', HoQ W0 l M s HL bs e w' → HoQ w l M s HL bs e w') := fun e w' h => ⟨(Kx.of_whole hb0).trans h.kx, h.ex⟩
  clear hp hb0 e0 hel hw hmt hm hbl hV hBM hd hs
  by_cases h8 : k = 8
  · subst h8
    have hfd := rfind_any HW.out nm
    by_cases he : nm = s
    · have k2 := str_eq he
      have HR : Hid (HoQ W0 l M s HL bs (.returned (.bool true)) W0) := by
        have h0 := (fnd_mem s l).1 HLB.out.2.2.2.2.1
        have eH : HL = [nm] := by rw [HH.out, if_pos rfl, if_pos (by rw [fnd_memB, he]; simpa using h0)]
        rw [eH]
        exact ⟨Kx.refl _ _, true, bs, rfl, HMT.out, rfl, fun _ h => h, fun _ => ⟨nm, by simp, .inl he⟩, fun h => by cases h⟩
      clear he
      subst hW0
      go_enter Try.func26, Try.ntmps26
      go_wp2_with (go_at_call 24; refine hfd.mono ?_; rintro e w1 ⟨rfl, hw1⟩; subst hw1; clear hfd)
      go_ret
      exact HF.out _ _ HR.out
    · have k2 := str_ne he
      by_cases hr : fnd l nm < 0
      · have HR : Hid (HoQ W0 l M s HL bs (.returned (.bool false)) W0) := by
          have eH : HL = [] := by rw [HH.out, if_pos rfl, if_neg (by rw [fnd_memB]; simp; omega)]
          rw [eH]
          exact ⟨Kx.refl _ _, false, bs, rfl, HMT.out, HoP.nil _ _ _⟩
        generalize fnd l nm = r at hfd hr
        clear he
        subst hW0
        go_enter Try.func26, Try.ntmps26
        go_wp2_with (go_at_call 24; refine hfd.mono ?_; rintro e w1 ⟨rfl, hw1⟩; subst hw1; clear hfd)
        go_ret
        exact HF.out _ _ HR.out
      · obtain ⟨j, hj, e1, e2⟩ := fnd_get nm l (by omega)
        have hin : memB nm (l.map Nmd.name) = true := by rw [fnd_memB]; simp; omega
        rw [e1] at hfd
        have hjb : j < bs.length := by have := HLB.out.2.2.2.2.2.2; omega
        have hcj := HMT.out.cell (List.getElem?_eq_getElem hjb)
        have z0 : (0 : Int) ≤ (j : Int) := by omega
        have z1 : (j : Int) < (l.length : Int) := by omega
        have z2 : ¬ (j : Int) < 0 := by omega
        have hmv := HLB.out.1
        have eH : HL = [nm] := by rw [HH.out, if_pos rfl, if_pos hin]
        cases hbj : bs[j] with
        | true =>
          rw [hbj] at hcj
          have HR : Hid (HoQ W0 l M s HL bs (.returned (.bool false)) W0) := by rw [eH]; exact ⟨Kx.refl _ _, false, bs, rfl, HMT.out, HoP.met hj e2 he (by rw [List.getElem?_eq_getElem hjb, hbj])⟩
          clear he e1 hin hr hbj eH
          subst hW0
          go_enter Try.func26, Try.ntmps26
          go_wp2_with (go_at_call 24; refine hfd.mono ?_; rintro e w1 ⟨rfl, hw1⟩; subst hw1; clear hfd)
          go_ret
          exact HF.out _ _ HR.out
        | false =>
          rw [hbj] at hcj
          have hfz := HMT.out.frz j
          have hbj' : bs[j]? = some false := by rw [List.getElem?_eq_getElem hjb, hbj]
          have hcs := cntF_set bs j hbj'
          obtain ⟨W1, hW1⟩ : ∃ W1, W1 = (w.setCell ⟨M, j, none⟩ (.bool true)).alloc (.cells #[.int .i64 8, .string nm, .int .i64 n, .bool f, .slice an ns.length cn, .slice am ms.length cm, .slice ak ks.length ck] 27) := ⟨_, rfl⟩
          have hk1 : Kx (· = M) w W1 := by rw [hW1]; exact kx_set.trans (Kx.of_whole (below_alloc _ _))
          have hx : ∀ b, b < w.heap.size → B b → ¬ (b = M) := fun b _ hb e => HLB.out.2.2.1 (e ▸ hb)
          have hw1 : W8S B W1 V l := w8_to HWW.out.1 hk1 HLB.out.2.1 hx (fun _ _ h => h)
          have hm1 : MtR W1 M (bs.set j true) := by rw [hW1]; exact (HWW.out.2.put j).kept (below_alloc _ _)
          obtain ⟨v, hcv, hsl⟩ := hw1
          obtain ⟨a1, c1, rfl, _, hel⟩ := hsl.open
          obtain ⟨b, o, rfl, hbl, hbb, hli⟩ := hel j hj
          obtain ⟨_, hun, _⟩ := hli
          obtain ⟨k1, k2', k3, k4, xn, xm, xk, k5, k6, k7, hpr⟩ := lies_iff.1 hun
          obtain ⟨a2, c2, a3, c3, a4, c4, rfl, rfl, rfl⟩ := hpr.form
          have hc := HM.out (m - 1) (by have := HLB.out.2.2.2.2.2.1; omega) (l[j]).under W1 (bs.set j true) _ _ _ (by have := HLB.out.2.2.2.2.2.1; omega) (by rw [List.length_set]; exact HLB.out.2.2.2.2.2.2) ⟨_, hcv, hsl⟩ hpr hm1
          have HR : Hid (∀ e w', HoQ W1 l M s ((l[j]).under.hol (l.map Nmd.name)) (bs.set j true) e w' → HoQ w l M s HL bs e w') := fun e w' h => by
            rw [eH]
            obtain ⟨h1, q, bs', h2, h3, h4⟩ := h
            exact ⟨hk1.trans h1, q, bs', h2, h3, h4.enter HLB.out.2.2.2.1 hj HLB.out.2.2.2.2.2.2 e2 he⟩
          unfold agT at hc
          have hvM := HLB.out.2.1
          clear he e1 hin hr hbj eH hbj' hun hpr hel hsl hk1 hx hm1 hcs
          subst hW1
          subst hW0
          go_enter Try.func26, Try.ntmps26
          go_wp2_with (first
            | (go_at_call 24; refine hfd.mono ?_; rintro e w1 ⟨rfl, hw1⟩; subst hw1; clear hfd)
            | (go_at_call 26; refine hc.mono ?_; intro e w2 hq; have HQ2 := HR.out _ _ hq; obtain ⟨hk2, q, bs2, rfl, hm2, hp2⟩ := HQ2; have HQ : Hid (HoQ _ _ _ _ _ _ (.returned (.bool q)) w2) := ⟨hk2, q, bs2, rfl, hm2, hp2⟩; clear hq hk2 hm2 hp2 hc))
          go_ret
          exact HQ.out
  · have q8 := int_bne h8
    by_cases h14 : k = 14
    · subst h14
      have eH : HL = holL (l.map Nmd.name) ks := by rw [HH.out, if_neg h8, if_pos rfl]
      have HE : Hid (HL = holL (l.map Nmd.name) ks) := eH
      clear eH
      have HS0 : Hid (HoS l M s (holL (l.map Nmd.name) (ks.take 0)) bs W0 W0) := ⟨Kx.refl _ _, bs, HMT.out, HoP.nil _ _ _⟩
      clear h8 q8
      subst hW0
      go_enter Try.func26, Try.ntmps26
      go_wp2_with fail
      generalize w.alloc (.cells #[.int .i64 14, .string nm, .int .i64 n, .bool f, .slice an ns.length cn, .slice am ms.length cm, .slice ak ks.length ck] 27) = W0 at *
      go_loopg [10] ks.length (fun g u5 wr => ∃ (i : Nat), i ≤ ks.length ∧ ks.length - i ≤ g ∧ u5 = .int .i64 i ∧ Hid (HoS l M s (holL (l.map Nmd.name) (ks.take i)) bs W0 wr))
      case atStart => exact ⟨0, Nat.zero_le _, Nat.le_refl _, rfl, HS0⟩
      case round =>
        clear HS0
        obtain ⟨i, hi, hg, rfl, HX⟩ := hrel
        have hne : ¬ (w.heap.size = M) := by have := HLB.out.1; omega
        have x6 := HX.out.kx.cell HC.out.2 hne
        by_cases hlt : i < ks.length
        · have z1 : (i : Int) < (ks.length : Int) := by omega
          have z0 : (0 : Int) ≤ (i : Int) := by omega
          have hx : ∀ b, b < W0.heap.size → B b → ¬ (b = M) := fun b _ hb e => HLB.out.2.2.1 (e ▸ hb)
          obtain ⟨b, o, rfl, hbl, hbb, hli⟩ := HEL.out i hlt
          obtain ⟨e0, e1, e2, e3, v4, v5, v6, e4, e5, e6, hpi⟩ := lies_iff.1 hli
          obtain ⟨bn, dn, bm, dm, bk, dk, rfl, rfl, rfl⟩ := hpi.form
          have hbM : ¬ (b = M) := hx b hbl hbb
          have e0 := HX.out.kx.cell e0 hbM
          have e1 := HX.out.kx.cell e1 hbM
          have e2 := HX.out.kx.cell e2 hbM
          have e3 := HX.out.kx.cell e3 hbM
          have e4 := HX.out.kx.cell e4 hbM
          have e5 := HX.out.kx.cell e5 hbM
          have e6 := HX.out.kx.cell e6 hbM
          obtain ⟨bs1, hm1, hp1⟩ := HX.out.ex
          have hc := HI.out ks[i] (List.getElem_mem _) wr bs1 _ _ _ (Nat.le_trans (cntF_le _ _ hp1.len hp1.le) HLB.out.2.2.2.2.2.1) (hp1.len.trans HLB.out.2.2.2.2.2.2) (w8_to HW.out HX.out.kx HLB.out.2.1 hx (fun _ _ h => h)) (hpi.to HX.out.kx (fun _ _ h => h) hx) hm1
          have HT : Hid (∀ w', HoQ wr l M s ((ks[i]).hol (l.map Nmd.name)) bs1 (.returned (.bool true)) w' → HoQ W0 l M s HL bs (.returned (.bool true)) w') := fun w' h => by
            rw [HE.out]
            obtain ⟨h1, q, bs2, h2, h3, h4⟩ := h
            have : q = true := by simpa using h2.symm
            subst this
            refine ⟨HX.out.kx.trans h1, true, bs2, rfl, h3, (hp1.join h4).more ?_⟩
            rw [← holL_take _ _ _ hlt]
            exact holL_sub _ _ _
          have HN : Hid (∀ w', HoQ wr l M s ((ks[i]).hol (l.map Nmd.name)) bs1 (.returned (.bool false)) w' → HoS l M s (holL (l.map Nmd.name) (ks.take (i + 1))) bs W0 w') := fun w' h => by
            obtain ⟨h1, q, bs2, h2, h3, h4⟩ := h
            have : q = false := by simpa using h2.symm
            subst this
            refine ⟨HX.out.kx.trans h1, bs2, h3, ?_⟩
            rw [holL_take _ _ _ hlt]
            exact hp1.join h4
          unfold agT at hc
          clear hli hpi hm1 hp1 hx hbM
          generalize (ks[i]).hol (l.map Nmd.name) = hk at *
          generalize (ks[i]).kind = ki at *
          generalize (ks[i]).name = ni at *
          generalize (ks[i]).n = nn at *
          generalize (ks[i]).flag = fi at *
          generalize (ks[i]).names.length = l1 at *
          generalize (ks[i]).marks.length = l2 at *
          generalize (ks[i]).kids.length = l3 at *
          go_wp2_with (go_at_call 26; refine hc.mono ?_; intro e w1 hq; obtain ⟨hk2, q, bs2, rfl, hm2, hp2⟩ := hq; have HQ : Hid (HoQ wr l M s hk bs1 (.returned (.bool q)) w1) := ⟨hk2, q, bs2, rfl, hm2, hp2⟩; clear hk2 hm2 hp2 hc; cases q)
          all_goals try go_wp2_with fail
          · go_roundg (ks.length - (i + 1))
            case measure => omega
            case rel => exact ⟨i + 1, by omega, Nat.le_refl _, by go_num, HN.out _ HQ.out⟩
          · go_ret
            exact HF.out _ _ (HT.out _ HQ.out)
        · have z1 : ¬ (i : Int) < (ks.length : Int) := by omega
          obtain ⟨bs1, hm1, hp1⟩ := HX.out.ex
          rw [List.take_of_length_le (by omega)] at hp1
          have HR : Hid (HoQ W0 l M s HL bs (.returned (.bool false)) wr) := by rw [HE.out]; exact ⟨HX.out.kx, false, bs1, rfl, hm1, hp1⟩
          clear hm1 hp1
          go_wp2_with fail
          go_ret
          exact HF.out _ _ HR.out
    · have q14 := int_bne h14
      have q14b : (k != 14) = true := by simp [bne, q14]
      have eH : HL = [] := by rw [HH.out, if_neg h8, if_neg h14]
      have HR : Hid (HoQ W0 l M s HL bs (.returned (.bool false)) W0) := by rw [eH]; exact ⟨Kx.refl _ _, false, bs, rfl, HMT.out, HoP.nil _ _ _⟩
      clear h8 h14
      subst hW0
      go_enter Try.func26, Try.ntmps26
      go_wp2_with fail
      go_ret
      exact HF.out _ _ HR.out
end Go.Proofs.Ytpcpncgigdebiaa

/-
  The document's chain, walked: what it answers, to the letter.
-/
namespace Go.Proofs.Ytpcpncgigdebiaa
open Go.RowKit
attribute [local go_sem ↓] Go.wp_at_zero Go.wp_at_succ
/-- does a way of declared types that are declared as another one go on for n steps? -/
def chn (l : List Nmd) : Nat → ByteArray → Bool
  | 0, _ => true
  | n + 1, s => match l.find? (fun t => decide (t.name = s)) with
    | none => false
    | some u => if u.under.kind = 8 ∧ 0 ≤ fnd l u.under.name then chn l n u.under.name else false
theorem chn_step {l : List Nmd} (hd : (l.map Nmd.name).Nodup) {k : Nat} (hk : k < l.length) (n : Nat) : chn l (n + 1) (l[k]).name = if (l[k]).under.kind = 8 ∧ 0 ≤ fnd l (l[k]).under.name then chn l n (l[k]).under.name else false := by
  obtain ⟨u, hf, hu, e⟩ := find_name (List.mem_map_of_mem (f := Nmd.name) (List.getElem_mem hk))
  have : u = l[k] := nodup_name hd hu (List.getElem_mem hk) e
  subst this
  simp only [chn, hf]
theorem chn_way {l : List Nmd} (hd : (l.map Nmd.name).Nodup) : ∀ (n : Nat) (s : ByteArray), s ∈ l.map Nmd.name → chn l n s = true → ∃ f : Nat → ByteArray, f 0 = s ∧ (∀ i, i < n + 1 → f i ∈ l.map Nmd.name) ∧ ∀ i, i + 1 < n + 1 → f (i + 1) ∈ Hf l (f i)
  | 0, s, hs, _ => ⟨fun _ => s, rfl, fun _ _ => hs, fun i hi => by omega⟩
  | n + 1, s, hs, h => by
    obtain ⟨u, hf, hu, e⟩ := find_name hs
    simp only [chn, hf] at h
    by_cases hc : u.under.kind = 8 ∧ 0 ≤ fnd l u.under.name
    · rw [if_pos hc] at h
      have hm := (fnd_mem u.under.name l).2 hc.2
      obtain ⟨f, f0, f1, f2⟩ := chn_way hd n _ hm h
      refine ⟨fun i => match i with | 0 => s | j + 1 => f j, rfl, fun i hi => ?_, fun i hi => ?_⟩
      · cases i with
        | zero => exact hs
        | succ j => exact f1 j (by omega)
      · cases i with
        | zero =>
          show f 0 ∈ Hf l s
          rw [f0, ← e, Hf_in hd hu]
          exact hol_named hc.1 hm
        | succ j => exact f2 j (by omega)
    · rw [if_neg hc] at h; cases h
theorem chn_circle {l : List Nmd} (hd : (l.map Nmd.name).Nodup) {s : ByteArray} (hs : s ∈ l.map Nmd.name) (h : chn l (l.length + 1) s = true) : ∃ a ∈ l.map Nmd.name, Rch (Hf l) a a := by
  obtain ⟨f, _, f1, f2⟩ := chn_way hd _ s hs h
  exact way_circle f (l.length + 2) (by simp) f1 f2
set_option maxRecDepth 100000 in
set_option maxHeartbeats 8000000 in
theorem chain_det {B : BQ} {w : World} {V : Nat} {l : List Nmd} {s : ByteArray} (hT : W8S B w V l) (hd : (l.map Nmd.name).Nodup) (hl : l.length ≤ 1000000) (hs : s ∈ l.map Nmd.name) : Calls Try.prog 25 #[.pointer (some ⟨V, 0, none⟩), .string s] w fun e w' => e = .returned (.bool (chn l (l.length + 1) s)) ∧ Below w.heap.size w w' := by
  obtain ⟨k, hk, e1, e2⟩ := fnd_get s l ((fnd_mem s l).1 hs)
  have hfd := rfind_any hT s
  rw [e1] at hfd
  obtain ⟨R, hR⟩ : ∃ R, R = chn l (l.length + 1) s := ⟨_, rfl⟩
  rw [← hR]
  have HT : Hid (W8S B w V l) := hT
  have HD : Hid ((l.map Nmd.name).Nodup) := hd
  have HC0 : Hid (Below w.heap.size w w ∧ ∃ hk : k < l.length, chn l (l.length + 1 - 0) (l[k]).name = R) := ⟨Below.refl _ _, hk, by rw [e2]; exact hR.symm⟩
  clear hT hd hs e1 e2 hR
  go_enter Try.func25, Try.ntmps25
  go_wp2_with (go_at_call 24; refine hfd.mono ?_; rintro e w4 ⟨rfl, hw4⟩; subst hw4; clear hfd)
  go_loopg [5, 6] (l.length + 1) (fun g u5 u6 wr => ∃ (k n : Nat), n ≤ l.length + 1 ∧ l.length + 1 - n ≤ g ∧ u5 = .int .i64 k ∧ u6 = .int .i64 n ∧ Hid (Below w4.heap.size w4 wr ∧ ∃ hk : k < l.length, chn l (l.length + 1 - n) (l[k]).name = R))
  case atStart => exact ⟨k, 0, Nat.zero_le _, by omega, rfl, rfl, HC0⟩
  case round =>
    clear HC0
    obtain ⟨k, n, hn, hg, rfl, rfl, HX⟩ := hrel
    have HW : Hid (W8S B wr V l) := HT.out.kept HX.out.1
    obtain ⟨v, hcv, hsl⟩ := HW.out
    obtain ⟨a0, c0, rfl, _, hel⟩ := hsl.open
    have vV := World.block_lt_of_cell? _ _ hcv
    by_cases hle : n ≤ l.length
    · have z1 : (n : Int) ≤ (l.length : Int) := by omega
      obtain ⟨_, hk', hch⟩ := HX.out
      obtain ⟨b, o, rfl, hbl, _, hli⟩ := hel k hk'
      obtain ⟨_, hun, _⟩ := hli
      obtain ⟨k1, k2, k3, k4, xn, xm, xk, k5, k6, k7, hpr⟩ := lies_iff.1 hun
      obtain ⟨a1, c1, a2, c2, a3, c3, rfl, rfl, rfl⟩ := hpr.form
      have z2 : (0 : Int) ≤ (k : Int) := by omega
      have z3 : (k : Int) < (l.length : Int) := by omega
      have HKL : Hid (k < l.length) := hk'
      have hst := chn_step HD.out hk' (l.length - n)
      rw [show l.length - n + 1 = l.length + 1 - n by omega, hch] at hst
      by_cases h8 : (l[k]).under.kind = 8
      · have hfd := rfind_any (HW.out.kept (below_alloc wr (.cells #[.int .i64 (l[k]).under.kind, .string (l[k]).under.name, .int .i64 (l[k]).under.n, .bool (l[k]).under.flag, .slice a1 (l[k]).under.names.length c1, .slice a2 (l[k]).under.marks.length c2, .slice a3 (l[k]).under.kids.length c3] 27))) (l[k]).under.name
        by_cases hneg : fnd l (l[k]).under.name < 0
        · have hRf : R = false := by rw [hst, if_neg (fun h => by have := h.2; omega)]
          subst hRf
          generalize fnd l (l[k]).under.name = q at hfd hneg
          clear hun hpr hel hsl hst hch
          go_wp2_with (go_at_call 24; refine hfd.mono ?_; rintro e w5 ⟨rfl, hw5⟩; subst hw5; clear hfd)
          go_ret
          exact ⟨rfl, bthen HX.out.1 (below_alloc _ _)⟩
        · obtain ⟨j, hj, e1, e2⟩ := fnd_get (l[k]).under.name l (by omega)
          rw [e1] at hfd
          have z4 : ¬ (j : Int) < 0 := by omega
          have HST : Hid (∀ W', Below wr.heap.size wr W' → Below w4.heap.size w4 W' ∧ ∃ hk : j < l.length, chn l (l.length + 1 - (n + 1)) (l[j]).name = R) := fun W' hb => ⟨bthen HX.out.1 hb, hj, by
            rw [hst, if_pos ⟨h8, by omega⟩, e2, show l.length + 1 - (n + 1) = l.length - n by omega]; rfl⟩
          clear hun hpr hel hsl e1 e2 hneg hst hch
          go_wp2_with (go_at_call 24; refine hfd.mono ?_; rintro e w5 ⟨rfl, hw5⟩; subst hw5; clear hfd)
          go_roundg (l.length + 1 - (n + 1))
          case measure => omega
          case rel => exact ⟨j, n + 1, by omega, Nat.le_refl _, rfl, by go_num, HST.out _ (below_alloc _ _)⟩
      · have hRf : R = false := by rw [hst, if_neg (fun h => h8 h.1)]
        subst hRf
        clear hun hpr hel hsl hst hch
        go_wp2_with fail
        go_ret
        exact ⟨rfl, bthen HX.out.1 (below_alloc _ _)⟩
    · have z1 : ¬ (n : Int) ≤ (l.length : Int) := by omega
      obtain ⟨_, hk', hch⟩ := HX.out
      have hRt : R = true := by
        rw [← hch, show l.length + 1 - n = 0 by omega]
        rfl
      subst hRt
      clear hel hsl hch
      go_wp2_with fail
      go_ret
      exact ⟨rfl, HX.out.1⟩
end Go.Proofs.Ytpcpncgigdebiaa

/-
  A row of declared types of a call's own.
-/
namespace Go.Proofs.Ytpcpncgigdebiaa
open Go.RowKit
theorem infoD : (Try.prog.info? 40).map (fun i => (i.zero, i.size, i.bytes)) = some (some (.agg #[.string ⟨#[]⟩, .int .i64 0, .string ⟨#[]⟩, .int .i64 0, .bool false, .slice none 0 0, .slice none 0 0, .slice none 0 0, .slice none 0 0]), 9, 152) := by kernel_rfl
theorem infoD_ex : ∃ i, Try.prog.info? 40 = some i ∧ i.zero = some (.agg #[.string ⟨#[]⟩, .int .i64 0, .string ⟨#[]⟩, .int .i64 0, .bool false, .slice none 0 0, .slice none 0 0, .slice none 0 0, .slice none 0 0]) ∧ i.size = 9 ∧ i.bytes = 152 := by
  obtain ⟨i0, hi, h1, h2, h3⟩ := info_parts infoD
  exact ⟨i0, hi, h1, h2, h3⟩
/-- the four slices of a declared type -/
structure V4 where
  t : V3
  s : Value
/-- its cells -/
def celN (x : Nmd) (v : V4) : List Value := [.string x.name, .int .i64 x.under.kind, .string x.under.name, .int .i64 x.under.n, .bool x.under.flag, v.t.n, v.t.m, v.t.k, v.s]
def flatN : List Nmd → List V4 → List Value
  | x :: l, v :: vs => celN x v ++ flatN l vs
  | _, _ => []
theorem flatN_append (l : List Nmd) (vs : List V4) (h : vs.length = l.length) (l' : List Nmd) (vs' : List V4) : flatN (l ++ l') (vs ++ vs') = flatN l vs ++ flatN l' vs' := by
  induction l generalizing vs with
  | nil => cases vs with
    | nil => simp [flatN]
    | cons _ _ => simp at h
  | cons x l ih => cases vs with
    | nil => simp at h
    | cons v vs => simp [flatN, ih vs (by simpa using h)]
theorem flatN_get (l : List Nmd) (vs : List V4) (h : vs.length = l.length) (i : Nat) (hi : i < l.length) (j : Nat) (hj : j < 9) : (flatN l vs)[i * 9 + j]? = (celN l[i] (vs[i]'(h ▸ hi)))[j]? := by
  induction l generalizing vs i with
  | nil => cases hi
  | cons x l ih => cases vs with
    | nil => simp at h
    | cons v vs =>
      cases i with
      | zero =>
        simp only [flatN, List.getElem_cons_zero, Nat.zero_mul, Nat.zero_add]
        rw [List.getElem?_append_left (by simp [celN]; omega)]
      | succ i =>
        have := ih vs (by simpa using h) i (by simpa using hi)
        simp only [List.getElem_cons_succ, flatN]
        rw [List.getElem?_append_right (by simp [celN]; omega), ← this]
        congr 1
        simp [celN]; omega
/-- between two rounds of New's first loop -/
structure RnS (w : World) (acc : List Nmd) (u : Value) (W : World) : Prop where
  bl : Below w.heap.size w W
  bx : W.heap[w.heap.size]? = some (.cells #[u] 60 (0, 0))
  ex : ∃ vs : List V4, ∃ h : vs.length = acc.length, W.ownsRow (w.heap.size + 1) 40 9 u acc.length (flatN acc vs) ∧ ∀ i (hi : i < acc.length), NmP (fun b => b < w.heap.size) W acc[i] (vs[i]'(h ▸ hi)).t.n (vs[i]'(h ▸ hi)).t.m (vs[i]'(h ▸ hi)).t.k (vs[i]'(h ▸ hi)).s
theorem RnS.kept {w : World} {acc : List Nmd} {u : Value} {W W' : World} (h : RnS w acc u W) (hb : Below W.heap.size W W') : RnS w acc u W' := by
  obtain ⟨vs, hl, ho, hs⟩ := h.ex
  exact ⟨bthen h.bl hb, blk_kept hb h.bx, vs, hl, own_kept ho hb, fun i hi => (hs i hi).kept hb⟩
/-- it reads as the document's world -/
theorem RnS.w8 {w : World} {acc : List Nmd} {u : Value} {W : World} (h : RnS w acc u W) (hm : (acc.length : Int) ≤ 9223372036854775807) : W8S (fun _ => True) W w.heap.size acc := by
  obtain ⟨vs, hl, ho, hs⟩ := h.ex
  refine ⟨u, by rw [cell_of h.bx]; rfl, ?_⟩
  rcases ho.2 with ⟨h0, h1⟩ | ⟨g, cap, cur, rfl, h1, h2, h3, h4, h5, h6⟩
  · exact .inl ⟨_, _, h0, List.eq_nil_of_length_eq_zero h1⟩
  · refine .inr ⟨g, 0, cap, rfl, hm, (Array.getElem?_eq_some_iff.1 h2).1, trivial, fun i hi => ?_⟩
    have hc : ∀ j, j < 9 → W.cell? ⟨g, 0 + i * 9 + j, none⟩ = (celN acc[i] (vs[i]'(hl ▸ hi)))[j]? := fun j hj => by
      rw [← flatN_get acc vs hl i hi j hj, cell_of h2, ← h6, List.getElem?_take, if_pos (by omega), Array.getElem?_toList]
      congr 1; omega
    have c0 := hc 0 (by omega)
    rw [Nat.add_zero] at c0
    refine ⟨c0, lies_iff.2 ⟨hc 1 (by omega), hc 2 (by omega), hc 3 (by omega), hc 4 (by omega), _, _, _, hc 5 (by omega), hc 6 (by omega), hc 7 (by omega), ((hs i hi).with (fun _ _ _ => trivial)).un⟩, _, hc 8 (by omega), ((hs i hi).with (fun _ _ _ => trivial)).ms⟩
/-- a declared type more, and the row stored -/
theorem RnS.push {w : World} {acc : List Nmd} {u : Value} {wr w1 w9 : World} {y : Nmd} {vn vm vk vy : Value} {gg cap : Nat} {vs : List V4} (h : RnS w acc u wr) (hvl : vs.length = acc.length)
    (hsv : ∀ i (hi : i < acc.length), NmP (fun b => b < w.heap.size) wr acc[i] (vs[i]'(hvl ▸ hi)).t.n (vs[i]'(hvl ▸ hi)).t.m (vs[i]'(hvl ▸ hi)).t.k (vs[i]'(hvl ▸ hi)).s)
    (hlt : ∀ k, u.ownBlock = some k → w.heap.size + 1 ≤ k ∧ k < wr.heap.size) (hy : NmP (fun b => b < w.heap.size) wr y vn vm vk vy) (hb1 : Below wr.heap.size wr w1)
    (hg : w1.grownBy w9 u.ownBlock)
    (hown : w9.ownsRow (w.heap.size + 1) 40 9 (.slice (some ⟨gg, 0, none⟩) (acc.length + 1) cap) (acc.length + 1) (flatN acc vs ++ celN y ⟨⟨vn, vm, vk⟩, vy⟩)) :
    RnS w (acc ++ [y]) (.slice (some ⟨gg, 0, none⟩) (acc.length + 1) cap) (w9.setCell ⟨w.heap.size, 0, none⟩ (.slice (some ⟨gg, 0, none⟩) (acc.length + 1) cap)) := by
  have hk9 := grownBy_kx hg
  have hz := h.bl.size
  have hz1 := hb1.size
  have hX : ∀ b, u.ownBlock = some b → w.heap.size + 1 ≤ b := fun b e => (hlt b e).1
  have hx0 : w.heap.size < wr.heap.size := (Array.getElem?_eq_some_iff.1 h.bx).1
  have hks : Kx (· = w.heap.size) w9 (w9.setCell ⟨w.heap.size, 0, none⟩ (.slice (some ⟨gg, 0, none⟩) (acc.length + 1) cap)) := kx_set
  have hk : Kx (fun b => u.ownBlock = some b ∨ b = w.heap.size) wr (w9.setCell ⟨w.heap.size, 0, none⟩ (.slice (some ⟨gg, 0, none⟩) (acc.length + 1) cap)) := by
    have k1 : Kx (fun b => u.ownBlock = some b ∨ b = w.heap.size) wr w1 := Kx.of_whole hb1
    have k2 : Kx (fun b => u.ownBlock = some b ∨ b = w.heap.size) w1 w9 := ⟨hk9.os, hk9.tape, hk9.output, hk9.size, fun b o hb hx => hk9.keep b o hb (fun e => hx (.inl e))⟩
    have k3 : Kx (fun b => u.ownBlock = some b ∨ b = w.heap.size) w9 (w9.setCell ⟨w.heap.size, 0, none⟩ (.slice (some ⟨gg, 0, none⟩) (acc.length + 1) cap)) := ⟨hks.os, hks.tape, hks.output, hks.size, fun b o hb hx => hks.keep b o hb (fun e => hx (.inr e))⟩
    exact (k1.trans k2).trans k3
  have hnX : ∀ b, b < w.heap.size → ¬ (u.ownBlock = some b ∨ b = w.heap.size) := fun b hb e => by
    rcases e with e | e
    · have := hX b e; omega
    · omega
  have hb9 : w9.heap[w.heap.size]? = some (.cells #[u] 60 (0, 0)) := hk9.keep _ _ (blk_kept hb1 h.bx) (fun e => by have := hX _ e; omega)
  have hl1 : (vs ++ [(⟨⟨vn, vm, vk⟩, vy⟩ : V4)]).length = (acc ++ [y]).length := by simp [hvl]
  refine ⟨?_, ?_, vs ++ [⟨⟨vn, vm, vk⟩, vy⟩], hl1, ?_, fun i hi => ?_⟩
  · have hkk := hk.below (n := w.heap.size) hz (fun b hb => hnX b hb)
    exact h.bl.trans hkk
  · simp [World.setCell, Array.getElem?_modify, hb9]
  · rw [flatN_append acc vs hvl, List.length_append]
    have e1 : flatN [y] [(⟨⟨vn, vm, vk⟩, vy⟩ : V4)] = celN y ⟨⟨vn, vm, vk⟩, vy⟩ := by simp [flatN]
    rw [e1]
    refine ⟨hown.1, ?_⟩
    rcases hown.2 with h0 | ⟨g, cap', cur, e, h1, h2, h3⟩
    · exact .inl h0
    · exact .inr ⟨g, cap', cur, e, h1, hks.keep _ _ h2 (by omega), h3⟩
  · rcases Nat.lt_or_ge i acc.length with h1 | h1
    · have := (hsv i h1).to hk (fun _ _ h => h) (fun b _ hb => hnX b hb)
      simpa [List.getElem_append, h1, hvl ▸ h1] using this
    · have hi2 : i = acc.length := by simp at hi; omega
      subst hi2
      have := hy.to hk (fun _ _ h => h) (fun b _ hb => hnX b hb)
      simpa [List.getElem_append, hvl] using this
end Go.Proofs.Ytpcpncgigdebiaa

