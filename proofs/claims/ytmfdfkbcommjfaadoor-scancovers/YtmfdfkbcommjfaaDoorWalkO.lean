/-
  piece whole, and all of the reader, walked.
-/
import Derived.Test.YtmfdfkbcommjfaaDoorWalkN
import Derived.Test.YtmfdfkbcommjfaaDoorPcEnd
namespace Go.Proofs.YtmfdfkbcommjfaaDoor
open Go.RowKit
attribute [local go_sem ↓] Go.wp_at_zero Go.wp_at_succ
theorem piece_any (w : World) (base R : Nat) (S : ByteArray) (s : St) (h : Rd w base R S s) (p : Nat) (hp : p < S.size) (hS : S.size ≤ 65536) (hl : s.toks.length ≤ 999999) (hl2 : s.rems.length ≤ 999999) (hv : Vs S p) (hM : Mx w) :
    Calls Tryd.prog 48 #[.pointer (some ⟨R, 0, none⟩), .int .i64 p, .int .i32 (((Utf8.decode S p).1 : Nat) : Int)] w (PP w base R S s p (pcOf (S.data.toList.drop p))) := by
  by_cases q10 : S[p]'hp = 10
  · exact pc_line w base R S s h p hp hS hl hl2 q10
  by_cases qb : S[p]'hp = 32 ∨ S[p]'hp = 9 ∨ S[p]'hp = 13
  · rcases qb with q | q | q
    · exact pc_blank32 w base R S s h p hp hS hl hl2 q
    · exact pc_blank9 w base R S s h p hp hS hl hl2 q
    · exact pc_blank13 w base R S s h p hp hS hl hl2 q
  cases hnl : ltr (S[p]'hp) with
  | true =>
    by_cases hn : 60 < run lod (S.data.toList.drop p)
    · exact pc_name_bad w base R S s h p hp hS hl hl2 hnl hn
    · exact pc_name_ok w base R S s h p hp hS hl hl2 hnl hn
  | false =>
  cases hnd : dgt (S[p]'hp) with
  | true =>
    cases hn : numBad (S.data.toList.drop p) (run dgt (S.data.toList.drop p)) with
    | true => exact pc_num_bad w base R S s h p hp hS hl hl2 hnl hnd hn
    | false => exact pc_num_ok w base R S s h p hp hS hl hl2 hnl hnd hn
  | false =>
  by_cases q34 : S[p]'hp = 34
  · cases hs : strL (S.data.toList.drop (p + 1)) false 1 [] with
    | error o => exact pc_str_bad w base R S s h p hp hS hl hl2 hv q34 o hs
    | ok y => obtain ⟨n, x⟩ := y; exact pc_str_ok w base R S s h p hp hS hl hl2 hv q34 n x hs
  by_cases qs : S[p]'hp = 47 ∧ (S.data.toList.drop (p + 1)).head? = some 47
  · exact pc_short w base R S s h p hp hS hl hl2 qs.1 qs.2
  by_cases ql : S[p]'hp = 47 ∧ (S.data.toList.drop (p + 1)).head? = some 42
  · cases hk : endOf (S.data.toList.drop (p + 2)) with
    | none => exact pc_long_bad w base R S s h p hp hS hl hl2 hM ql.1 ql.2 hk
    | some k => exact pc_long_ok w base R S s h p hp hS hl hl2 hM ql.1 ql.2 k hk
  by_cases q59 : S[p]'hp = 59
  · exact pc_semi w base R S s h p hp hS hl hl2 q59
  by_cases hn : sgn (S[p]'hp) ((S.data.toList.drop (p + 1)).headD 0) (((S.data.toList.drop (p + 1)).drop 1).headD 0) = 0
  · exact pc_sign_bad w base R S s h p hp hS hl hl2 q10 qb hnl hnd q34 qs ql q59 hn
  · exact pc_sign_ok w base R S s h p hp hS hl hl2 q10 qb hnl hnd q34 qs ql q59 hn
/-- what all does -/
def LP (w : World) (base R : Nat) (S : ByteArray) (V : Except Nat St) (e : Ending) (w' : World) : Prop :=
  match V with
  | .ok s => AddP w base R S s (.tuple #[]) e w'
  | .error o => PanP w base o e w'
theorem LP.ok {w : World} {base R : Nat} {S : ByteArray} {V : Except Nat St} {s : St} {e : Ending} {w' : World} (hV : .ok s = V) (h : AddP w base R S s (.tuple #[]) e w') : LP w base R S V e w' := by subst hV; exact h
theorem LP.bad {w : World} {base R : Nat} {S : ByteArray} {V : Except Nat St} {o : Nat} {e : Ending} {w' : World} (hV : .error o = V) (h : PanP w base o e w') : LP w base R S V e w' := by subst hV; exact h
structure LR (w : World) (base R : Nat) (S : ByteArray) (V : Except Nat St) (u : Value) (wr : World) : Prop where
  ex : ∃ (pos d : Nat) (s : St), u = .int .i64 d ∧ Rd wr base R S s ∧ wr.heap[w.heap.size]? = some (.stringIter S pos) ∧ Below base w wr ∧ Oth R w wr ∧ pos ≤ d ∧ d ≤ S.size ∧ pos ≤ S.size ∧ (pos < d → Bd S.data.toList d) ∧ Vs S pos ∧
    s.toks.length ≤ d ∧ s.rems.length ≤ d ∧ scn (S.data.toList.drop pos) (d - pos) pos s = V
theorem Oth.iter {R k : Nat} {w w' : World} {S : ByteArray} {pos : Nat} (h : Oth R w w') (hk : w.heap[k]? = some (.stringIter S pos)) (hne : k ≠ R) : w'.heap[k]? = some (.stringIter S pos) :=
  h k _ hk hne (fun c e fz q => by cases q)
theorem Rd.iterAt {w : World} {base R k : Nat} {S T : ByteArray} {s : St} {pos : Nat} (h : Rd w base R S s) (hk : w.heap[k]? = some (.stringIter T pos)) (pos' : Nat) : Rd (w.iterAt k T pos') base R S s := by
  obtain ⟨hle, tv, rv, hR, ht, hr⟩ := h
  have far : ∀ {j : Nat} {c : Array Value} {e : TypeId} {fz : Nat × Nat}, w.heap[j]? = some (.cells c e fz) → (w.iterAt k T pos').heap[j]? = w.heap[j]? := fun hj => Lib.iterAt_other w k _ T pos' (fun e => by rw [e, hk] at hj; cases hj)
  exact ⟨hle, tv, rv, (far hR).trans hR, own_far ht (fun j hj => far (own_blk ht hj).2.choose_spec), own_far hr (fun j hj => far (own_blk hr hj).2.choose_spec)⟩
theorem oth_iterAt {R k : Nat} {w W : World} {T : ByteArray} {pos : Nat} (h : Oth R w W) (hk : w.heap.size ≤ k) : Oth R w (W.iterAt k T pos) := fun j o hj hR ho => by
  have := (Array.getElem?_eq_some_iff.1 hj).1
  rw [Lib.iterAt_other W k j T pos (by omega)]; exact h j o hj hR ho
theorem PP.get {w : World} {base R : Nat} {S : ByteArray} {s : St} {p : Nat} {pc : Pc} {e : Ending} {w' : World} (hn : ∀ o, pc ≠ .bad o) (h : PP w base R S s p pc e w') : AddP w base R S (stp p s pc) (.int .i64 ((p + pc.len : Nat) : Int)) e w' := by
  cases pc with
  | bad o => exact absurd rfl (hn o)
  | line => exact h
  | blank => exact h
  | tok k n x => exact h
  | rmk n l => exact h
theorem PP.get_bad {w : World} {base R : Nat} {S : ByteArray} {s : St} {p o : Nat} {pc : Pc} {e : Ending} {w' : World} (hn : pc = .bad o) (h : PP w base R S s p pc e w') : PanP w base (p + o) e w' := by subst hn; exact h
theorem scn_round {S : ByteArray} {pos n : Nat} (hp : pos < S.size) (s : St) (h : ∀ o, pcOf (S.data.toList.drop pos) ≠ .bad o) (h1 : 1 ≤ n) (hn : n ≤ (pcOf (S.data.toList.drop pos)).len) (hl : pos + n ≤ S.size) :
    scn (S.data.toList.drop pos) 0 pos s = scn (S.data.toList.drop (pos + n)) ((pcOf (S.data.toList.drop pos)).len - n) (pos + n) (stp pos s (pcOf (S.data.toList.drop pos))) := by
  have hd := drop_cons S pos hp
  rw [hd] at h hn ⊢
  rw [scn_ok h, scn_skip _ (n - 1) _ _ _ (by omega) (by rw [List.length_drop, bal]; omega), List.drop_drop]
  rw [show pos + 1 + (n - 1) = pos + n by omega, show (pcOf (S[pos]'hp :: S.data.toList.drop (pos + 1))).len - 1 - (n - 1) = (pcOf (S[pos]'hp :: S.data.toList.drop (pos + 1))).len - n by omega]
theorem scn_end {S : ByteArray} {pos : Nat} (hp : ¬ pos < S.size) (k : Nat) (s : St) : scn (S.data.toList.drop pos) k pos s = .ok ⟨eol pos s.toks ++ [⟨7, pos, pos, []⟩], s.rems⟩ := by
  rw [List.drop_of_length_le (by rw [bal]; omega)]; cases k <;> rfl
set_option maxRecDepth 100000 in
set_option maxHeartbeats 4000000 in
theorem all_any (w : World) (base R : Nat) (S : ByteArray) (h : Rd w base R S ⟨[], []⟩) (hS : S.size ≤ 65536) (hv : Vs S 0) (hM : Mx w) (hb3 : 3 ≤ base) :
    Calls Tryd.prog 35 #[.pointer (some ⟨R, 0, none⟩)] w (LP w base R S (scn S.data.toList 0 0 ⟨[], []⟩)) := by
  have c0 := h.cell0
  have hlt := h.lt
  have hle := h.le
  obtain ⟨V, hV⟩ : ∃ V, scn S.data.toList 0 0 ⟨[], []⟩ = V := ⟨_, rfl⟩
  rw [hV]
  have HV : Hid (scn S.data.toList 0 0 ⟨[], []⟩ = V) := hV
  have HH : Hid (Rd w base R S ⟨[], []⟩) := h
  have HVs : Hid (Vs S 0) := hv
  have HM : Hid (Mx w) := hM
  clear hV h hv hM
  go_enter Tryd.func35, Tryd.ntmps35
  go_wp2_with fail
  go_loopw [2] (fun u wr => LR w base R S V u wr) (fun _ wr => S.size - wr.iterPos w.heap.size)
  case atStart =>
    have hb := (Below.refl w.heap.size w).alloc (Nat.le_refl _) (.stringIter S 0)
    exact ⟨0, 0, ⟨[], []⟩, rfl, HH.out.below hb, World.iter_heap w S 0, hb.mono (by omega), Oth.below hb, Nat.le_refl _, Nat.zero_le _, Nat.zero_le _, fun h => absurd h (by omega), HVs.out, Nat.zero_le _, Nat.zero_le _, HV.out⟩
  case round =>
    obtain ⟨pos, d, s, rfl, hrd, hit, hbw, hot, hpd, hds, hps, hbd, hvs, hlt1, hlr1, hV⟩ := hrel.ex
    clear hrel
    have HVV : Hid (scn (S.data.toList.drop pos) (d - pos) pos s = V) := hV
    have HVS : Hid (Vs S pos) := hvs
    have HBW : Hid (Below base w wr) := hbw
    have HOT : Hid (Oth R w wr) := hot
    have HRD : Hid (Rd wr base R S s) := hrd
    have HIT : Hid (wr.heap[w.heap.size]? = some (.stringIter S pos)) := hit
    have HBD : Hid (pos < d → Bd S.data.toList d) := hbd
    have hsz : w.heap.size < wr.heap.size := (Array.getElem?_eq_some_iff.1 hit).1
    by_cases hlt2 : pos < S.size
    · have hnx : ∀ ty, (Instr.next (.pointer (some ⟨w.heap.size, 0, none⟩)) true ty).run Tryd.prog wr = _ := fun ty => Lib.run_next_any_at wr w.heap.size S pos ty hit hlt2
      have hwd := width_pos S pos hlt2
      have hwl := width_le S pos hlt2
      have HIT2 : Hid ((wr.iterAt w.heap.size S (pos + (Utf8.decode S pos).2)).heap[w.heap.size]? = some (.stringIter S (pos + (Utf8.decode S pos).2))) := Lib.iterAt_heap wr w.heap.size S pos (pos + (Utf8.decode S pos).2) hit
      have HB2 : Hid (Below base w (wr.iterAt w.heap.size S (pos + (Utf8.decode S pos).2))) := Lib.below_iterAt hbw (k := w.heap.size) (by omega) S (pos + (Utf8.decode S pos).2)
      have HO2 : Hid (Oth R w (wr.iterAt w.heap.size S (pos + (Utf8.decode S pos).2))) := oth_iterAt hot (Nat.le_refl _)
      have HR2 : Hid (Rd (wr.iterAt w.heap.size S (pos + (Utf8.decode S pos).2)) base R S s) := hrd.iterAt hit _
      have HNV : Hid (Vs S (pos + (Utf8.decode S pos).2)) := hvs.step hlt2
      have HM2 : Hid (Mx (wr.iterAt w.heap.size S (pos + (Utf8.decode S pos).2))) := HM.out.below HB2.out hb3
      clear hit hbw hot hV hvs hrd hbd
      by_cases hdp : pos < d
      · have hstep := bd_step hlt2 (HBD.out hdp) hdp
        have HE : Hid (scn (S.data.toList.drop (pos + (Utf8.decode S pos).2)) (d - (pos + (Utf8.decode S pos).2)) (pos + (Utf8.decode S pos).2) s = V) := by
          have := HVV.out
          rw [scn_skip _ (Utf8.decode S pos).2 _ _ _ (by omega) (by rw [List.length_drop, bal]; omega), List.drop_drop] at this
          rw [show d - (pos + (Utf8.decode S pos).2) = d - pos - (Utf8.decode S pos).2 by omega]
          exact this
        have k1 : ¬ (d : Int) ≤ (pos : Int) := by omega
        generalize hW2 : wr.iterAt w.heap.size S (pos + (Utf8.decode S pos).2) = W2 at *
        generalize hD : Utf8.decode S pos = D at *
        obtain ⟨c, n⟩ := D
        clear hD hW2
        simp only at *
        go_wp2_with fail
        go_roundw
        case rel => exact ⟨pos + n, d, s, rfl, HR2.out, HIT2.out, HB2.out, HO2.out, hstep, hds, hwl, fun h => HBD.out (by omega), HNV.out, hlt1, hlr1, HE.out⟩
        case measure =>
          simp only [World.iterPos, HIT2.out, HIT.out]
          omega
      · obtain rfl : d = pos := by omega
        have k1 : (d : Int) ≤ (d : Int) := by omega
        have h48 := piece_any (wr.iterAt w.heap.size S (d + (Utf8.decode S d).2)) base R S s HR2.out d hlt2 hS (by omega) (by omega) HVS.out HM2.out
        rw [Nat.sub_self] at HVV
        by_cases hbad : ∃ o, pcOf (S.data.toList.drop d) = .bad o
        · obtain ⟨o, ho⟩ := hbad
          have HE : Hid (.error (d + o) = V) := by
            have q := HVV.out
            rw [drop_cons S d hlt2] at q ho
            rw [scn_bad ho] at q
            exact q
          have HPB : Hid (pcOf (S.data.toList.drop d) = .bad o) := ho
          clear ho
          generalize hW2 : wr.iterAt w.heap.size S (d + (Utf8.decode S d).2) = W2 at *
          generalize pcOf (S.data.toList.drop d) = pc at *
          generalize hD : Utf8.decode S d = D at *
          obtain ⟨c, n⟩ := D
          clear hD hW2
          simp only at *
          go_wp2_with (go_at_call 48; refine h48.mono ?_; intro e w3 h3; have h3 := PP.get_bad HPB.out h3; obtain rfl := h3.pan; have H3 : Hid _ := h3.bl; clear h3)
          exact ⟨rfl, LP.bad HE.out ⟨rfl, HB2.out.trans H3.out⟩⟩
        · have hno : ∀ o, pcOf (S.data.toList.drop d) ≠ .bad o := fun o h => hbad ⟨o, h⟩
          obtain ⟨e1, e2⟩ := pc_end _ (drop_ne hlt2) hno
          have e3 := bd_drop e2 (by rw [bal]; omega)
          have e4 := bd_step hlt2 e3 (by omega)
          have e5 := e3.1
          rw [bal] at e5
          have HE : Hid (scn (S.data.toList.drop (d + (Utf8.decode S d).2)) ((pcOf (S.data.toList.drop d)).len - (Utf8.decode S d).2) (d + (Utf8.decode S d).2) (stp d s (pcOf (S.data.toList.drop d))) = V) := by
            have q := HVV.out
            rw [scn_round hlt2 s hno hwd (by omega) hwl] at q
            exact q
          have e6 := stp_len d s (pcOf (S.data.toList.drop d))
          have HN : Hid (∀ o, pcOf (S.data.toList.drop d) ≠ .bad o) := hno
          have HE3 : Hid (Bd S.data.toList (d + (pcOf (S.data.toList.drop d)).len)) := e3
          clear hbad hno e2 e3 HVV
          generalize hW2 : wr.iterAt w.heap.size S (d + (Utf8.decode S d).2) = W2 at *
          generalize pcOf (S.data.toList.drop d) = pc at *
          generalize hD : Utf8.decode S d = D at *
          obtain ⟨c, n⟩ := D
          clear hD hW2
          simp only at *
          generalize hS2 : stp d s pc = s2 at *
          have HS2 : Hid (stp d s pc = s2) := hS2
          clear hS2
          go_wp2_with (go_at_call 48; refine h48.mono ?_; intro e w3 h3; have h3 := PP.get HN.out h3; obtain rfl := h3.ret; have H3 : Hid (AddP W2 base R S (stp d s pc) (.int .i64 ((d + pc.len : Nat) : Int)) (.returned (.int .i64 ((d + pc.len : Nat) : Int))) w3) := h3; clear h3)
          go_roundw
          case rel =>
            refine ⟨d + n, d + pc.len, s2, rfl, ?_, H3.out.ot.iter HIT2.out (by omega), HB2.out.trans H3.out.bl, HO2.out.trans H3.out.ot, e4, e5, hwl, fun _ => HE3.out, HNV.out, by omega, by omega, ?_⟩
            · have := H3.out.rd; rw [HS2.out] at this; exact this
            · rw [show d + pc.len - (d + n) = pc.len - n by omega]; exact HE.out
          case measure =>
            simp only [World.iterPos, H3.out.ot.iter HIT2.out (by omega), HIT.out]
            omega
    · have hnx : ∀ ty, (Instr.next (.pointer (some ⟨w.heap.size, 0, none⟩)) true ty).run Tryd.prog wr = _ := fun ty => Lib.run_next_end_at wr w.heap.size S pos ty hit hlt2
      obtain rfl : pos = S.size := by omega
      have HE : Hid (.ok ⟨eol S.size s.toks ++ [⟨7, S.size, S.size, []⟩], s.rems⟩ = V) := (scn_end hlt2 _ s).symm.trans HVV.out
      have c0' : wr.cell? ⟨R, 0, none⟩ = some (.string S) := HRD.out.cell0
      have h49 := eol_any wr base R S s HRD.out S.size (by omega)
      have hel := eol_len S.size s.toks
      have h50 := fun (W : World) (h : Rd W base R S ⟨eol S.size s.toks, s.rems⟩) => add_any W base R S ⟨eol S.size s.toks, s.rems⟩ h 7 S.size S.size (Nat.le_refl _) (Nat.le_refl _) (by simp only; omega)
      have edrop : (S.data.toList.take S.size).drop S.size = [] := by rw [List.drop_eq_nil_iff, List.length_take, bal]; omega
      rw [edrop] at h50
      clear hit hbw hot hV hvs hrd hbd edrop hel
      go_wp2_with (go_at_call 49; refine h49.mono ?_; intro e w3 h3; obtain rfl := h3.ret; have H3 : Hid (AddP wr base R S ⟨eol S.size s.toks, s.rems⟩ (.tuple #[]) (.returned (.tuple #[])) w3) := h3; have c0'' : w3.cell? ⟨R, 0, none⟩ = some (.string S) := h3.rd.cell0; clear h3)
      have H3d : Hid (Rd w3.drew base R S ⟨eol S.size s.toks, s.rems⟩) := H3.out.rd.below ((Below.refl _ _).drew)
      go_region_held3 (fun w' => w'.cell? ⟨R, 0, none⟩ = some (.string S)) (first | assumption | go_keep)
        ((go_at_call 50; refine (h50 w3.drew H3d.out).mono ?_; intro e w4 h4; obtain rfl := h4.ret; have H4 : Hid (AddP w3.drew base R S ⟨eol S.size s.toks ++ [⟨7, S.size, S.size, []⟩], s.rems⟩ (.int .i64 S.size) (.returned (.int .i64 S.size)) w4) := h4; have d0 : w4.cell? ⟨R, 0, none⟩ = some (.string S) := h4.rd.cell0; clear h4))
      go_wp2_with fail
      refine bodyPost_end (results_none rfl _ _ _) rfl ?_
      exact LP.ok HE.out ⟨rfl, H4.out.rd, HBW.out.trans (H3.out.bl.drew.trans H4.out.bl), HOT.out.trans (H3.out.ot.trans H4.out.ot)⟩
end Go.Proofs.YtmfdfkbcommjfaaDoor
