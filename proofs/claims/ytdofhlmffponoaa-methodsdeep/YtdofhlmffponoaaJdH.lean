/-
  (types.table).circular: what the first loop gathers, in plain Lean.
-/
import Derived.Test.YtdofhlmffponoaaJdG
import Derived.Test.YtdofhlmffponoaaJdF
namespace Go.Proofs.Ytdofhlmffponoaa
open Go.RowKit
section
variable {α : Type} [DecidableEq α]
/-- who holds x, of those that were looked at -/
def hsD (H : α → List α) (dn : List α) (x : α) : List α := dn.flatMap (fun nm => List.replicate (cntB (H nm) x) nm)
/-- how many one holds, if it was looked at -/
def wtD (H : α → List α) (dn : List α) (s : α) : Int := if s ∈ dn then ((H s).length : Int) else 0
theorem cntB_rep (n : Nat) (y s : α) : cntB (List.replicate n y) s = if y = s then n else 0 := by
  unfold cntB
  rw [List.count_replicate]
  by_cases e : y = s <;> simp [e]
theorem hsD_snoc (H : α → List α) (dn : List α) (nm x : α) : hsD H (dn ++ [nm]) x = hsD H dn x ++ List.replicate (cntB (H nm) x) nm := by
  unfold hsD
  simp
theorem hsD_mem {H : α → List α} {dn : List α} {x s : α} (h : s ∈ hsD H dn x) : s ∈ dn := by
  unfold hsD at h
  obtain ⟨nm, h1, h2⟩ := List.mem_flatMap.1 h
  rw [(List.mem_replicate.1 h2).2]
  exact h1
theorem hsD_cnt {H : α → List α} (x s : α) : ∀ {dn : List α}, dn.Nodup → cntB (hsD H dn x) s = if s ∈ dn then cntB (H s) x else 0 := by
  intro dn
  induction dn with
  | nil => intro _; rfl
  | cons nm r ih =>
    intro hn
    rw [List.nodup_cons] at hn
    have e1 : hsD H (nm :: r) x = List.replicate (cntB (H nm) x) nm ++ hsD H r x := rfl
    rw [e1, cntB_append, cntB_rep, ih hn.2]
    by_cases e : nm = s
    · subst e
      rw [if_pos rfl, if_neg hn.1, if_pos (by simp)]
      omega
    · rw [if_neg e]
      have e2 : s ≠ nm := fun h => e h.symm
      by_cases h2 : s ∈ r
      · rw [if_pos h2, if_pos (by simp [h2])]
        omega
      · rw [if_neg h2, if_neg (by simp [h2, e2])]
theorem hsD_len {H : α → List α} {m : Nat} (x : α) (dn : List α) (h : ∀ s ∈ dn, (H s).length ≤ m) : (hsD H dn x).length ≤ dn.length * m := by
  induction dn with
  | nil => simp [hsD]
  | cons nm r ih =>
    have e1 : hsD H (nm :: r) x = List.replicate (cntB (H nm) x) nm ++ hsD H r x := rfl
    rw [e1, List.length_append, List.length_replicate]
    have h1 := ih (fun s hs => h s (by simp [hs]))
    have h2 := cntB_le (H nm) x
    have h3 := h nm (by simp)
    rw [List.length_cons, Nat.add_mul]
    omega
theorem wtD_snoc {H : α → List α} {dn : List α} {nm : α} (s : α) : wtD H (dn ++ [nm]) s = if s = nm then ((H nm).length : Int) else wtD H dn s := by
  unfold wtD
  by_cases e : s = nm
  · subst e; simp
  · simp [e]
theorem wtD_new {H : α → List α} {dn : List α} {nm : α} (h : nm ∉ dn) : wtD H dn nm = 0 := if_neg h
theorem wtD_in {H : α → List α} {dn : List α} {s : α} (h : s ∈ dn) : wtD H dn s = ((H s).length : Int) := if_pos h
theorem wtD_bd {H : α → List α} {dn : List α} {m : Nat} (h : ∀ s ∈ dn, (H s).length ≤ m) (s : α) : 0 ≤ wtD H dn s ∧ wtD H dn s ≤ (m : Int) := by
  unfold wtD
  split
  · rename_i hs
    have := h s hs
    omega
  · omega
/-- the beginning of taking away -/
theorem khn_start {H : α → List α} {keys fs : List α} (hn : fs.Nodup) (hf : ∀ s, s ∈ fs ↔ s ∈ keys ∧ H s = []) (dn : List α) (hd : ∀ s ∈ keys, s ∈ dn) : Khn H keys [] fs (wtD H dn) := by
  have hl : ∀ l : List α, lft [] l = l.length := fun l => by
    unfold lft
    induction l with
    | nil => rfl
    | cons x r ih => rw [List.countP_cons, ih]; simp
  refine ⟨by simpa using hn, fun x hx => ((hf x).1 (by simpa using hx)).1, fun s hs => by rw [wtD_in (hd s hs), hl], fun s hs => ?_, fun p x q e => ?_⟩
  · rw [wtD_in (hd s hs)]
    have := hf s
    simp only [List.nil_append]
    rw [this]
    constructor
    · intro h0
      exact ⟨hs, List.eq_nil_of_length_eq_zero (by omega)⟩
    · rintro ⟨_, h0⟩
      rw [h0]; rfl
  · cases p <;> cases e
end
/-- what the declared type of a name holds -/
def Hf (l : List Nmd) (s : ByteArray) : List ByteArray := match l.find? (fun t => decide (t.name = s)) with | some t => t.under.hol (l.map Nmd.name) | none => []
theorem Hf_in {l : List Nmd} (h : (l.map Nmd.name).Nodup) {t : Nmd} (ht : t ∈ l) : Hf l t.name = t.under.hol (l.map Nmd.name) := by
  unfold Hf
  cases e : l.find? (fun u => decide (u.name = t.name)) with
  | none =>
    have := List.find?_eq_none.1 e t ht
    simp at this
  | some u =>
    have h1 := List.find?_some e
    have h2 := List.mem_of_find?_eq_some e
    have h3 : u = t := nodup_name h h2 ht (by simpa using h1)
    rw [h3]
mutual
theorem Ty.hol_len (ks : List ByteArray) : ∀ t : Ty, (t.hol ks).length ≤ t.cnt
  | .mk k nm n f ns ms l => by
    unfold Ty.hol Ty.cnt
    split
    · split <;> simp
    · split
      · have := holL_len ks l; omega
      · simp
theorem holL_len (ks : List ByteArray) : ∀ l : List Ty, (holL ks l).length ≤ cntL l
  | [] => by simp [holL, cntL]
  | x :: r => by
    rw [cntL_cons]
    have h1 := Ty.hol_len ks x
    have h2 := holL_len ks r
    simp only [holL, List.length_append]
    omega
end
mutual
theorem Ty.hol_in (ks : List ByteArray) : ∀ (t : Ty) (s : ByteArray), s ∈ t.hol ks → s ∈ ks
  | .mk k nm n f ns ms l, s => by
    unfold Ty.hol
    split
    · split
      · rename_i h
        intro hs
        rw [List.mem_singleton.1 hs]
        unfold memB at h
        simpa using h
      · intro h; cases h
    · split
      · exact holL_in ks l s
      · intro h; cases h
theorem holL_in (ks : List ByteArray) : ∀ (l : List Ty) (s : ByteArray), s ∈ holL ks l → s ∈ ks
  | [], s => by intro h; simp [holL] at h
  | x :: r, s => by
    simp only [holL]
    intro h
    rcases List.mem_append.1 h with h | h
    · exact Ty.hol_in ks x s h
    · exact holL_in ks r s h
end
theorem GrS.refb {W : World} {N0 bh : Nat} {fb fb' : Nat → Prop} {f : ByteArray → Option Value} {ks : List ByteArray} {hsF : ByteArray → List ByteArray} (h : GrS W N0 bh fb f ks hsF) (hf : ∀ k, fb' k → fb k ∨ W.heap.size ≤ k) : GrS W N0 bh fb' f ks hsF :=
  ⟨h.mp, h.lo, h.no, h.ro, h.dj, fun s v g e eg e2 => by
    rcases hf g e2 with h1 | h1
    · exact h.fr s v g e eg h1
    · obtain ⟨g', c, rfl, ho⟩ := h.ro s v e
      have := (ho.lt g eg).2
      omega⟩
end Go.Proofs.Ytdofhlmffponoaa

/-
  (types.table).circular: what stands in memory while the first loop goes on.
-/
namespace Go.Proofs.Ytdofhlmffponoaa
open Go.RowKit
/-- between two steps of the first loop -/
structure CrS (w : World) (b0 nn : Nat) (f : ByteArray → Option Value) (ks dn : List ByteArray) (wt : ByteArray → Int) (hsF : ByteArray → List ByteArray) (fs : List ByteArray) (fa : Option Addr) (fc : Nat) (E : Nat → Prop) (W : World) : Prop where
  bl : Below w.heap.size w W
  bz : b0 < w.heap.size
  zz : w.heap.size + 5 ≤ W.heap.size
  mr : MrS W b0 (w.heap.size + 1 + 1 + 1 + 1) nn f ks dn
  c3 : W.cell? ⟨w.heap.size + 1, 0, none⟩ = some (.map (some w.heap.size))
  c4 : W.cell? ⟨w.heap.size + 1 + 1 + 1, 0, none⟩ = some (.map (some (w.heap.size + 1 + 1)))
  wt : ∃ fw kw, MpS W w.heap.size kw.length fw kw ∧ wtI fw wt ∧ ∀ s ∈ kw, s ∈ ks
  gr : ∃ fh kh, GrS W (w.heap.size + 5) (w.heap.size + 1 + 1) (fun b => (Value.slice fa fs.length fc).ownBlock = some b ∨ E b) fh kh hsF ∧ ∀ s ∈ kh, s ∈ ks
  fr : W.ownsRow (w.heap.size + 5) 9 1 (.slice fa fs.length fc) fs.length (fs.map Value.string)
section
variable {w : World} {b0 nn : Nat} {f : ByteArray → Option Value} {ks dn : List ByteArray} {wt : ByteArray → Int} {hsF : ByteArray → List ByteArray} {fs : List ByteArray} {fa : Option Addr} {fc : Nat} {E : Nat → Prop} {W W' : World}
theorem CrS.kept (h : CrS w b0 nn f ks dn wt hsF fs fa fc E W) (hk : Below W.heap.size W W') : CrS w b0 nn f ks dn wt hsF fs fa fc E W' := by
  obtain ⟨fw, kw, h1, h2⟩ := h.wt
  obtain ⟨fh, kh, h3, h4⟩ := h.gr
  exact ⟨bthen h.bl hk, h.bz, Nat.le_trans h.zz hk.size, h.mr.kept hk, kept_cell hk h.c3, kept_cell hk h.c4, ⟨fw, kw, h1.kept hk, h2⟩, ⟨fh, kh, h3.kept hk, h4⟩, own_kept h.fr hk⟩
/-- the next name was told -/
theorem CrS.told {dn' : List ByteArray} (h : CrS w b0 nn f ks dn wt hsF fs fa fc E W) (hk : Kx (· = w.heap.size + 1 + 1 + 1 + 1) W W') (hm : MrS W' b0 (w.heap.size + 1 + 1 + 1 + 1) nn f ks dn') : CrS w b0 nn f ks dn' wt hsF fs fa fc E W' := by
  obtain ⟨fw, kw, h1, h2⟩ := h.wt
  obtain ⟨fh, kh, h3, h4⟩ := h.gr
  exact ⟨below_kx1 h.bl hk (by omega), h.bz, Nat.le_trans h.zz hk.size, hm, hk.cell h.c3 (fun e => by have e2 : w.heap.size + 1 = _ := e; omega), hk.cell h.c4 (fun e => by have e2 : w.heap.size + 1 + 1 + 1 = _ := e; omega), ⟨fw, kw, h1.to hk (by omega), h2⟩, ⟨fh, kh, h3.to hk (fun b hb => by omega), h4⟩, own_kx h.fr hk (fun k e => by have := (h.fr.lt k e).1; omega)⟩
/-- a number was written -/
theorem CrS.count {wt' : ByteArray → Int} (h : CrS w b0 nn f ks dn wt hsF fs fa fc E W) (hk : Kx (· = w.heap.size) W W') (hm : ∃ fw kw, MpS W' w.heap.size kw.length fw kw ∧ wtI fw wt' ∧ ∀ s ∈ kw, s ∈ ks) : CrS w b0 nn f ks dn wt' hsF fs fa fc E W' := by
  obtain ⟨fh, kh, h3, h4⟩ := h.gr
  have hb := h.bz
  exact ⟨below_kx1 h.bl hk (Nat.le_refl _), h.bz, Nat.le_trans h.zz hk.size, h.mr.to hk (by omega) (by omega), hk.cell h.c3 (fun e => by have e2 : w.heap.size + 1 = _ := e; omega), hk.cell h.c4 (fun e => by have e2 : w.heap.size + 1 + 1 + 1 = _ := e; omega), hm, ⟨fh, kh, h3.to hk (fun b hb => by omega), h4⟩, own_kx h.fr hk (fun k e => by have := (h.fr.lt k e).1; omega)⟩
/-- a row grew -/
theorem CrS.row {hsF' : ByteArray → List ByteArray} {row : Option Nat} (h : CrS w b0 nn f ks dn wt hsF fs fa fc E W) (hk : Kx (fun b => b = w.heap.size + 1 + 1 ∨ row = some b) W W') (hr : ∀ k, row = some k → w.heap.size + 5 ≤ k ∧ (Value.slice fa fs.length fc).ownBlock ≠ some k) (hm : ∃ fh kh, GrS W' (w.heap.size + 5) (w.heap.size + 1 + 1) (fun b => (Value.slice fa fs.length fc).ownBlock = some b ∨ E b) fh kh hsF' ∧ ∀ s ∈ kh, s ∈ ks) : CrS w b0 nn f ks dn wt hsF' fs fa fc E W' := by
  obtain ⟨fw, kw, h1, h2⟩ := h.wt
  have hb := h.bz
  have hx : ∀ c, c < w.heap.size + 5 → c ≠ w.heap.size + 1 + 1 → ¬ (c = w.heap.size + 1 + 1 ∨ row = some c) := fun c h1 h2 h3 => by
    rcases h3 with h3 | h3
    · exact h2 h3
    · have := (hr c h3).1; omega
  refine ⟨?_, h.bz, Nat.le_trans h.zz hk.size, h.mr.to hk (hx _ (by omega) (by omega)) (hx _ (by omega) (by omega)), hk.cell h.c3 (hx (w.heap.size + 1) (by omega) (by omega)), hk.cell h.c4 (hx (w.heap.size + 1 + 1 + 1) (by omega) (by omega)), ⟨fw, kw, h1.to hk (hx _ (by omega) (by omega)), h2⟩, hm, own_kx h.fr hk (fun k e h3 => ?_)⟩
  · exact h.bl.trans (hk.below h.bl.size (fun b hb h3 => by
      rcases h3 with h3 | h3
      · omega
      · have := (hr b h3).1; omega))
  · rcases h3 with h3 | h3
    · have := (h.fr.lt k e).1; omega
    · exact (hr k h3).2 e
/-- one more is free -/
theorem CrS.free {s : ByteArray} {gg cap : Nat} (h : CrS w b0 nn f ks dn wt hsF fs fa fc E W) (hk : Kx (fun b => (Value.slice fa fs.length fc).ownBlock = some b) W W') (ho : W'.ownsRow (w.heap.size + 5) 9 1 (.slice (some ⟨gg, 0, none⟩) (fs.length + 1) cap) (fs.length + 1) (fs.map Value.string ++ [.string s])) (hat : (Value.slice fa fs.length fc).ownBlock = some gg ∨ W.heap.size ≤ gg) : CrS w b0 nn f ks dn wt hsF (fs ++ [s]) (some ⟨gg, 0, none⟩) cap E W' := by
  obtain ⟨fw, kw, h1, h2⟩ := h.wt
  obtain ⟨fh, kh, h3, h4⟩ := h.gr
  have hb := h.bz
  have hx : ∀ c, c < w.heap.size + 5 → ¬ (Value.slice fa fs.length fc).ownBlock = some c := fun c h1 h2 => by
    have := (h.fr.lt c h2).1; omega
  have hln : (fs ++ [s]).length = fs.length + 1 := by simp
  refine ⟨?_, h.bz, Nat.le_trans h.zz hk.size, h.mr.to hk (hx _ (by omega)) (hx _ (by omega)), hk.cell h.c3 (hx (w.heap.size + 1) (by omega)), hk.cell h.c4 (hx (w.heap.size + 1 + 1 + 1) (by omega)), ⟨fw, kw, h1.to hk (hx _ (by omega)), h2⟩, ⟨fh, kh, ?_, h4⟩, by rw [hln, List.map_append]; exact ho⟩
  · exact h.bl.trans (hk.below h.bl.size (fun b hb h3 => by have := (h.fr.lt b h3).1; omega))
  · have g1 : GrS W (w.heap.size + 5) (w.heap.size + 1 + 1) (fun b => (Value.slice fa fs.length fc).ownBlock = some b ∨ E b) fh kh hsF := h3
    refine (h3.refb (fb' := fun b => (Value.slice (some ⟨gg, 0, none⟩) (fs ++ [s]).length cap).ownBlock = some b ∨ E b) (fun k e => ?_)) |> fun g2 => ⟨(g1.to hk (fun b e => ⟨fun e2 => hx b (by omega) e, .inr (.inl e)⟩)).mp, g2.lo, g2.no, (g1.to hk (fun b e => ⟨fun e2 => hx b (by omega) e, .inr (.inl e)⟩)).ro, g2.dj, g2.fr⟩
    rcases e with e | e
    · have e2 : gg = k := by simpa [Value.ownBlock] using e
      rw [← e2]
      rcases hat with h5 | h5
      · exact .inl (.inl h5)
      · exact .inr h5
    · exact .inl (.inr e)
/-- blocks that were made since are no row's -/
theorem CrS.other {E' : Nat → Prop} (h : CrS w b0 nn f ks dn wt hsF fs fa fc E W) (hE : ∀ b, E' b → E b ∨ W.heap.size ≤ b) : CrS w b0 nn f ks dn wt hsF fs fa fc E' W := by
  obtain ⟨fh, kh, h3, h4⟩ := h.gr
  exact ⟨h.bl, h.bz, h.zz, h.mr, h.c3, h.c4, h.wt, ⟨fh, kh, h3.refb (fun k e => by
    rcases e with e | e
    · exact .inl (.inl e)
    · rcases hE k e with h5 | h5
      · exact .inl (.inr h5)
      · exact .inr h5), h4⟩, h.fr⟩
end
end Go.Proofs.Ytdofhlmffponoaa

/-
  (types.table).circular, walked.
-/
namespace Go.Proofs.Ytdofhlmffponoaa
open Go.RowKit
attribute [local go_sem ↓] Go.wp_at_zero Go.wp_at_succ
/-- who holds x, of those that were looked at, and of the first k that nm holds -/
def hsK {α : Type} [DecidableEq α] (hF : α → List α) (hl : List α) (nm : α) (k : Nat) (x : α) : List α := hF x ++ List.replicate (cntB (hl.take k) x) nm
theorem hsK_succ {α : Type} [DecidableEq α] (hF : α → List α) (hl : List α) (nm : α) (k : Nat) (hk : k < hl.length) : upF (hsK hF hl nm k) hl[k] (hsK hF hl nm k hl[k] ++ [nm]) = hsK hF hl nm (k + 1) := by
  funext x
  have e1 : hl.take (k + 1) = hl.take k ++ [hl[k]] := List.take_succ_eq_append_getElem hk
  by_cases e : x = hl[k]
  · rw [e, upF_same]
    unfold hsK
    rw [e1, cntB_append, cntB_one, eqN_same, List.append_assoc]
    congr 1
    rw [List.replicate_succ']
  · rw [upF_ne _ _ e]
    unfold hsK
    rw [e1, cntB_append, cntB_one, eqN_ne (fun h => e h.symm), Nat.add_zero]
theorem own_src {W : World} {base n c : Nat} {T : TypeId} {a : Option Addr} {xs : List Value} (h : W.ownsRow base T 1 (.slice a n c) n xs) : Src W (.slice a n c) n xs := by
  have hl := h.1
  rcases h.2 with ⟨h1, h2⟩ | ⟨g, cap, cur, e, h1, h2, h3, h4, h5, h6⟩
  · simp at h1
    obtain ⟨rfl, rfl, rfl⟩ := h1
    have : xs = [] := List.eq_nil_of_length_eq_zero (by simpa using hl)
    rw [this]
    exact .nil 0
  · simp at e
    obtain ⟨rfl, rfl⟩ := e
    refine .row g 0 n c xs (fun j u hj => ?_)
    have := h.cells (g := g) rfl j u hj
    rw [Addr.add_lit] at this
    exact this
set_option maxRecDepth 100000 in
set_option maxHeartbeats 8000000 in
theorem circular_any {w : World} {KB : BQ} {l : List Nmd} {b0 nn : Nat} (hT : TbS KB w b0 nn l) (hs : ∀ t ∈ l, NmS t) (hl : l.length ≤ 1000) (hc : ∀ t ∈ l, t.under.cnt ≤ 1000) :
    Calls Try.prog 15 #[.map (some b0)] w fun e w' => (∃ q : Bool, e = .returned (.bool q) ∧ (q = true ↔ ∃ a ∈ l.map Nmd.name, Rch (Hf l) a a)) ∧ Below w.heap.size w w' := by
  obtain ⟨f, hm, hf⟩ := hT.ex
  have hb0 : b0 < w.heap.size := hm.lt
  have hnd : (l.map Nmd.name).Nodup := by obtain ⟨D, _, hD⟩ := hm.ex; exact hD.nd
  obtain ⟨W4, hW4⟩ : ∃ W4, W4 = (((w.alloc (.map #[] 0)).alloc (.cells #[.map (some w.heap.size)] 89)).alloc (.map #[] 0)).alloc (.cells #[.map (some (w.heap.size + 1 + 1))] 90) := ⟨_, rfl⟩
  have hb4 : Below w.heap.size w W4 := by rw [hW4]; exact bthen (bthen (bthen (below_alloc _ _) (below_alloc _ _)) (below_alloc _ _)) (below_alloc _ _)
  have hz4 : W4.heap.size = w.heap.size + 1 + 1 + 1 + 1 := by rw [hW4]; simp
  have m1 : MpS W4 w.heap.size 0 (fun _ => none) [] := by
    rw [hW4]; exact (MpS.made w).kept (bthen (bthen (below_alloc _ _) (below_alloc _ _)) (below_alloc _ _))
  have m2 : MpS W4 (w.heap.size + 1 + 1) 0 (fun _ => none) [] := by
    rw [hW4]
    have := (MpS.made ((w.alloc (.map #[] 0)).alloc (.cells #[.map (some w.heap.size)] 89))).kept (below_alloc _ (.cells #[.map (some (w.heap.size + 1 + 1))] 90))
    rw [World.size_alloc, World.size_alloc] at this
    exact this
  have c3 : W4.cell? ⟨w.heap.size + 1, 0, none⟩ = some (.map (some w.heap.size)) := by
    rw [hW4]
    have := kept_cell (bthen (below_alloc _ (.map #[] 0)) (below_alloc _ (.cells #[.map (some (w.heap.size + 1 + 1))] 90))) (cell_of (heap_new (w.alloc (.map #[] 0)) (.cells #[.map (some w.heap.size)] 89)) 0)
    rw [World.size_alloc] at this
    exact this
  have c4 : W4.cell? ⟨w.heap.size + 1 + 1 + 1, 0, none⟩ = some (.map (some (w.heap.size + 1 + 1))) := by
    rw [hW4]
    have := cell_of (heap_new (((w.alloc (.map #[] 0)).alloc (.cells #[.map (some w.heap.size)] 89)).alloc (.map #[] 0)) (.cells #[.map (some (w.heap.size + 1 + 1))] 90)) 0
    rw [World.size_alloc, World.size_alloc, World.size_alloc] at this
    exact this
  obtain ⟨w5, hr5, hM5, hb5, hz5⟩ := (hm.kept hb4).range Try.underlying51
  rw [hz4] at hr5 hM5
  have hC5 : CrS w b0 nn f (l.map Nmd.name) [] (wtD (Hf l) []) (hsD (Hf l) []) [] none 0 (fun _ => False) w5 :=
    ⟨bthen hb4 hb5, hb0, by omega, hM5, kept_cell hb5 c3, kept_cell hb5 c4, ⟨_, [], m1.kept hb5, fun s => rfl, fun s h => by cases h⟩, ⟨_, [], ⟨m2.kept hb5, by omega, fun _ _ => rfl, fun s v e => (by cases e), fun s s' v v' g e => (by cases e), fun s v g e => (by cases e)⟩, fun s h => by cases h⟩, World.ownsRow_nil _ _ _ _⟩
  have HT : Hid (TbS KB w b0 nn l) := hT
  have HF : Hid (∀ t ∈ l, ∃ vn vm vk vs, f t.name = some (agN t vn vm vk vs) ∧ NmP KB w t vn vm vk vs) := hf
  have HS : Hid ((∀ t ∈ l, NmS t) ∧ l.length ≤ 1000 ∧ (∀ t ∈ l, t.under.cnt ≤ 1000) ∧ (l.map Nmd.name).Nodup) := ⟨hs, hl, hc, hnd⟩
  have HC5 : Hid (CrS w b0 nn f (l.map Nmd.name) [] (wtD (Hf l) []) (hsD (Hf l) []) [] none 0 (fun _ => False) w5) := hC5
  obtain ⟨i0, hi, hz0, hz1, hz2⟩ := infoS_ex
  clear hm hf hT hs hnd hM5 hb5 hC5 m1 m2 c3 c4 hb4 hz4 hz5 hl hc hb0
  subst hW4
  have hmk : ∀ (t : TypeId) (W : World), (Instr.makeMap t none).run Try.prog W = .ok (.map (some W.heap.size)) (W.alloc (.map #[] 0)) := fun _ _ => rfl
  go_enter Try.func15, Try.ntmps15
  go_wp2_with fail
  clear hmk
  go_loopg [5] (l.map Nmd.name).length (fun gh u5 wr => ∃ (dn fs : List ByteArray) (fa : Option Addr) (fc : Nat), (l.map Nmd.name).length - dn.length ≤ gh ∧ u5 = .slice fa fs.length fc ∧ Hid (CrS w b0 nn f (l.map Nmd.name) dn (wtD (Hf l) dn) (hsD (Hf l) dn) fs fa fc (fun _ => False) wr) ∧ Hid (fs.Nodup ∧ ∀ s, s ∈ fs ↔ s ∈ dn ∧ Hf l s = []))
  case atStart => exact ⟨[], [], none, 0, Nat.le_refl _, rfl, HC5, List.nodup_nil, fun s => by simp⟩
  case round =>
    obtain ⟨dn, fs, fa, fc, hg, rfl, HX, HY⟩ := hrel
    clear HC5
    rcases HX.out.mr.next 0 with ⟨hall, hnx⟩ | ⟨s, v, w2, hs1, hs2, hfs, hnx, hM2, hk2, hz2', hen⟩
    · have hrt := HX.out
      obtain ⟨fw, kw, hmw, hwI, hkw⟩ := hrt.wt
      obtain ⟨fh, kh, hgr, hkh⟩ := hrt.gr
      have hz := hrt.zz
      have hdn := hrt.mr.nd
      have hds := hrt.mr.sub
      have hln : (l.map Nmd.name).length ≤ 1000 := by simpa using HS.out.2.1
      have hdl : dn.length ≤ 1000 := Nat.le_trans (nodup_le hdn hds) hln
      have hHl : ∀ s ∈ dn, (Hf l s).length ≤ 1000 := fun s hs => by
        obtain ⟨t, ht, rfl⟩ := List.mem_map.1 (hds s hs)
        rw [Hf_in HS.out.2.2.2 ht]
        exact Nat.le_trans (Ty.hol_len _ _) (HS.out.2.2.1 t ht)
      obtain ⟨W6, hW6⟩ : ∃ W6, W6 = wr.alloc (.cells #[.int .i64 0] 3) := ⟨_, rfl⟩
      have hb6 : Below wr.heap.size wr W6 := by rw [hW6]; exact below_alloc _ _
      have hk6 : W6.heap[wr.heap.size]? = some (.cells #[.int .i64 0] 3 (0, 0)) := by rw [hW6]; exact heap_new _ _
      have hkwl : kw.length ≤ 1000 := Nat.le_trans (nodup_le (by obtain ⟨D, _, hD⟩ := hmw.ex; exact hD.nd) hkw) hln
      have hcc : CiC W6 wr.heap.size (w.heap.size + 1 + 1 + 1) (w.heap.size + 1) (w.heap.size + 1 + 1) w.heap.size (fun b => w.heap.size + 5 ≤ b ∧ b < wr.heap.size) (l.map Nmd.name) kw (Hf l) (hsD (Hf l) dn) := by
        refine ⟨kept_cell hb6 hrt.c4, kept_cell hb6 hrt.c3, ⟨_, fh, kh, hgr.mp.kept hb6, fun x hx => ?_⟩, fun b hb => by omega, by omega, ⟨by rw [hW6]; simp, by have := hb6.size; omega⟩, fun x hx => ⟨fun s hs => ?_, fun s hs => hds s (hsD_mem hs), ?_⟩, ⟨fun x hx => ?_, by omega, by omega⟩⟩
        · obtain ⟨a, c, hv, ho, _⟩ := hgr.val x
          exact ⟨a, c, hv, rowV_own (f := Value.string) (w := wr) ho rfl (by
            have := hsD_len x dn hHl
            have : dn.length * 1000 ≤ 1000 * 1000 := Nat.mul_le_mul_right _ hdl
            omega) (fun k hk => ho.lt k hk) hb6.size (fun _ _ _ _ h => kept_cell hb6 h)⟩
        · rw [hsD_cnt x s hdn, if_pos (hall s hs)]
        · have h1 := hsD_len x dn hHl
          have h2 : dn.length * 1000 ≤ 1000 * 1000 := Nat.mul_le_mul_right _ hdl
          omega
        · obtain ⟨t, ht, rfl⟩ := List.mem_map.1 hx
          exact (HS.out.1 t ht).nm
      have hwk := ciW (fa := fa) (fc := fc) (fs := fs) hcc HS.out.2.2.2 (fun a ha b hb => by
        obtain ⟨t, ht, rfl⟩ := List.mem_map.1 ha
        rw [Hf_in HS.out.2.2.2 ht] at hb
        exact Ty.hol_in _ _ b hb) (khn_start HY.out.1 (fun s => by
        rw [HY.out.2 s]
        exact ⟨fun h => ⟨hds s h.1, h.2⟩, fun h => ⟨hall s h.1, h.2⟩⟩) dn hall) (cell_of hk6 0) (by simp [World.frozen?, hk6]) (hmw.kept hb6) hwI (fun s => by have := wtD_bd hHl s; omega) (own_src (own_kept hrt.fr hb6))
      have HB6 : Hid (Below w.heap.size w W6 ∧ w.heap.size ≤ wr.heap.size ∧ MpS W6 b0 nn f (l.map Nmd.name) ∧ b0 < w.heap.size) := ⟨bthen hrt.bl hb6, hrt.bl.size, hrt.mr.map.kept hb6, hrt.bz⟩
      clear hrt hmw hwI hkw hgr hkh hdn hds hHl hb6 hk6 hcc hkwl hz hln hdl
      subst hW6
      go_wp2_with fail
      refine hwk.mono ?_
      rintro e w7 ⟨rfl, hk7, n, hc7, hn7, hq7⟩
      have hm7 : MpS w7 b0 nn f (l.map Nmd.name) := HB6.out.2.2.1.to hk7 (fun e => by have h1 := HB6.out.2.2.2; have h2 := HB6.out.2.1; omega)
      have hle := hm7.len Try.underlying51 3
      have HK7 : Hid (Below w.heap.size w w7) := HB6.out.1.trans (hk7.below HB6.out.1.size (fun b hb e => by have h2 := HB6.out.2.1; omega))
      have HQ7 : Hid (n < (l.map Nmd.name).length ↔ ∃ a ∈ l.map Nmd.name, Rch (Hf l) a a) := hq7
      clear hk7 hq7 hm7 hwk
      go_wp2_with fail
      go_ret
      refine ⟨⟨_, rfl, ?_⟩, HK7.out⟩
      rw [← HQ7.out]
      simp
    · obtain ⟨t, htl, rfl⟩ := List.mem_map.1 hs1
      obtain ⟨vn, vm, vk, vs, ef, hpt⟩ := HF.out t htl
      obtain rfl : v = agN t vn vm vk vs := by rw [ef] at hfs; injection hfs with h; exact h.symm
      obtain ⟨an, cn, am, cm, ak, ck, sa, sc, rfl, rfl, rfl, rfl⟩ := hpt.form
      have hC2 := HX.out.told hk2 hM2
      have hdl : dn.length < (l.map Nmd.name).length := by
        have := nodup_le hM2.nd hM2.sub
        simp only [List.length_append, List.length_singleton] at this
        omega
      unfold agN at hen hnx
      obtain ⟨x3, hx3⟩ : ∃ x3, x3 = w2.alloc (.cells #[.string t.name, .int .i64 t.under.kind, .string t.under.name, .int .i64 t.under.n, .bool t.under.flag, .slice an t.under.names.length cn, .slice am t.under.marks.length cm, .slice ak t.under.kids.length ck, .slice sa t.mths.length sc] 33) := ⟨_, rfl⟩
      have hb23 : Below w2.heap.size w2 x3 := by rw [hx3]; exact below_alloc _ _
      have hC3 := hC2.kept hb23
      have HZ2 : Hid (w.heap.size + 5 ≤ w2.heap.size) := hC2.zz
      have hb3 : Below w.heap.size w x3 := hC3.bl
      have hst := HS.out.1 t htl
      have hhd := held_any (HT.out.kept hb3) (hpt.un.kept hb3) hst.us hst.uc
      have HC3 : Hid (CrS w b0 nn f (l.map Nmd.name) (dn ++ [t.name]) (wtD (Hf l) dn) (hsD (Hf l) dn) fs fa fc (fun _ => False) x3) := hC3
      have HTN : Hid (t ∈ l ∧ t.name ∉ dn ∧ t.name.size ≤ maxLen ∧ dn.Nodup ∧ (∀ s ∈ dn, s ∈ l.map Nmd.name)) := ⟨htl, hs2, hst.nm, HX.out.mr.nd, HX.out.mr.sub⟩
      unfold agT at hhd
      have hHt : t.under.hol (l.map Nmd.name) = Hf l t.name := (Hf_in HS.out.2.2.2 htl).symm
      rw [hHt] at hhd
      have HHT : Hid ((Hf l t.name).length ≤ 1000 ∧ ∀ s ∈ Hf l t.name, s ∈ l.map Nmd.name) := by
        rw [← hHt]
        exact ⟨Nat.le_trans (Ty.hol_len _ _) (HS.out.2.2.1 t htl), fun s hs => Ty.hol_in _ _ s hs⟩
      obtain ⟨hl9, hhl9⟩ : ∃ hl9, hl9 = Hf l t.name := ⟨_, rfl⟩
      have HHL : Hid (hl9 = Hf l t.name) := hhl9
      rw [← hhl9] at hhd HHT
      clear hpt hst hs1 hs2 hfs ef hM2 hk2 hz2' hb3 hb23 htl hC2 hC3 hHt hhl9
      subst hx3
      go_wp2_with fail
      refine hhd.mono ?_
      intro e w4 hq4
      obtain ⟨ha, hc4, rfl, ho4⟩ := hq4.ex
      have HC4 : Hid (CrS w b0 nn f (l.map Nmd.name) (dn ++ [t.name]) (wtD (Hf l) dn) (hsD (Hf l) dn) fs fa fc (fun _ => False) w4) := HC3.out.kept hq4.bl
      have HO4 : Hid (w4.ownsRow _ 9 1 (.slice ha hl9.length hc4) hl9.length (hl9.map Value.string)) := ho4
      have HE4 : Hid (CrS w b0 nn f (l.map Nmd.name) (dn ++ [t.name]) (upF (wtD (Hf l) dn) t.name ((0 : Nat) : Int)) (hsK (hsD (Hf l) dn) hl9 t.name 0) fs fa fc (fun b => w2.heap.size + 1 ≤ b ∧ b < w4.heap.size) w4) := by
        have h1 := (HC3.out.other (E' := fun b => w2.heap.size + 1 ≤ b ∧ b < w4.heap.size) (fun b h => .inr (by simp; omega))).kept hq4.bl
        have e1 : upF (wtD (Hf l) dn) t.name ((0 : Nat) : Int) = wtD (Hf l) dn := by
          funext x
          by_cases e : x = t.name
          · rw [e, upF_same, wtD_new HTN.out.2.1]; rfl
          · rw [upF_ne _ _ e]
        have e2 : hsK (hsD (Hf l) dn) hl9 t.name 0 = hsD (Hf l) dn := by
          funext x
          unfold hsK
          rw [List.take_zero]
          exact List.append_nil _
        rw [e1, e2]
        exact h1
      have ho4' : w4.ownsRow (w2.heap.size + 1) 9 1 (.slice ha hl9.length hc4) hl9.length (hl9.map Value.string) := by
        have := ho4
        rw [World.size_alloc] at this
        exact this
      have HO5 : Hid (w4.ownsRow (w2.heap.size + 1) 9 1 (.slice ha hl9.length hc4) hl9.length (hl9.map Value.string)) := ho4'
      clear hq4 ho4 hhd ho4' HO4 HC4 HC3
      go_wp2_with fail
      go_loopg [25] hl9.length (fun g2 u25 wr => ∃ (k : Nat), k ≤ hl9.length ∧ hl9.length - k ≤ g2 ∧ u25 = .int .i64 k ∧ Hid (CrS w b0 nn f (l.map Nmd.name) (dn ++ [t.name]) (upF (wtD (Hf l) dn) t.name (k : Int)) (hsK (hsD (Hf l) dn) hl9 t.name k) fs fa fc (fun b => w2.heap.size + 1 ≤ b ∧ b < w4.heap.size) wr) ∧ Hid (w4.heap.size ≤ wr.heap.size ∧ wr.ownsRow (w2.heap.size + 1) 9 1 (.slice ha hl9.length hc4) hl9.length (hl9.map Value.string) ∧ ∀ k, (Value.slice ha hl9.length hc4).ownBlock = some k → k < w4.heap.size))
      case atStart => exact ⟨0, Nat.zero_le _, Nat.le_refl _, rfl, HE4, Nat.le_refl _, HO5.out, fun k e => (HO5.out.lt k e).2⟩
      case round =>
        obtain ⟨k, hk, hg2, rfl, HZ, HR⟩ := hrel
        clear HE4 HO5
        obtain ⟨fw, kw, hmw, hwI, hkw⟩ := HZ.out.wt
        have hnl : (l.map Nmd.name).length ≤ 1000 := by simpa using HS.out.2.1
        have hkl : kw.length ≤ 1000 := Nat.le_trans (nodup_le (by obtain ⟨D, _, hD⟩ := hmw.ex; exact hD.nd) hkw) hnl
        have htn : t.name ∈ l.map Nmd.name := List.mem_map.2 ⟨t, HTN.out.1, rfl⟩
        have e3 := HZ.out.c3
        have e4 := HZ.out.c4
        have hl1 := hmw.look1 Try.underlying89 (zeroI wr) HTN.out.2.2.1
        rw [hwI t.name, upF_same] at hl1
        have hkk : k ≤ 1000 := Nat.le_trans hk HHT.out.1
        by_cases hlt : k < hl9.length
        · have z1 : (k : Int) < (hl9.length : Int) := by omega
          have z0 : (0 : Int) ≤ (k : Int) := by omega
          have hstr : StrV (fun _ => True) wr (.slice ha hl9.length hc4) hl9 := rowV_own (f := Value.string) (w := wr) HR.out.2.1 rfl (by have := HHT.out.1; omega) (fun _ _ => trivial) (Nat.le_refl _) (fun _ _ _ _ h => h)
          obtain ⟨rb, ro, rfl, hcy⟩ := hstr.get hlt
          obtain ⟨y, hy⟩ : ∃ y, y = hl9[k] := ⟨_, rfl⟩
          have hcy2 : wr.cell? ⟨rb, ro + k, none⟩ = some (.string y) := by rw [hy]; exact hcy
          have hyn : y ∈ l.map Nmd.name := HHT.out.2 y (by rw [hy]; exact List.getElem_mem _)
          have hys : y.size ≤ maxLen := by
            obtain ⟨u, hu, rfl⟩ := List.mem_map.1 hyn
            exact (HS.out.1 u hu).nm
          have HSU : Hid (upF (hsK (hsD (Hf l) dn) hl9 t.name k) y (hsK (hsD (Hf l) dn) hl9 t.name k y ++ [t.name]) = hsK (hsD (Hf l) dn) hl9 t.name (k + 1)) := by
            rw [hy]; exact hsK_succ _ _ _ k hlt
          clear hcy hstr hy
          obtain ⟨w5, hup, hM5, hk5, hzw5⟩ := hmw.upd Try.underlying89 HTN.out.2.2.1 (by unfold maxLen; omega) (.int .i64 ((k : Int) + 1))
          have hC5 : CrS w b0 nn f (l.map Nmd.name) (dn ++ [t.name]) (upF (wtD (Hf l) dn) t.name ((k + 1 : Nat) : Int)) (hsK (hsD (Hf l) dn) hl9 t.name k) fs fa fc (fun b => w2.heap.size + 1 ≤ b ∧ b < w4.heap.size) w5 := HZ.out.count hk5 ⟨_, _, hM5.tight, fun s => by
            rw [(hwI.ups t.name ((k : Int) + 1)) s]
            congr 1
            by_cases e : s = t.name
            · simp only [if_pos e]; rw [e, upF_same]; rfl
            · simp only [if_neg e]; rw [upF_ne _ _ e, upF_ne _ _ e], fun s hs => by
            by_cases e : t.name ∈ kw
            · rw [insK_in e] at hs; exact hkw s hs
            · rw [insK_new e] at hs
              rcases List.mem_append.1 hs with h | h
              · exact hkw s h
              · rw [List.mem_singleton.1 h]; exact htn⟩
          obtain ⟨fh, kh, hgr, hkh⟩ := hC5.gr
          have f4 := hC5.c4
          have hkhl : kh.length ≤ 1000 := Nat.le_trans (nodup_le (by obtain ⟨D, _, hD⟩ := hgr.mp.ex; exact hD.nd) hkh) hnl
          obtain ⟨ga, gc, hgv, hgo, hgf⟩ := hgr.val y
          have hgl : (hsK (hsD (Hf l) dn) hl9 t.name k y).length ≤ 1001000 := by
            unfold hsK
            rw [List.length_append, List.length_replicate]
            have h1 := hsD_len (H := Hf l) (m := 1000) y dn (fun s hs => by
              obtain ⟨u, hu, rfl⟩ := List.mem_map.1 (HTN.out.2.2.2.2 s hs)
              rw [Hf_in HS.out.2.2.2 hu]
              exact Nat.le_trans (Ty.hol_len _ _) (HS.out.2.2.1 u hu))
            have h2 := cntB_le (hl9.take k) y
            have h3 : (hl9.take k).length ≤ k := List.length_take_le ..
            have h4 : dn.length * 1000 ≤ 1000 * 1000 := Nat.mul_le_mul_right _ (by omega)
            omega
          have hla := (hgr.mp.kept (below_drew1 w5)).look1 Try.underlying90 (zeroSl _) hys
          rw [hgv] at hla
          have hlb := (hgr.mp.kept (bthen (below_alloc w5 (.cells #[.string t.name] 9)) (below_drew1 _))).look1 Try.underlying90 (zeroSl _) hys
          rw [hgv] at hlb
          have HGR : Hid (GrS w5 (w.heap.size + 5) (w.heap.size + 1 + 1) (fun b => (Value.slice fa fs.length fc).ownBlock = some b ∨ (w2.heap.size + 1 ≤ b ∧ b < w4.heap.size)) fh kh (hsK (hsD (Hf l) dn) hl9 t.name k) ∧ ∀ s ∈ kh, s ∈ l.map Nmd.name) := ⟨hgr, hkh⟩
          have HGV : Hid ((fh y).getD (.slice none 0 0) = .slice ga (hsK (hsD (Hf l) dn) hl9 t.name k y).length gc) := hgv
          have HGO : Hid (w5.ownsRow (w.heap.size + 5) 9 1 (.slice ga (hsK (hsD (Hf l) dn) hl9 t.name k y).length gc) (hsK (hsD (Hf l) dn) hl9 t.name k y).length ((hsK (hsD (Hf l) dn) hl9 t.name k y).map Value.string)) := hgo
          have HGF : Hid (∀ g, (Value.slice ga (hsK (hsD (Hf l) dn) hl9 t.name k y).length gc).ownBlock = some g → ¬ ((Value.slice fa fs.length fc).ownBlock = some g ∨ (w2.heap.size + 1 ≤ g ∧ g < w4.heap.size)) ∧ g ≠ w.heap.size + 1 + 1) := hgf
          have HC5 : Hid (CrS w b0 nn f (l.map Nmd.name) (dn ++ [t.name]) (upF (wtD (Hf l) dn) t.name ((k + 1 : Nat) : Int)) (hsK (hsD (Hf l) dn) hl9 t.name k) fs fa fc (fun b => w2.heap.size + 1 ≤ b ∧ b < w4.heap.size) w5) := hC5
          have HYN : Hid (y ∈ l.map Nmd.name ∧ y.size ≤ maxLen ∧ kh.length ≤ 1000 ∧ k < hl9.length) := ⟨hyn, hys, hkhl, hlt⟩
          have HR5 : Hid (w4.heap.size ≤ w5.heap.size ∧ w5.ownsRow (w2.heap.size + 1) 9 1 (.slice (some ⟨rb, ro, none⟩) hl9.length hc4) hl9.length (hl9.map Value.string) ∧ ∀ k, (Value.slice (some ⟨rb, ro, none⟩) hl9.length hc4).ownBlock = some k → k < w4.heap.size) := ⟨by have := HR.out.1; have := hk5.size; omega, own_kx HR.out.2.1 hk5 (fun k0 e0 => by
            have h1 := (HR.out.2.1.lt k0 e0).1
            have h2 := HZ2.out
            omega), HR.out.2.2⟩
          have hz5n : w.heap.size + 5 ≤ w5.heap.size := hC5.zz
          have v5 : w.heap.size + 1 + 1 + 1 < w5.heap.size := by omega
          generalize hHK : hsK (hsD (Hf l) dn) hl9 t.name k = HK at *
          have HHK : Hid (hsK (hsD (Hf l) dn) hl9 t.name k = HK) := hHK
          clear hHK hmw hwI hkw hM5 hk5 hzw5 hgr hkh hgv hgo hgf hC5 hyn hys hkhl
          go_wp2_with fail
          go_region_law
            (refine step_append_lies _ (by rfl) _ _ _ (by rfl) (w.heap.size + 5) 9 i0 (.string ⟨#[]⟩) 1 16 Try.underlying25 hi hz0 hz1 hz2 rfl (by omega) (.slice ga (HK y).length gc) (HK y).length ((HK y).map Value.string) (by rfl) (own_kept HGO.out (bthen (below_drew1 _) (below_alloc _ _))) ⟨w5.heap.size, 0, none⟩ 1 1 [.string t.name] (by rfl) (by rfl) (World.news_of_block (heap_alloc_new w5.drew _)) (by simp [Value.oneCell']) (by omega) (by unfold maxLen; omega) (by omega) (by simp; omega) (w5.heap.size + 1) (by simp) ?_; intro gg cap w9 hown1 hgrow hat hlt1; have hk9 : Kx (fun b => (Value.slice ga (HK y).length gc).ownBlock = some b) w5 w9 := (Kx.of_whole (bthen (below_drew1 _) (below_alloc _ _))).trans (grownBy_kx hgrow); have j4 : w9.cell? ⟨w.heap.size + 1 + 1 + 1, 0, none⟩ = some (.map (some (w.heap.size + 1 + 1))) := hk9.cell HC5.out.c4 (fun e => by have h1 := (HGO.out.lt (w.heap.size + 1 + 1 + 1) e).1; omega); obtain ⟨w10, hup2, hM10, hk10, hz10⟩ := (HGR.out.1.mp.to hk9 (fun e => (HGF.out _ e).2 rfl)).upd Try.underlying90 HYN.out.2.1 (by have := HYN.out.2.2.1; unfold maxLen; omega) (.slice (some ⟨gg, 0, none⟩) ((HK y).length + 1) cap); have HG10 : Hid (GrS w10 (w.heap.size + 5) (w.heap.size + 1 + 1) (fun b => (Value.slice fa fs.length fc).ownBlock = some b ∨ (w2.heap.size + 1 ≤ b ∧ b < w4.heap.size)) (ups fh y (.slice (some ⟨gg, 0, none⟩) ((HK y).length + 1) cap)) (insK kh y) (upF HK y (HK y ++ [t.name]))) := HGR.out.1.push HGV.out hk9 hown1 (by rcases hat with h | h; exact .inl h; exact .inr (by omega)) (fun k0 e0 => by rcases e0 with e0 | e0; exact (HC5.out.fr.lt k0 e0).2; have := HR5.out.1; omega) hM10 hk10; have HK10 : Hid (Kx (fun b => b = w.heap.size + 1 + 1 ∨ (Value.slice ga (HK y).length gc).ownBlock = some b) w5 w10) := hk9.andThen hk10 (fun b _ h => .inr h) (fun b _ h => .inl h); clear hown1 hgrow hat hk9 hM10 hk10 hz10 hla hlb)
          all_goals
            go_simp
            go_wp2_with fail
            have hCn : CrS w b0 nn f (l.map Nmd.name) (dn ++ [t.name]) (upF (wtD (Hf l) dn) t.name ((k + 1 : Nat) : Int)) (hsK (hsD (Hf l) dn) hl9 t.name (k + 1)) fs fa fc (fun b => w2.heap.size + 1 ≤ b ∧ b < w4.heap.size) w10 := by
              have h1 := HC5.out.row HK10.out (fun k0 e0 => ⟨(HGO.out.lt k0 e0).1, fun e => (HGF.out k0 e0).1 (.inl e)⟩) ⟨_, _, HG10.out, fun s hs => by
                by_cases e : y ∈ kh
                · rw [insK_in e] at hs; exact HGR.out.2 s hs
                · rw [insK_new e] at hs
                  rcases List.mem_append.1 hs with h | h
                  · exact HGR.out.2 s h
                  · rw [List.mem_singleton.1 h]; exact HYN.out.1⟩
              rw [HSU.out] at h1
              exact h1
            have hRn : w4.heap.size ≤ w10.heap.size ∧ w10.ownsRow (w2.heap.size + 1) 9 1 (.slice (some ⟨rb, ro, none⟩) hl9.length hc4) hl9.length (hl9.map Value.string) ∧ ∀ k, (Value.slice (some ⟨rb, ro, none⟩) hl9.length hc4).ownBlock = some k → k < w4.heap.size := ⟨Nat.le_trans HR5.out.1 HK10.out.size, own_kx HR5.out.2.1 HK10.out (fun k0 e0 hx => by
              have h1 := (HR5.out.2.1.lt k0 e0).1
              have h2 := HR5.out.2.2 k0 e0
              have h3 := HZ2.out
              rcases hx with hx | hx
              · omega
              · exact (HGF.out k0 hx).1 (.inr ⟨h1, h2⟩)), HR5.out.2.2⟩
            have hklt := HYN.out.2.2.2
            go_roundg (hl9.length - (k + 1))
            case measure => omega
            case rel => exact ⟨k + 1, by omega, Nat.le_refl _, by go_num, (by first | exact hCn | exact hCn.kept (below_drew1 _)), (by first | exact hRn | exact ⟨hRn.1, own_kept hRn.2.1 (below_drew1 _), hRn.2.2⟩)⟩
        · have z1 : ¬ (k : Int) < (hl9.length : Int) := by omega
          obtain rfl : k = hl9.length := by omega
          have e5 : upF (wtD (Hf l) dn) t.name ((hl9.length : Nat) : Int) = wtD (Hf l) (dn ++ [t.name]) := by
            funext x
            by_cases e : x = t.name
            · rw [e, upF_same, wtD_in (by simp), HHL.out]
            · rw [upF_ne _ _ e]
              rw [wtD_snoc, if_neg e]
          have e6 : hsK (hsD (Hf l) dn) hl9 t.name hl9.length = hsD (Hf l) (dn ++ [t.name]) := by
            funext x
            rw [hsD_snoc]
            unfold hsK
            rw [List.take_length, HHL.out]
          have hCe : CrS w b0 nn f (l.map Nmd.name) (dn ++ [t.name]) (wtD (Hf l) (dn ++ [t.name])) (hsD (Hf l) (dn ++ [t.name])) fs fa fc (fun _ => False) wr := by
            have h1 := HZ.out
            rw [e5, e6] at h1
            exact h1.other (fun b h => h.elim)
          have HCE : Hid (CrS w b0 nn f (l.map Nmd.name) (dn ++ [t.name]) (wtD (Hf l) (dn ++ [t.name])) (hsD (Hf l) (dn ++ [t.name])) fs fa fc (fun _ => False) wr) := hCe
          have hfl : fs.length ≤ 1000 := Nat.le_trans (nodup_le HY.out.1 (fun s hs => HTN.out.2.2.2.2 s ((HY.out.2 s).1 hs).1)) hnl
          clear hmw hwI hkw hkl e5 e6 hCe HZ HR
          by_cases h90 : hl9.length = 0
          · have q0 : ((hl9.length : Int) == 0) = true := by simp [h90]
            have H90 : Hid (Hf l t.name = []) := by rw [← HHL.out]; exact List.eq_nil_of_length_eq_zero h90
            clear h90
            have hzr := HCE.out.zz
            go_wp2_with (at_builtin; refine wpList_append_lies _ rfl _ _ 25 rfl (w.heap.size + 5) 9 i0 (.string ⟨#[]⟩) 1 16 Try.underlying25 hi hz0 hz1 hz2 rfl (by omega) (.slice fa fs.length fc) fs.length (fs.map Value.string) rfl (HCE.out.fr.alloc _) ⟨wr.heap.size, 0, none⟩ 1 1 [.string t.name] rfl rfl (cell_one_new _ _ _) (by simp [Value.oneCell']) (by omega) (by unfold maxLen; omega) (by omega) (by simp; omega) (wr.heap.size + 1) (by simp) ?_; intro g9 cap9 w3 hown' hgrow hat hlt3; have HO3 : Hid (w3.ownsRow (w.heap.size + 5) 9 1 (.slice (some ⟨g9, 0, none⟩) (fs.length + 1) cap9) (fs.length + 1) (fs.map Value.string ++ [.string t.name])) := hown'; have HG3 : Hid (Kx (fun b => (Value.slice fa fs.length fc).ownBlock = some b) wr w3) := (Kx.of_whole (below_alloc _ _)).trans (grownBy_kx hgrow); have HAT : Hid ((Value.slice fa fs.length fc).ownBlock = some g9 ∨ wr.heap.size ≤ g9) := (by rcases hat with h | h; exact .inl h; exact .inr (by omega)); clear hown' hgrow hat)
            have hCf := HCE.out.free HG3.out HO3.out HAT.out
            go_roundg ((l.map Nmd.name).length - (dn.length + 1))
            case measure => omega
            case rel => exact ⟨dn ++ [t.name], fs ++ [t.name], some ⟨g9, 0, none⟩, cap9, by simp, by simp, hCf, by
              refine ⟨?_, fun s => ?_⟩
              · rw [List.nodup_append]
                exact ⟨HY.out.1, by simp, fun a ha c hc hac => HTN.out.2.1 (by rw [List.mem_singleton.1 hc] at hac; rw [← hac]; exact ((HY.out.2 a).1 ha).1)⟩
              · by_cases e : s = t.name
                · subst e; simp [H90.out]
                · simp only [List.mem_append, List.mem_singleton, e, or_false]
                  exact HY.out.2 s⟩
          · have q0 : ((hl9.length : Int) == 0) = false := int_bne (by omega)
            have H90 : Hid (Hf l t.name ≠ []) := by rw [← HHL.out]; exact fun e => h90 (by rw [e]; rfl)
            clear h90
            go_wp2_with fail
            go_roundg ((l.map Nmd.name).length - (dn.length + 1))
            case measure => omega
            case rel => exact ⟨dn ++ [t.name], fs, fa, fc, by simp, rfl, HCE.out, by
              refine ⟨HY.out.1, fun s => ?_⟩
              by_cases e : s = t.name
              · subst e
                constructor
                · intro h; exact absurd ((HY.out.2 t.name).1 h).1 HTN.out.2.1
                · intro h; exact absurd h.2 H90.out
              · simp only [List.mem_append, List.mem_singleton, e, or_false]
                exact HY.out.2 s⟩
end Go.Proofs.Ytdofhlmffponoaa

/-
  The document's World: Find and known, walked.
-/
namespace Go.Proofs.Ytdofhlmffponoaa
open Go.RowKit
attribute [local go_sem ↓] Go.wp_at_zero Go.wp_at_succ
/-- a declared type lies at (b, o): nine cells -/
def Nmd.lies (B : BQ) (W : World) (t : Nmd) (b o : Nat) : Prop := W.cell? ⟨b, o, none⟩ = some (.string t.name) ∧ t.under.lies B W b (o + 1) ∧ ∃ vs, W.cell? ⟨b, o + 8, none⟩ = some vs ∧ SlM B W vs t.mths
/-- a slice of declared types -/
def SlN (B : BQ) (W : World) (v : Value) (l : List Nmd) : Prop :=
  (∃ a c, v = .slice a 0 c ∧ l = []) ∨ ∃ b o c, v = .slice (some ⟨b, o, none⟩) l.length c ∧ (l.length : Int) ≤ 9223372036854775807 ∧ b < W.heap.size ∧ B b ∧ ∀ i (hi : i < l.length), (l[i]).lies B W b (o + i * 9)
theorem Nmd.lies_to {B B' : BQ} {X : Nat → Prop} {W W' : World} (hk : Kx X W W') (hB : ∀ b, b < W.heap.size → B b → B' b) (hX : ∀ b, b < W.heap.size → B b → ¬ X b) (t : Nmd) (b o : Nat) (hb : ¬ X b) (h : t.lies B W b o) : t.lies B' W' b o := by
  obtain ⟨h1, h2, vs, h3, h4⟩ := h
  exact ⟨hk.cell h1 hb, Go.Proofs.Ytdofhlmffponoaa.lies_to hk hB hX _ _ _ hb h2, vs, hk.cell h3 hb, h4.to hk hB hX⟩
theorem SlN.to {B B' : BQ} {X : Nat → Prop} {W W' : World} {v : Value} {l : List Nmd} (h : SlN B W v l) (hk : Kx X W W') (hB : ∀ b, b < W.heap.size → B b → B' b) (hX : ∀ b, b < W.heap.size → B b → ¬ X b) : SlN B' W' v l := by
  rcases h with h | ⟨b, o, c, h1, h2, h3, h4, h5⟩
  · exact .inl h
  · exact .inr ⟨b, o, c, h1, h2, Nat.lt_of_lt_of_le h3 hk.size, hB b h3 h4, fun i hi => Nmd.lies_to hk hB hX _ _ _ (hX b h3 h4) (h5 i hi)⟩
theorem SlN.kept {B : BQ} {W W' : World} {v : Value} {l : List Nmd} (h : SlN B W v l) (hk : Below W.heap.size W W') : SlN B W' v l := h.to (X := fun _ => False) (Kx.of_whole hk) (fun _ _ h => h) (fun _ _ _ h => h)
theorem SlN.open {B : BQ} {W : World} {v : Value} {l : List Nmd} (h : SlN B W v l) : ∃ a c, v = .slice a l.length c ∧ (l.length : Int) ≤ 9223372036854775807 ∧ ∀ i (hi : i < l.length), ∃ b o, a = some ⟨b, o, none⟩ ∧ b < W.heap.size ∧ B b ∧ (l[i]).lies B W b (o + i * 9) := by
  rcases h with ⟨a, c, rfl, rfl⟩ | ⟨b, o, c, rfl, h2, h3, h4, h5⟩
  · exact ⟨a, c, rfl, by simp, fun i hi => by cases hi⟩
  · exact ⟨_, c, rfl, h2, fun i hi => ⟨b, o, rfl, h3, h4, h5 i hi⟩⟩
/-- the document's world at block V -/
def W8S (B : BQ) (W : World) (V : Nat) (l : List Nmd) : Prop := ∃ v, W.cell? ⟨V, 0, none⟩ = some v ∧ SlN B W v l
theorem W8S.kept {B : BQ} {W W' : World} {V : Nat} {l : List Nmd} (h : W8S B W V l) (hk : Below W.heap.size W W') : W8S B W' V l := by
  obtain ⟨v, h1, h2⟩ := h
  exact ⟨v, kept_cell hk h1, h2.kept hk⟩
/-- where a name stands -/
def fnd : List Nmd → ByteArray → Int
  | [], _ => -1
  | t :: r, s => if t.name = s then 0 else (if fnd r s < 0 then -1 else fnd r s + 1)
theorem fnd_ge (s : ByteArray) : ∀ l : List Nmd, -1 ≤ fnd l s
  | [] => by show (-1 : Int) ≤ -1; omega
  | t :: r => by
    have := fnd_ge s r
    simp only [fnd]
    split
    · omega
    · split <;> omega
theorem fnd_drop (l : List Nmd) (s : ByteArray) (i : Nat) (hi : i < l.length) : fnd (l.drop i) s = if (l[i]).name = s then 0 else (if fnd (l.drop (i + 1)) s < 0 then -1 else fnd (l.drop (i + 1)) s + 1) := by
  rw [List.drop_eq_getElem_cons hi]; rfl
theorem fnd_mem (s : ByteArray) : ∀ l : List Nmd, s ∈ l.map Nmd.name ↔ 0 ≤ fnd l s
  | [] => by
    have e1 : fnd [] s = -1 := rfl
    rw [e1]; simp
  | t :: r => by
    have ih := fnd_mem s r
    have e1 : fnd (t :: r) s = if t.name = s then 0 else (if fnd r s < 0 then -1 else fnd r s + 1) := rfl
    rw [e1, List.map_cons, List.mem_cons]
    by_cases e : t.name = s
    · rw [if_pos e]
      exact ⟨fun _ => Int.le_refl 0, fun _ => .inl e.symm⟩
    · rw [if_neg e]
      have e2 : ¬ s = t.name := fun h => e h.symm
      by_cases h0 : fnd r s < 0
      · rw [if_pos h0]
        constructor
        · rintro (h | h)
          · exact absurd h e2
          · have := ih.1 h; omega
        · intro h; omega
      · rw [if_neg h0]
        exact ⟨fun _ => by omega, fun _ => .inr (ih.2 (by omega))⟩
theorem fnd_memB (l : List Nmd) (s : ByteArray) : memB s (l.map Nmd.name) = decide (0 ≤ fnd l s) := by
  unfold memB
  exact decide_eq_decide.2 (fnd_mem s l)
end Go.Proofs.Ytdofhlmffponoaa

