/-
  Maps by names, as functions: what stands under each name, and which names there are.
-/
import Derived.Test.YtdofhlmffponoaaJdA
import Derived.Maps.OwnSet
import Derived.Maps.RangeWalk
import Derived.Test.YtdofhlmffponoaaJdC
namespace Go.Proofs.Ytdofhlmffponoaa
open Go.RowKit Go.Maps
/-- an element reads as itself -/
def mR (v : Value) : Option (DataW Value × List MemPlace) := some (.held v, [])
theorem mR_inv {v : Value} {d : DataW Value} {ps : List MemPlace} (h : mR v = some (d, ps)) : d = .held v := by
  unfold mR at h
  simp only [Option.some.injEq, Prod.mk.injEq] at h
  exact h.1.symm
def kL (s : ByteArray) : Lit := .string s.data.toList
theorem kL_inj {s t : ByteArray} (h : kL s = kL t) : s = t := by
  unfold kL at h
  injection h with h
  cases s; cases t
  simpa using h
theorem kOf {s : ByteArray} (h : s.size ≤ maxLen) : keyOf Try.prog 9 (.string s) = some (kL s) := by
  unfold keyOf
  rw [Try.underlying9]
  simp only [mapKey, Try.underlying9, h, if_true]
  rfl
set_option maxRecDepth 100000 in
theorem kOf_inv {v : Value} {l : Lit} (h : keyOf Try.prog 9 v = some l) : ∃ s : ByteArray, v = .string s ∧ s.size ≤ maxLen ∧ l = kL s := by
  unfold keyOf at h
  rw [Try.underlying9] at h
  simp only [mapKey, Try.underlying9] at h
  cases v <;> simp at h
  exact ⟨_, rfl, h.1, h.2.symm⟩
theorem kyd : Keyed Try.prog 9 := string_keyed Try.underlying9
theorem kL_key {s : ByteArray} (h : s.size ≤ maxLen) : WideAt.IsKeyLit (kL s) := kyd.key (kOf h)
/-- what is held, or what it is where nothing is -/
def hd (o : Option Value) (zd : DataW Value) : DataW Value := match o with | some v => .held v | none => zd
/-- the map D is the function f, with the names ks -/
structure MpD (D : DataW Value) (f : ByteArray → Option Value) (ks : List ByteArray) : Prop where
  ak : ∀ s, s.size ≤ maxLen → ∀ zd, D.atKey (kL s) zd = hd (f s) zd
  size : Maps.size D = ks.length
  nd : ks.Nodup
  mem : ∀ s, s ∈ ks ↔ (f s).isSome = true
  sz : ∀ s ∈ ks, s.size ≤ maxLen
theorem MpD.has {D : DataW Value} {f : ByteArray → Option Value} {ks : List ByteArray} (h : MpD D f ks) {s : ByteArray} (hs : s.size ≤ maxLen) : Maps.has D (kL s) = (f s).isSome := by
  cases e : f s with
  | none => exact has_false_of_atKey (fun z => by rw [h.ak s hs z, e]; rfl)
  | some v => exact has_true_of_atKey (fun z => by rw [h.ak s hs z, e]; rfl)
/-- a map in memory -/
structure MpS (w : World) (b n : Nat) (f : ByteArray → Option Value) (ks : List ByteArray) : Prop where
  ex : ∃ D, w.ownsMap Try.prog 9 mR b n D ∧ MpD D f ks
theorem MpS.lt {w : World} {b n : Nat} {f : ByteArray → Option Value} {ks : List ByteArray} (h : MpS w b n f ks) : b < w.heap.size := by
  obtain ⟨D, h1, _⟩ := h.ex; exact h1.lt
theorem MpS.to {X : Nat → Prop} {w w' : World} {b n : Nat} {f : ByteArray → Option Value} {ks : List ByteArray} (h : MpS w b n f ks) (hk : Kx X w w') (hX : ¬ X b) : MpS w' b n f ks := by
  obtain ⟨D, ⟨es, clock, h1, h2⟩, h3⟩ := h.ex
  exact ⟨D, ⟨es, clock, hk.keep _ _ h1 hX, h2⟩, h3⟩
theorem MpS.kept {w w' : World} {b n : Nat} {f : ByteArray → Option Value} {ks : List ByteArray} (h : MpS w b n f ks) (hk : Below w.heap.size w w') : MpS w' b n f ks := h.to (X := fun _ => False) (Kx.of_whole hk) (fun h => h)
theorem MpS.made (w : World) : MpS (w.alloc (.map #[] 0)) w.heap.size 0 (fun _ => none) [] :=
  ⟨_, World.ownsMap_made w _ _ _, fun _ _ _ => rfl, rfl, List.nodup_nil, fun s => by simp, fun s hs => by cases hs⟩
set_option maxRecDepth 100000 in
theorem MpS.look {w : World} {b n : Nat} {f : ByteArray → Option Value} {ks : List ByteArray} (h : MpS w b n f ks) {t e : TypeId} (ht : Try.prog.underlying t = some (.map 9 e)) {z : Value} (hz : (zeroValue e).run Try.prog w = .ok z w) {s : ByteArray} (hs : s.size ≤ maxLen) :
    (Instr.lookup t (.map (some b)) (.string s) true).run Try.prog w = .ok (.tuple #[(f s).getD z, .bool (f s).isSome]) w := by
  obtain ⟨D, h1, h2⟩ := h.ex
  obtain ⟨v, ps, hr, hv⟩ := h1.look_ok kyd ht hz (zd := .held z) (zp := []) rfl (kOf hs)
  rw [hr, h2.has hs]
  have := mR_inv hv
  rw [h2.ak s hs] at this
  cases e : f s with
  | none =>
    rw [e] at this
    have h3 : DataW.held z = DataW.held v := this
    injection h3 with h3
    subst h3
    rfl
  | some u =>
    rw [e] at this
    have h3 : DataW.held u = DataW.held v := this
    injection h3 with h3
    subst h3
    rfl
set_option maxRecDepth 100000 in
theorem MpS.look1 {w : World} {b n : Nat} {f : ByteArray → Option Value} {ks : List ByteArray} (h : MpS w b n f ks) {t e : TypeId} (ht : Try.prog.underlying t = some (.map 9 e)) {z : Value} (hz : (zeroValue e).run Try.prog w = .ok z w) {s : ByteArray} (hs : s.size ≤ maxLen) :
    (Instr.lookup t (.map (some b)) (.string s) false).run Try.prog w = .ok ((f s).getD z) w := by
  obtain ⟨D, h1, h2⟩ := h.ex
  obtain ⟨v, ps, hr, hv⟩ := h1.lookup kyd ht hz (zd := .held z) (zp := []) rfl (kOf hs)
  rw [hr]
  have := mR_inv hv
  rw [h2.ak s hs] at this
  cases e : f s with
  | none =>
    rw [e] at this
    have h3 : DataW.held z = DataW.held v := this
    injection h3 with h3
    subst h3
    rfl
  | some u =>
    rw [e] at this
    have h3 : DataW.held u = DataW.held v := this
    injection h3 with h3
    subst h3
    rfl
/-- a name more -/
def ups (f : ByteArray → Option Value) (s : ByteArray) (v : Value) : ByteArray → Option Value := fun x => if x = s then some v else f x
def insK {α : Type} [DecidableEq α] (ks : List α) (s : α) : List α := if s ∈ ks then ks else ks ++ [s]
theorem insK_in {α : Type} [DecidableEq α] {ks : List α} {s : α} (h : s ∈ ks) : insK ks s = ks := if_pos h
theorem insK_new {α : Type} [DecidableEq α] {ks : List α} {s : α} (h : s ∉ ks) : insK ks s = ks ++ [s] := if_neg h
/-- is it among them? -/
def memB {α : Type} [DecidableEq α] (s : α) (l : List α) : Bool := decide (s ∈ l)
theorem MpS.upd {w : World} {b n : Nat} {f : ByteArray → Option Value} {ks : List ByteArray} (h : MpS w b n f ks) {t e : TypeId} (ht : Try.prog.underlying t = some (.map 9 e)) {s : ByteArray} (hs : s.size ≤ maxLen) (hn : n < maxLen) (v : Value) :
    ∃ w', (Instr.mapUpdate t (.map (some b)) (.string s) v).run Try.prog w = .ok () w' ∧ MpS w' b (n + 1) (ups f s v) (insK ks s) ∧ Kx (· = b) w w' ∧ w'.heap.size = w.heap.size := by
  obtain ⟨D, h1, h2⟩ := h.ex
  obtain ⟨w', hr, ho, ht'⟩ := h1.store kyd ht hn (kOf hs) (val := v) (d := .held v) (ps := []) rfl
  refine ⟨w', hr, ⟨_, ho, ?_⟩, ?_, ?_⟩
  · refine ⟨fun x hx zd => ?_, ?_, ?_, fun x => ?_, fun x hx => ?_⟩
    · unfold ups
      by_cases e : x = s
      · subst e
        rw [if_pos rfl, atKey_put_same h1.isMap (kL_key hs)]; rfl
      · rw [if_neg e, atKey_put_other (fun h => e (kL_inj h))]
        exact h2.ak x hx zd
    · rw [size_put (h1.tidy kyd), h2.has hs, h2.size]
      by_cases e : s ∈ ks
      · rw [insK_in e, if_pos ((h2.mem s).1 e)]
      · rw [insK_new e, if_neg (fun h => e ((h2.mem s).2 h))]; simp
    · by_cases e : s ∈ ks
      · rw [insK_in e]; exact h2.nd
      · rw [insK_new e, List.nodup_append]
        exact ⟨h2.nd, by simp, fun a ha c hc hac => e (by rw [List.mem_singleton.1 hc] at hac; rw [← hac]; exact ha)⟩
    · unfold ups
      by_cases e : x = s
      · subst e
        by_cases e2 : x ∈ ks
        · rw [insK_in e2]; simp [e2]
        · rw [insK_new e2]; simp
      · rw [if_neg e]
        by_cases e2 : s ∈ ks
        · rw [insK_in e2]; exact h2.mem x
        · rw [insK_new e2, ← h2.mem x]; simp [e]
    · by_cases e2 : s ∈ ks
      · rw [insK_in e2] at hx
        exact h2.sz x hx
      · rw [insK_new e2] at hx
        rcases List.mem_append.1 hx with h | h
        · exact h2.sz x h
        · rw [List.mem_singleton.1 h]; exact hs
  · have hg := ht'.grown
    exact ⟨hg.os, hg.tape, hg.output, hg.size, fun k o hk hne => by rw [hg.block k (Array.getElem?_eq_some_iff.1 hk).1 (fun e => hne (by injection e))]; exact hk⟩
  · obtain ⟨_, _, _, _, _, rfl⟩ := ht'
    exact Array.size_set! ..
theorem MpS.len {w : World} {b n : Nat} {f : ByteArray → Option Value} {ks : List ByteArray} (h : MpS w b n f ks) {t e : TypeId} (ht : Try.prog.underlying t = some (.map 9 e)) (ty : TypeId) :
    (Builtin.len_ #[t] ty #[.map (some b)]).run Try.prog w = .ok (.int .i64 ks.length) w := by
  obtain ⟨D, h1, h2⟩ := h.ex
  rw [h1.len ht ty, h2.size]
/-- a map that is gone through: the names of dn were told -/
structure MrS (w : World) (b r n : Nat) (f : ByteArray → Option Value) (ks dn : List ByteArray) : Prop where
  ex : ∃ D left cnt, w.ranges Try.prog 9 mR b r n D left cnt ∧ MpD D f ks ∧ (∀ s ∈ ks, left (kL s) = !memB s dn) ∧ (∀ kl, left kl = true → ∃ s ∈ ks, kl = kL s)
  nd : dn.Nodup
  sub : ∀ s ∈ dn, s ∈ ks
theorem MrS.map {w : World} {b r n : Nat} {f : ByteArray → Option Value} {ks dn : List ByteArray} (h : MrS w b r n f ks dn) : MpS w b n f ks := by
  obtain ⟨D, left, cnt, h1, h2, _⟩ := h.ex
  exact ⟨D, h1.owns, h2⟩
theorem MrS.to {X : Nat → Prop} {w w' : World} {b r n : Nat} {f : ByteArray → Option Value} {ks dn : List ByteArray} (h : MrS w b r n f ks dn) (hk : Kx X w w') (hX : ¬ X b) (hX' : ¬ X r) : MrS w' b r n f ks dn := by
  obtain ⟨D, left, cnt, ⟨es, clock, since, seen, c0, h1, h2, h3, h4, h5, h6⟩, h7⟩ := h.ex
  exact ⟨⟨D, left, cnt, ⟨es, clock, since, seen, c0, hk.keep _ _ h1 hX, h2, h3, h4, hk.keep _ _ h5 hX', h6⟩, h7⟩, h.nd, h.sub⟩
theorem MrS.kept {w w' : World} {b r n : Nat} {f : ByteArray → Option Value} {ks dn : List ByteArray} (h : MrS w b r n f ks dn) (hk : Below w.heap.size w w') : MrS w' b r n f ks dn := h.to (X := fun _ => False) (Kx.of_whole hk) (fun h => h) (fun h => h)
theorem MpS.range {w : World} {b n : Nat} {f : ByteArray → Option Value} {ks : List ByteArray} (h : MpS w b n f ks) {t e : TypeId} (ht : Try.prog.underlying t = some (.map 9 e)) :
    ∃ w', (Instr.range t (.map (some b))).run Try.prog w = .ok (.pointer (some ⟨w.heap.size, 0, none⟩)) w' ∧ MrS w' b w.heap.size n f ks [] ∧ Below w.heap.size w w' ∧ w'.heap.size = w.heap.size + 1 := by
  obtain ⟨D, h1, h2⟩ := h.ex
  obtain ⟨w', hr, hg, hgr, hsz⟩ := h1.range kyd ht
  refine ⟨w', hr, ⟨⟨D, _, _, hg, h2, fun s hs => ?_, fun kl hkl => ?_⟩, List.nodup_nil, fun s hs => by cases hs⟩, (Below.refl _ w).grown hgr (Nat.le_refl _) (fun k e => by cases e), hsz⟩
  · rw [h2.has (h2.sz s hs), (h2.mem s).1 hs]; rfl
  · obtain ⟨es, clock, _, _, _, hb, F, _, rfl, _, _, _, _, hl, _⟩ := hg
    obtain ⟨x, hx, e⟩ := hl kl hkl
    obtain ⟨s, e1, e2, e3⟩ : ∃ s : ByteArray, keyOf Try.prog 9 (.string s) = some kl ∧ s.size ≤ maxLen ∧ kl = kL s := by
      obtain ⟨y, hy⟩ := F.reads x hx
      have h3 := WideElems.rd_key hy
      obtain ⟨s, e4, e5, e6⟩ := kOf_inv h3
      have e7 : kl = y.1 := by rw [← e]; unfold WideElems.rg; rw [hy]; rfl
      exact ⟨s, by rw [← e4, h3, e7], e5, by rw [e7, e6]⟩
    exact ⟨s, (h2.mem s).2 (by rw [← h2.has e2, ← e3]; exact hkl), e3⟩
set_option maxRecDepth 100000 in
/-- the next name: none, or one that was not told yet -/
theorem MrS.next {w : World} {b r n : Nat} {f : ByteArray → Option Value} {ks dn : List ByteArray} (h : MrS w b r n f ks dn) (ty : TypeId) :
    ((∀ s ∈ ks, s ∈ dn) ∧ (Instr.next (.pointer (some ⟨r, 0, none⟩)) false ty).run Try.prog w = .ok (.tuple #[.bool false]) w) ∨
    ∃ s v w', s ∈ ks ∧ s ∉ dn ∧ f s = some v ∧ (Instr.next (.pointer (some ⟨r, 0, none⟩)) false ty).run Try.prog w = .ok (.tuple #[.bool true, .string s, v]) w' ∧
      MrS w' b r n f ks (dn ++ [s]) ∧ Kx (· = r) w w' ∧ w'.heap.size = w.heap.size ∧ (Instr.entry (.pointer (some ⟨r, 0, none⟩))).run Try.prog w' = .ok (.tuple #[.string s, v]) w' := by
  obtain ⟨D, left, cnt, h1, h2, h3, h4⟩ := h.ex
  rcases h1.next kyd ty with ⟨_, hl, hr⟩ | ⟨key, v, kl, y, w', cnt', hk, hlk, hv, hat, hr, hrg, hlt, hgr, hsz, hen⟩
  · refine .inl ⟨fun s hs => ?_, hr⟩
    have := h3 s hs
    rw [hl] at this
    unfold memB at this
    simpa using this
  · obtain ⟨s, rfl, hss, rfl⟩ := kOf_inv hk
    obtain ⟨s', hs', e'⟩ := h4 _ hlk
    have := kL_inj e'
    subst this
    have hdn : s ∉ dn := by
      have := h3 s hs'
      rw [hlk] at this
      unfold memB at this
      simpa using this
    have hf : f s = some v := by
      have h6 := hat .nil
      have h7 := hat (.lit (.bool true))
      obtain ⟨y1, y2⟩ := y
      have h8 := mR_inv hv
      rw [h2.ak s hss] at h6 h7
      rw [h8] at h6 h7
      cases e : f s with
      | none => rw [e] at h6; cases h6
      | some u =>
        rw [e] at h6
        have h9 : DataW.held u = DataW.held v := h6
        injection h9 with h9
        rw [h9]
    refine .inr ⟨s, v, w', hs', hdn, hf, hr, ⟨⟨D, _, cnt', hrg, h2, fun t ht => ?_, fun kl hkl => ?_⟩, ?_, fun t ht => ?_⟩, ?_, hsz, hen⟩
    · rw [h3 t ht]
      unfold memB
      by_cases e : t = s
      · subst e
        have : (kL t).sameKey (kL t) = true := WideAt.sameKey_self (kL_key hss)
        simp [this]
      · have : (kL t).sameKey (kL s) = false := sameKey_ne (fun h => e (kL_inj h))
        simp [this, e]
    · have : left kl = true := by
        have := hkl
        simp at this
        exact this.1
      exact h4 kl this
    · rw [List.nodup_append]
      exact ⟨h.nd, by simp, fun a ha c hc hac => hdn (by rw [List.mem_singleton.1 hc] at hac; rw [← hac]; exact ha)⟩
    · rcases List.mem_append.1 ht with h6 | h6
      · exact h.sub t h6
      · rw [List.mem_singleton.1 h6]; exact hs'
    · exact ⟨hgr.os, hgr.tape, hgr.output, hgr.size, fun k o hk hne => by rw [hgr.block k (Array.getElem?_eq_some_iff.1 hk).1 (fun e => hne (by injection e))]; exact hk⟩
end Go.Proofs.Ytdofhlmffponoaa

/-
  Declared types in memory; slices.Clone of methods.
-/
namespace Go.Proofs.Ytdofhlmffponoaa
open Go.RowKit
attribute [local go_sem ↓] Go.wp_at_zero Go.wp_at_succ
theorem infoM : (Try.prog.info? 68).map (fun i => (i.zero, i.size, i.bytes)) = some (some (.agg #[.string ⟨#[]⟩, .bool false, .int .i64 0, .string ⟨#[]⟩, .int .i64 0, .bool false, .slice none 0 0, .slice none 0 0, .slice none 0 0]), 9, 136) := by kernel_rfl
theorem infoM_ex : ∃ i, Try.prog.info? 68 = some i ∧ i.zero = some (.agg #[.string ⟨#[]⟩, .bool false, .int .i64 0, .string ⟨#[]⟩, .int .i64 0, .bool false, .slice none 0 0, .slice none 0 0, .slice none 0 0]) ∧ i.size = 9 ∧ i.bytes = 136 := by
  obtain ⟨i0, hi, h1, h2, h3⟩ := info_parts infoM
  exact ⟨i0, hi, h1, h2, h3⟩
set_option maxRecDepth 100000 in
set_option maxHeartbeats 1000000 in
theorem cloneM {w : World} {v : Value} {n : Nat} {l : List Value} (h : Src w v n l) (hl : l.length = n * 9) (h1 : ∀ u ∈ l, u.oneCell' = true) (hn : n * 136 ≤ 140737488355328) : Calls Try.prog 53 #[v] w (ClQ w 68 9 n l) := by
  obtain ⟨i0, hi, hz0, hz1, hz2⟩ := infoM_ex
  have q22 : ∀ (w : World) (a : Option Addr) (n c n' c' : Nat), (binOp .eql 31 (.slice a n c) (.slice none n' c')).run Try.prog w = .ok (.bool a.isNone) w := fun w a n c n' c' => Go.Lib.run_eql_slice_nil w _ _ a n c n' c' Try.underlying31
  cases h with
  | nil c =>
    go_enter Try.func53, Try.ntmps53
    go_wp2_with fail
    go_ret
    exact ⟨⟨_, rfl, World.ownsRow_nil _ _ _ _⟩, Below.refl _ _⟩
  | non a c =>
    have hr : (w.alloc (.cells #[] 68)).ownsRow w.heap.size 68 9 (.slice (some ⟨w.heap.size, 0, none⟩) 0 0) 0 [] := World.ownsRow_made w #[] 0 (Nat.le_refl _) (by simp [maxLen]) (by simp)
    go_enter Try.func53, Try.ntmps53
    go_wp2_with (at_builtin; refine wpList_append_own _ rfl _ _ 31 rfl w.heap.size 68 i0 (.agg #[.string ⟨#[]⟩, .bool false, .int .i64 0, .string ⟨#[]⟩, .int .i64 0, .bool false, .slice none 0 0, .slice none 0 0, .slice none 0 0]) 9 136 Try.underlying31 hi hz0 hz1 hz2 rfl (by decide) _ _ _ rfl hr a 0 c [] rfl rfl (by simp) (by simp) (by simp [maxLen]) (by simp) (by simp) ?_; intro v' w1 hown' hgrow _)
    go_ret
    exact ⟨⟨_, rfl, by simpa using hown'⟩, ((Below.refl _ w).alloc (Nat.le_refl _) _).grown hgrow (by simp) own_ge⟩
  | row b o n c l hc =>
    have hr : (w.alloc (.cells #[] 68)).ownsRow w.heap.size 68 9 (.slice (some ⟨w.heap.size, 0, none⟩) 0 0) 0 [] := World.ownsRow_made w #[] 0 (Nat.le_refl _) (by simp [maxLen]) (by simp)
    have hc2 : ∀ j u, l[j]? = some u → (w.alloc (.cells #[] 68)).cell? ((⟨b, o, none⟩ : Addr).add j) = some u := fun j u hj => by
      rw [Addr.add_lit]; exact kept_cell (below_alloc w _) (hc j u hj)
    go_enter Try.func53, Try.ntmps53
    go_wp2_with (at_builtin; refine wpList_append_own _ rfl _ _ 31 rfl w.heap.size 68 i0 (.agg #[.string ⟨#[]⟩, .bool false, .int .i64 0, .string ⟨#[]⟩, .int .i64 0, .bool false, .slice none 0 0, .slice none 0 0, .slice none 0 0]) 9 136 Try.underlying31 hi hz0 hz1 hz2 rfl (by decide) _ _ _ rfl hr ⟨b, o, none⟩ n c l rfl hl hc2 h1 (by simp [maxLen]; omega) (by omega) (by simp) ?_; intro v' w1 hown' hgrow _)
    go_ret
    exact ⟨⟨_, rfl, by simpa using hown'⟩, ((Below.refl _ w).alloc (Nat.le_refl _) _).grown hgrow (by simp) own_ge⟩
/-- a method in plain Lean -/
structure Mth where
  name : ByteArray
  ptr : Bool
  sig : Ty
/-- a declared type in plain Lean -/
structure Nmd where
  name : ByteArray
  under : Ty
  mths : List Mth
/-- a method lies at (b, o): nine cells -/
def Mth.lies (B : BQ) (W : World) (m : Mth) (b o : Nat) : Prop := W.cell? ⟨b, o, none⟩ = some (.string m.name) ∧ W.cell? ⟨b, o + 1, none⟩ = some (.bool m.ptr) ∧ m.sig.lies B W b (o + 2)
/-- a slice of methods -/
def SlM (B : BQ) (W : World) (v : Value) (ms : List Mth) : Prop :=
  (∃ a c, v = .slice a 0 c ∧ ms = []) ∨ ∃ b o c, v = .slice (some ⟨b, o, none⟩) ms.length c ∧ (ms.length : Int) ≤ 9223372036854775807 ∧ b < W.heap.size ∧ B b ∧ ∀ i (hi : i < ms.length), (ms[i]).lies B W b (o + i * 9)
theorem Mth.lies_to {B B' : BQ} {X : Nat → Prop} {W W' : World} (hk : Kx X W W') (hB : ∀ b, b < W.heap.size → B b → B' b) (hX : ∀ b, b < W.heap.size → B b → ¬ X b) (m : Mth) (b o : Nat) (hb : ¬ X b) (h : m.lies B W b o) : m.lies B' W' b o :=
  ⟨hk.cell h.1 hb, hk.cell h.2.1 hb, Go.Proofs.Ytdofhlmffponoaa.lies_to hk hB hX _ _ _ hb h.2.2⟩
theorem SlM.to {B B' : BQ} {X : Nat → Prop} {W W' : World} {v : Value} {l : List Mth} (h : SlM B W v l) (hk : Kx X W W') (hB : ∀ b, b < W.heap.size → B b → B' b) (hX : ∀ b, b < W.heap.size → B b → ¬ X b) : SlM B' W' v l := by
  rcases h with h | ⟨b, o, c, h1, h2, h3, h4, h5⟩
  · exact .inl h
  · exact .inr ⟨b, o, c, h1, h2, Nat.lt_of_lt_of_le h3 hk.size, hB b h3 h4, fun i hi => Mth.lies_to hk hB hX _ _ _ (hX b h3 h4) (h5 i hi)⟩
theorem SlM.slice {B : BQ} {W : World} {v : Value} {l : List Mth} (h : SlM B W v l) : ∃ a c, v = .slice a l.length c ∧ (l.length : Int) ≤ 9223372036854775807 := by
  rcases h with ⟨a, c, rfl, rfl⟩ | ⟨b, o, c, rfl, h, _⟩
  · exact ⟨a, c, rfl, by simp⟩
  · exact ⟨_, c, rfl, h⟩
/-- what a declared type holds -/
structure NmP (B : BQ) (W : World) (t : Nmd) (vn vm vk vs : Value) : Prop where
  un : Prt B W t.under vn vm vk
  ms : SlM B W vs t.mths
theorem NmP.to {B B' : BQ} {X : Nat → Prop} {W W' : World} {t : Nmd} {vn vm vk vs : Value} (h : NmP B W t vn vm vk vs) (hk : Kx X W W') (hB : ∀ b, b < W.heap.size → B b → B' b) (hX : ∀ b, b < W.heap.size → B b → ¬ X b) : NmP B' W' t vn vm vk vs := ⟨h.un.to hk hB hX, h.ms.to hk hB hX⟩
theorem NmP.kept {B : BQ} {W W' : World} {t : Nmd} {vn vm vk vs : Value} (h : NmP B W t vn vm vk vs) (hk : Below W.heap.size W W') : NmP B W' t vn vm vk vs := h.to (X := fun _ => False) (Kx.of_whole hk) (fun _ _ h => h) (fun _ _ _ h => h)
theorem NmP.with {B B' : BQ} {W : World} {t : Nmd} {vn vm vk vs : Value} (h : NmP B W t vn vm vk vs) (hB : ∀ b, b < W.heap.size → B b → B' b) : NmP B' W t vn vm vk vs := h.to (X := fun _ => False) (Kx.refl _ _) hB (fun _ _ _ h => h)
/-- a declared type as a value -/
def agN (t : Nmd) (vn vm vk vs : Value) : Value := .agg #[.string t.name, .int .i64 t.under.kind, .string t.under.name, .int .i64 t.under.n, .bool t.under.flag, vn, vm, vk, vs]
/-- what fits into memory -/
structure FitN (t : Nmd) : Prop where
  un : Fit t.under
  uc : t.under.cnt ≤ 1000000
  ms : t.mths.length * 136 ≤ 140737488355328
  ss : ∀ m ∈ t.mths, Fit m.sig ∧ m.sig.cnt ≤ 1000000
/-- a declared type is answered -/
structure NmQ (w : World) (K : BQ) (t : Nmd) (e : Ending) (w' : World) : Prop where
  bl : Below w.heap.size w w'
  ex : ∃ vn vm vk vs, e = .returned (agN t vn vm vk vs) ∧ NmP K w' t vn vm vk vs
theorem NmP.form {B : BQ} {W : World} {t : Nmd} {vn vm vk vs : Value} (h : NmP B W t vn vm vk vs) : ∃ an cn am cm ak ck sa sc, vn = .slice an t.under.names.length cn ∧ vm = .slice am t.under.marks.length cm ∧ vk = .slice ak t.under.kids.length ck ∧ vs = .slice sa t.mths.length sc := by
  obtain ⟨an, cn, am, cm, ak, ck, h1, h2, h3⟩ := h.un.form
  obtain ⟨sa, sc, h4, _⟩ := h.ms.slice
  exact ⟨an, cn, am, cm, ak, ck, sa, sc, h1, h2, h3, h4⟩
/-- the cells of methods in a row -/
def celM (m : Mth) (v : V3) : List Value := [.string m.name, .bool m.ptr] ++ cel m.sig v
def flatM : List Mth → List V3 → List Value
  | m :: r, v :: s => celM m v ++ flatM r s
  | _, _ => []
theorem flatM_len (l : List Mth) (vs : List V3) (h : vs.length = l.length) : (flatM l vs).length = l.length * 9 := by
  induction l generalizing vs with
  | nil => cases vs <;> simp [flatM]
  | cons m r ih =>
    cases vs with
    | nil => simp at h
    | cons v s =>
      have := ih s (by simpa using h)
      simp only [flatM, List.length_append, this, celM, cel, List.length_cons, List.length_nil]
      omega
theorem flatM_get (l : List Mth) (vs : List V3) (h : vs.length = l.length) (i : Nat) (hi : i < l.length) (j : Nat) (hj : j < 9) : (flatM l vs)[i * 9 + j]? = (celM l[i] (vs[i]'(h ▸ hi)))[j]? := by
  induction l generalizing vs i with
  | nil => cases hi
  | cons m r ih =>
    cases vs with
    | nil => simp at h
    | cons v s =>
      have hl : (celM m v).length = 9 := by simp [celM, cel]
      simp only [flatM]
      cases i with
      | zero =>
        rw [List.getElem?_append_left (by omega)]
        simp
      | succ i =>
        rw [List.getElem?_append_right (by omega)]
        have e : (i + 1) * 9 + j - (celM m v).length = i * 9 + j := by omega
        rw [e]
        have := ih s (by simpa using h) i (by simpa using hi)
        simpa using this
theorem flatM_one (l : List Mth) (vs : List V3) (h : vs.length = l.length) (h1 : ∀ i (hi : i < l.length), (vs[i]'(h ▸ hi)).n.oneCell' = true ∧ (vs[i]'(h ▸ hi)).m.oneCell' = true ∧ (vs[i]'(h ▸ hi)).k.oneCell' = true) : ∀ u ∈ flatM l vs, u.oneCell' = true := by
  induction l generalizing vs with
  | nil => intro u hu; cases vs <;> simp [flatM] at hu
  | cons m r ih =>
    cases vs with
    | nil => simp at h
    | cons v s =>
      intro u hu
      simp only [flatM] at hu
      rcases List.mem_append.1 hu with hu | hu
      · have h0 := h1 0 (by simp)
        simp at h0
        simp only [celM, cel, List.cons_append, List.nil_append, List.mem_cons, List.not_mem_nil, or_false] at hu
        rcases hu with rfl | rfl | rfl | rfl | rfl | rfl | rfl | rfl | rfl
        all_goals first | rfl | exact h0.1 | exact h0.2.1 | exact h0.2.2
      · exact ih s (by simpa using h) (fun i hi => by have := h1 (i + 1) (by simpa using hi); simpa using this) u hu
/-- the cells of a slice of methods -/
theorem SlM.cells {B : BQ} {W : World} {v : Value} {l : List Mth} (h : SlM B W v l) : ∃ vs : List V3, ∃ hl : vs.length = l.length, Src W v l.length (flatM l vs) ∧ ∀ i (hi : i < l.length), Prt B W l[i].sig (vs[i]'(hl ▸ hi)).n (vs[i]'(hl ▸ hi)).m (vs[i]'(hl ▸ hi)).k := by
  rcases h with ⟨a, c, rfl, rfl⟩ | ⟨b, o, c, rfl, h2, h3, h4, h5⟩
  · refine ⟨[], rfl, ?_, fun i hi => by cases hi⟩
    cases a with
    | none => exact .nil c
    | some a => exact .non a c
  · have key : ∀ (l : List Mth) (o : Nat), (∀ i (hi : i < l.length), (l[i]).lies B W b (o + i * 9)) → ∃ vs : List V3, ∃ hl : vs.length = l.length, (∀ j u, (flatM l vs)[j]? = some u → W.cell? ⟨b, o + j, none⟩ = some u) ∧ ∀ i (hi : i < l.length), Prt B W l[i].sig (vs[i]'(hl ▸ hi)).n (vs[i]'(hl ▸ hi)).m (vs[i]'(hl ▸ hi)).k := by
      intro l
      induction l with
      | nil => intro o _; exact ⟨[], rfl, fun j u hj => by simp [flatM] at hj, fun i hi => by cases hi⟩
      | cons m r ih =>
        intro o h
        obtain ⟨vs, hl, k1, k2⟩ := ih (o + 9) (fun i hi => by
          have := h (i + 1) (by simpa using hi)
          have e : o + (i + 1) * 9 = o + 9 + i * 9 := by omega
          rw [e] at this
          simpa using this)
        obtain ⟨c0, c1, c2⟩ := h 0 (by simp)
        simp only [List.getElem_cons_zero, Nat.zero_mul, Nat.add_zero] at c0 c1 c2
        obtain ⟨d0, d1, d2, d3, vn, vm, vk, d4, d5, d6, hp⟩ := lies_iff.1 c2
        refine ⟨⟨vn, vm, vk⟩ :: vs, by simp [hl], fun j u hj => ?_, fun i hi => ?_⟩
        · have hlc : (celM m ⟨vn, vm, vk⟩).length = 9 := by simp [celM, cel]
          simp only [flatM] at hj
          by_cases hj9 : j < 9
          · rw [List.getElem?_append_left (by omega)] at hj
            have hc : ∀ q, q < 9 → ∀ u, (celM m ⟨vn, vm, vk⟩)[q]? = some u → W.cell? ⟨b, o + q, none⟩ = some u := by
              intro q hq u hu
              match q, hq with
              | 0, _ => simp [celM, cel] at hu; subst hu; exact c0
              | 1, _ => simp [celM, cel] at hu; subst hu; exact c1
              | 2, _ => simp [celM, cel] at hu; subst hu; exact d0
              | 3, _ => simp [celM, cel] at hu; subst hu; exact d1
              | 4, _ => simp [celM, cel] at hu; subst hu; exact d2
              | 5, _ => simp [celM, cel] at hu; subst hu; exact d3
              | 6, _ => simp [celM, cel] at hu; subst hu; exact d4
              | 7, _ => simp [celM, cel] at hu; subst hu; exact d5
              | 8, _ => simp [celM, cel] at hu; subst hu; exact d6
            exact hc j hj9 u hj
          · rw [List.getElem?_append_right (by omega), hlc] at hj
            have := k1 (j - 9) u hj
            have e : o + 9 + (j - 9) = o + j := by omega
            rw [e] at this
            exact this
        · cases i with
          | zero => exact hp
          | succ i =>
            have := k2 i (by simpa using hi)
            simpa using this
    obtain ⟨vs, hl, k1, k2⟩ := key l o h5
    exact ⟨vs, hl, .row b o l.length c _ k1, k2⟩
end Go.Proofs.Ytdofhlmffponoaa

/-
  The table of declared types, and finding one.
-/
namespace Go.Proofs.Ytdofhlmffponoaa
open Go.RowKit
attribute [local go_sem ↓] Go.wp_at_zero Go.wp_at_succ
/-- no declared type, as a value -/
abbrev zN : Value := .agg #[.string ⟨#[]⟩, .int .i64 0, .string ⟨#[]⟩, .int .i64 0, .bool false, .slice none 0 0, .slice none 0 0, .slice none 0 0, .slice none 0 0]
theorem zeroN (w : World) : (zeroValue 33).run Try.prog w = .ok zN w := by
  have hi : (Try.prog.info? 33).map (fun i => (i.zero, i.size, i.bytes)) = some (some zN, 9, 152) := by kernel_rfl
  obtain ⟨i0, h1, h2, _, _⟩ := info_parts hi
  simp [zeroValue, typeInfo, h1, h2]
/-- the table at block b0 holds the declared types of l, what they hold lies in blocks of K -/
structure TbS (K : BQ) (W : World) (b0 n : Nat) (l : List Nmd) : Prop where
  ex : ∃ f, MpS W b0 n f (l.map Nmd.name) ∧ (∀ t ∈ l, ∃ vn vm vk vs, f t.name = some (agN t vn vm vk vs) ∧ NmP K W t vn vm vk vs)
theorem TbS.to {K : BQ} {X : Nat → Prop} {W W' : World} {b0 n : Nat} {l : List Nmd} (h : TbS K W b0 n l) (hk : Kx X W W') (hX : ¬ X b0) (hK : ∀ b, b < W.heap.size → K b → ¬ X b) : TbS K W' b0 n l := by
  obtain ⟨f, h1, h2⟩ := h.ex
  exact ⟨f, h1.to hk hX, fun t ht => by
    obtain ⟨vn, vm, vk, vs, e, hp⟩ := h2 t ht
    exact ⟨vn, vm, vk, vs, e, hp.to hk (fun _ _ h => h) hK⟩⟩
theorem TbS.kept {K : BQ} {W W' : World} {b0 n : Nat} {l : List Nmd} (h : TbS K W b0 n l) (hk : Below W.heap.size W W') : TbS K W' b0 n l := h.to (X := fun _ => False) (Kx.of_whole hk) (fun h => h) (fun _ _ _ h => h)
theorem bx9 {w : World} {B : Nat} {a b c d e f g h i : Value} {T : TypeId} (k : w.heap[B]? = some (.cells #[a, b, c, d, e, f, g, h, i] T (0, 0))) : w.cell? ⟨B, 0, none⟩ = some a ∧ w.cell? ⟨B, 1, none⟩ = some b ∧ w.cell? ⟨B, 2, none⟩ = some c ∧ w.cell? ⟨B, 3, none⟩ = some d ∧ w.cell? ⟨B, 4, none⟩ = some e ∧ w.cell? ⟨B, 5, none⟩ = some f ∧ w.cell? ⟨B, 6, none⟩ = some g ∧ w.cell? ⟨B, 7, none⟩ = some h ∧ w.cell? ⟨B, 8, none⟩ = some i :=
  ⟨cell_of k 0, cell_of k 1, cell_of k 2, cell_of k 3, cell_of k 4, cell_of k 5, cell_of k 6, cell_of k 7, cell_of k 8⟩
theorem resN {w : World} {g : Nat} {a b c d e f x y z : Value} (hg : w.heap[g]? = some (.cells #[a, b, c, d, e, f, x, y, z] 33 (0, 0))) : (loadVar 33 ⟨g, 0, none⟩).run Try.prog w = .ok (.agg #[a, b, c, d, e, f, x, y, z]) w := by
  obtain ⟨h0, h1, h2, h3, h4, h5, h6, h7, h8⟩ := bx9 hg
  go_simp
theorem results_ct {P : Program} {f : Func} {tmps : Array Value} {W : World} {a t b : Nat} {ad : Addr} {v u : Value} (hf : f.results = #[.cell a t, .tmp b]) (ha : tmps.getD a undef = .pointer (some ad)) (hb : tmps.getD b undef = u) (hl : (loadVar t ad).run P W = .ok v W) : (results f tmps).run P W = .ok (.tuple #[v, u]) W := by
  unfold results
  rw [hf]
  have ha2 : tmps[a]?.getD undef = .pointer (some ad) := by rw [← ha]; simp
  have hb2 : tmps[b]?.getD undef = u := by rw [← hb]; simp
  simp [ha2, hb2, asAddr, hl]
set_option maxRecDepth 100000 in
/-- find: what stands under a name -/
theorem find_any {w : World} {b0 n : Nat} {f : ByteArray → Option Value} {ks : List ByteArray} (h : MpS w b0 n f ks) (s : ByteArray) (hs : s.size ≤ maxLen) {s0 s1 : ByteArray} {k m : Int} {fl : Bool} {a1 a2 a3 a4 : Option Addr} {n1 c1 n2 c2 n3 c3 n4 c4 : Nat} (hv : (f s).getD zN = .agg #[.string s0, .int .i64 k, .string s1, .int .i64 m, .bool fl, .slice a1 n1 c1, .slice a2 n2 c2, .slice a3 n3 c3, .slice a4 n4 c4]) :
    Calls Try.prog 55 #[.map (some b0), .string s] w fun r w' => r = .returned (.tuple #[.agg #[.string s0, .int .i64 k, .string s1, .int .i64 m, .bool fl, .slice a1 n1 c1, .slice a2 n2 c2, .slice a3 n3 c3, .slice a4 n4 c4], .bool (f s).isSome]) ∧ Below w.heap.size w w' := by
  have hl := (h.kept (below_alloc w (.cells #[.string ⟨#[]⟩, .int .i64 0, .string ⟨#[]⟩, .int .i64 0, .bool false, .slice none 0 0, .slice none 0 0, .slice none 0 0, .slice none 0 0] 33))).look Try.underlying51 (zeroN _) hs
  rw [hv] at hl
  generalize (f s).isSome = q at *
  clear h hv hs
  go_enter Try.func55, Try.ntmps55
  go_wp2_with fail
  have hk : ((w.alloc (.cells #[.string s0, .int .i64 k, .string s1, .int .i64 m, .bool fl, .slice a1 n1 c1, .slice a2 n2 c2, .slice a3 n3 c3, .slice a4 n4 c4] 33)).alloc (.cells #[.string s0, .int .i64 k, .string s1, .int .i64 m, .bool fl, .slice a1 n1 c1, .slice a2 n2 c2, .slice a3 n3 c3, .slice a4 n4 c4] 33)).heap[w.heap.size]? = some (.cells #[.string s0, .int .i64 k, .string s1, .int .i64 m, .bool fl, .slice a1 n1 c1, .slice a2 n2 c2, .slice a3 n3 c3, .slice a4 n4 c4] 33 (0, 0)) := blk_kept (below_alloc _ _) (heap_new _ _)
  exact bodyPost_ret (results_ct rfl rfl rfl (resN hk)) rfl ⟨rfl, bthen (below_alloc _ _) (below_alloc _ _)⟩
end Go.Proofs.Ytdofhlmffponoaa

/-
  A map in memory, read entry by entry, is the map by names.
-/
namespace Go.Proofs.Ytdofhlmffponoaa
open Go.RowKit Go.Maps Go.WideElems
/-- what stands under a name in a list of names -/
def fdP (P : List (ByteArray × Value)) (s : ByteArray) : Option Value := (P.find? (fun p => decide (p.1 = s))).map (·.2)
theorem rd_str {x : MapEntry} {s : ByteArray} {v : Value} (hk : x.key = .string s) (hv : x.val = v) (hs : s.size ≤ maxLen) : rd Try.prog 9 mR x = some (kL s, (DataW.held v : DataW Value)) := by
  unfold rd
  rw [hk, kOf hs, hv]
  rfl
theorem MpS.raw {w : World} {b clock : Nat} {E : List MapEntry} {P : List (ByteArray × Value)} (hb : w.heap[b]? = some (.map E.toArray clock)) (hE : E.map (fun x => (x.key, x.val)) = P.map (fun p => (Value.string p.1, p.2))) (hst : MapKept.Stamped E.toArray clock) (hsz : ∀ p ∈ P, p.1.size ≤ maxLen) (hn : P.length ≤ maxLen) : MpS w b P.length (fdP P) (P.map (·.1)) := by
  have hlen : E.length = P.length := by have := congrArg List.length hE; simpa using this
  have hat : ∀ i (h1 : i < E.length) (h2 : i < P.length), (E[i]).key = .string (P[i]).1 ∧ (E[i]).val = (P[i]).2 := fun i h1 h2 => by
    have := congrArg (fun l => l[i]?) hE
    simp only [List.getElem?_map, List.getElem?_eq_getElem h1, List.getElem?_eq_getElem h2, Option.map_some, Option.some.injEq, Prod.mk.injEq] at this
    exact this
  have hrd : ∀ i (h1 : i < E.length) (h2 : i < P.length), rd Try.prog 9 mR E[i] = some (kL (P[i]).1, (DataW.held (P[i]).2 : DataW Value)) := fun i h1 h2 =>
    rd_str (hat i h1 h2).1 (hat i h1 h2).2 (hsz _ (List.getElem_mem h2))
  have hfit : Go.WideElems.Fit Try.prog 9 (mR : Value → Option (DataW Value × List MemPlace)) E.toArray clock := by
    refine ⟨by simpa [hlen] using hn, hst, fun x hx => ?_⟩
    obtain ⟨i, hi, rfl⟩ := List.getElem_of_mem (by simpa using hx)
    exact ⟨_, hrd i hi (by omega)⟩
  have hrg : E.map (rg Try.prog 9 mR) = P.map (fun p => (kL p.1, (DataW.held p.2 : DataW Value))) := by
    apply List.ext_getElem
    · simp [hlen]
    · intro i h1 h2
      have h1' : i < E.length := by simpa using h1
      have h2' : i < P.length := by simpa using h2
      simp only [List.getElem_map, rg, hrd i h1' h2', Option.getD_some]
  have hnd : (P.map (·.1)).Nodup := by
    have h3 := hst.2.2
    have h4 : E.map (·.key) = (P.map (·.1)).map Value.string := by
      have := congrArg (List.map Prod.fst) hE
      simpa [Function.comp_def] using this
    have h5 : (E.toArray.toList.map (·.key)) = E.map (·.key) := by simp
    rw [h5, h4] at h3
    exact List.Pairwise.of_map Value.string (fun a b h e => h (by rw [e])) h3
  refine ⟨_, ⟨E.toArray, clock, hb, hfit, by simp [hlen], rfl⟩, ?_⟩
  have hto : E.toArray.toList = E := by simp
  have hris := fit_rising kyd hfit
  rw [hto, hrg] at hris ⊢
  refine ⟨fun s hs zd => ?_, ?_, hnd, fun s => ?_, fun s hs => ?_⟩
  · obtain ⟨k1, k2⟩ := Go.WideShapes.atKey_sorted _ hris (kL s) (kL_key hs)
    unfold fdP
    cases e : P.find? (fun q => decide (q.1 = s)) with
    | none =>
      refine k1 (fun p hp h => ?_) zd
      obtain ⟨q, hq, rfl⟩ := List.mem_map.1 hp
      have h1 := List.find?_eq_none.1 e q hq
      exact h1 (by simpa using kL_inj h)
    | some q =>
      have h1 := List.mem_of_find?_eq_some e
      have h2 : q.1 = s := by simpa using List.find?_some e
      exact k2 (kL q.1, DataW.held q.2) (List.mem_map.2 ⟨q, h1, rfl⟩) (by rw [h2]) zd
  · show (List.foldr DataW.insert [] _).length = _
    rw [length_sorted]
    simp
  · unfold fdP
    constructor
    · intro h
      obtain ⟨p, hp, rfl⟩ := List.mem_map.1 h
      cases e : P.find? (fun q => decide (q.1 = p.1)) with
      | none =>
        have := List.find?_eq_none.1 e p hp
        simp at this
      | some q => rfl
    · intro h
      cases e : P.find? (fun q => decide (q.1 = s)) with
      | none => rw [e] at h; cases h
      | some q =>
        have h1 := List.mem_of_find?_eq_some e
        have h2 := List.find?_some e
        exact List.mem_map.2 ⟨q, h1, by simpa using h2⟩
  · obtain ⟨p, hp, rfl⟩ := List.mem_map.1 hs
    exact hsz p hp
end Go.Proofs.Ytdofhlmffponoaa

/-
  Taking away what holds nothing more, in plain Lean: all are taken just where none holds itself.
-/
namespace Go.Proofs.Ytdofhlmffponoaa
section
variable {α : Type}
/-- one leads to another -/
inductive Rch (H : α → List α) : α → α → Prop
  | one {a b : α} : b ∈ H a → Rch H a b
  | step {a b c : α} : b ∈ H a → Rch H b c → Rch H a c
theorem Rch.trans {H : α → List α} {a b c : α} (h : Rch H a b) (k : Rch H b c) : Rch H a c := by
  induction h with
  | one h => exact .step h k
  | step h _ ih => exact .step h (ih k)
theorem nodup_le [DecidableEq α] {l k : List α} (hn : l.Nodup) (hs : ∀ x ∈ l, x ∈ k) : l.length ≤ k.length := by
  induction l generalizing k with
  | nil => exact Nat.zero_le _
  | cons x r ih =>
    rw [List.nodup_cons] at hn
    have hx : x ∈ k := hs x (by simp)
    have h1 : ∀ y ∈ r, y ∈ k.erase x := fun y hy => by
      have hne : y ≠ x := fun e => hn.1 (e ▸ hy)
      exact (List.mem_erase_of_ne hne).2 (hs y (by simp [hy]))
    have h2 := ih hn.2 h1
    rw [List.length_erase_of_mem hx] at h2
    have h3 : 0 < k.length := List.length_pos_of_mem hx
    simp only [List.length_cons]
    omega
/-- a way that is longer than there are places comes to one of them twice -/
theorem way_circle [DecidableEq α] {H : α → List α} {keys : List α} (s : Nat → α) (n : Nat) (hn : keys.length < n) (hk : ∀ i, i < n → s i ∈ keys) (hs : ∀ i, i + 1 < n → s (i + 1) ∈ H (s i)) : ∃ a ∈ keys, Rch H a a := by
  have hr : ∀ j i, i < j → j < n → Rch H (s i) (s j) := by
    intro j
    induction j with
    | zero => intro i h; omega
    | succ j ih =>
      intro i hi hj
      rcases Nat.lt_or_ge i j with h | h
      · exact (ih i h (by omega)).trans (.one (hs j hj))
      · have : i = j := by omega
        subst this
        exact .one (hs i hj)
  apply Classical.byContradiction
  intro hno
  have hd : ((List.range n).map s).Nodup := by
    rw [List.nodup_iff_pairwise_ne, List.pairwise_map, List.pairwise_iff_getElem]
    intro i j hi hj hij e
    have hi' : i < n := by simpa using hi
    have hj' : j < n := by simpa using hj
    simp only [List.getElem_range] at e
    exact hno ⟨s i, hk i hi', by have := hr j i hij hj'; rw [← e] at this; exact this⟩
  have := nodup_le hd (fun x hx => by
    obtain ⟨i, hi, rfl⟩ := List.mem_map.1 hx
    exact hk i (by simpa using hi))
  simp at this
  omega
/-- where each has one behind it, there is a circle -/
theorem all_circle [DecidableEq α] {H : α → List α} {keys R : List α} (hR : ∀ a ∈ R, a ∈ keys) (hs : ∀ a ∈ R, ∃ b ∈ H a, b ∈ R) (h0 : R ≠ []) : ∃ a ∈ keys, Rch H a a := by
  obtain ⟨a0, ha0⟩ := List.exists_mem_of_ne_nil R h0
  let nx : {a // a ∈ R} → {a // a ∈ R} := fun a => ⟨(hs a.1 a.2).choose, (hs a.1 a.2).choose_spec.2⟩
  have hnx : ∀ a, (nx a).1 ∈ H a.1 := fun a => (hs a.1 a.2).choose_spec.1
  let s : Nat → {a // a ∈ R} := fun n => Nat.rec ⟨a0, ha0⟩ (fun _ b => nx b) n
  exact way_circle (fun i => (s i).1) (keys.length + 1) (by omega) (fun i _ => hR _ (s i).2) (fun i _ => hnx (s i))
/-- how many of those that one holds are not yet taken away -/
def lft [DecidableEq α] (T : List α) (l : List α) : Nat := l.countP (fun h => !decide (h ∈ T))
/-- between two steps: T was taken away, l is to be -/
structure Khn [DecidableEq α] (H : α → List α) (keys T l : List α) (wt : α → Int) : Prop where
  nd : (T ++ l).Nodup
  sub : ∀ x ∈ T ++ l, x ∈ keys
  cnt : ∀ s ∈ keys, wt s = (lft T (H s) : Int)
  zero : ∀ s ∈ keys, wt s = 0 ↔ s ∈ T ++ l
  topo : ∀ p x q, T = p ++ x :: q → ∀ h ∈ H x, h ∈ p
theorem lft_zero [DecidableEq α] {T l : List α} : lft T l = 0 ↔ ∀ h ∈ l, h ∈ T := by
  unfold lft
  rw [List.countP_eq_zero]
  exact ⟨fun h x hx => by have := h x hx; simpa using this, fun h x hx => by simp [h x hx]⟩
theorem lft_snoc [DecidableEq α] (T : List α) (x : α) (hx : x ∉ T) (l : List α) : lft (T ++ [x]) l + l.count x = lft T l := by
  unfold lft
  induction l with
  | nil => simp
  | cons y r ih =>
    rw [List.countP_cons, List.countP_cons, List.count_cons]
    by_cases e : y = x
    · subst e
      rw [if_neg (by simp), if_pos (by simp), if_pos (by simpa using hx)]
      omega
    · have e2 : ¬ (y == x) = true := by simpa using e
      by_cases hy : y ∈ T
      · rw [if_neg (by simp [hy]), if_neg e2, if_neg (by simp [hy])]
        omega
      · rw [if_pos (by simp [hy, e]), if_neg e2, if_pos (by simp [hy])]
        omega
/-- one is taken away; the freed come to those that are to be -/
theorem Khn.take [DecidableEq α] {H : α → List α} {keys T l : List α} {x : α} {wt wt' : α → Int} (h : Khn H keys T (x :: l) wt) {fr : List α} (hw : ∀ s ∈ keys, wt' s = wt s - ((H s).count x : Int)) (hf : fr.Nodup) (hm : ∀ s, s ∈ fr ↔ s ∈ keys ∧ x ∈ H s ∧ wt' s = 0) : Khn H keys (T ++ [x]) (fr ++ l) wt' := by
  have hx : x ∉ T := fun hx => by
    have := h.nd
    rw [List.nodup_append] at this
    exact this.2.2 x hx x (by simp) rfl
  have hxk : x ∈ keys := h.sub x (by simp)
  have hwt' : ∀ s ∈ keys, wt' s = (lft (T ++ [x]) (H s) : Int) := fun s hs => by
    rw [hw s hs, h.cnt s hs, ← lft_snoc T x hx (H s)]
    omega
  have hpos : ∀ s ∈ keys, x ∈ H s → s ∉ T ++ x :: l := fun s hs hxs hin => by
    have h0 := (h.zero s hs).2 hin
    rw [h.cnt s hs] at h0
    have : lft T (H s) = 0 := by omega
    exact hx (lft_zero.1 this x hxs)
  have hdis : ∀ s ∈ fr, s ∉ T ++ x :: l := fun s hs => hpos s ((hm s).1 hs).1 ((hm s).1 hs).2.1
  refine ⟨?_, ?_, hwt', ?_, ?_⟩
  · have hnd := h.nd
    have h1 : (T ++ [x] ++ l).Nodup := by simpa using hnd
    rw [List.nodup_append] at h1
    rw [List.nodup_append]
    refine ⟨h1.1, ?_, ?_⟩
    · rw [List.nodup_append]
      refine ⟨hf, h1.2.1, fun a ha b hb e => ?_⟩
      subst e
      exact hdis a ha (by simp [hb])
    · intro a ha b hb e
      subst e
      rcases List.mem_append.1 hb with hb | hb
      · refine hdis a hb ?_
        rcases List.mem_append.1 ha with h2 | h2
        · simp [h2]
        · simp [List.mem_singleton.1 h2]
      · exact h1.2.2 a ha a hb rfl
  · intro s hs
    rcases List.mem_append.1 hs with hs | hs
    · exact h.sub s (by rcases List.mem_append.1 hs with h2 | h2 <;> simp_all)
    · rcases List.mem_append.1 hs with h2 | h2
      · exact ((hm s).1 h2).1
      · exact h.sub s (by simp [h2])
  · intro s hs
    by_cases hxs : x ∈ H s
    · constructor
      · intro h0
        have : s ∈ fr := (hm s).2 ⟨hs, hxs, h0⟩
        simp [this]
      · intro hin
        have hn := hpos s hs hxs
        simp only [List.mem_append, List.mem_cons, not_or] at hn
        simp only [List.mem_append, List.mem_singleton] at hin
        rcases hin with (h2 | h2) | h2 | h2
        · exact absurd h2 hn.1
        · exact absurd h2 hn.2.1
        · exact ((hm s).1 h2).2.2
        · exact absurd h2 hn.2.2
    · have e : wt' s = wt s := by rw [hw s hs, List.count_eq_zero.2 hxs]; simp
      rw [e, h.zero s hs]
      have hnf : s ∉ fr := fun h2 => hxs ((hm s).1 h2).2.1
      simp only [List.mem_append, List.mem_cons, List.not_mem_nil, or_false]
      constructor
      · rintro (h2 | h2 | h2)
        · exact .inl (.inl h2)
        · exact .inl (.inr h2)
        · exact .inr (.inr h2)
      · rintro ((h2 | h2) | h2 | h2)
        · exact .inl h2
        · exact .inr (.inl h2)
        · exact absurd h2 hnf
        · exact .inr (.inr h2)
  · intro p y q e z hz
    have hwx : ∀ z ∈ H x, z ∈ T := by
      have h0 := (h.zero x hxk).2 (by simp)
      rw [h.cnt x hxk] at h0
      exact lft_zero.1 (by omega)
    rcases List.eq_nil_or_concat q with rfl | ⟨q', b, rfl⟩
    · have e2 : p ++ [y] = T ++ [x] := e.symm
      obtain ⟨rfl, e3⟩ := List.append_inj' e2 rfl
      have : y = x := by simpa using e3
      subst this
      exact hwx z hz
    · have e2 : (p ++ y :: q') ++ [b] = T ++ [x] := by rw [e]; simp
      obtain ⟨rfl, _⟩ := List.append_inj' e2 rfl
      exact h.topo p y q' rfl z hz
/-- at the end: all are taken just where there is no circle -/
theorem Khn.done [DecidableEq α] {H : α → List α} {keys T : List α} {wt : α → Int} (h : Khn H keys T [] wt) (hH : ∀ a ∈ keys, ∀ b ∈ H a, b ∈ keys) (hk : keys.Nodup) : T.length < keys.length ↔ ∃ a ∈ keys, Rch H a a := by
  have hz : ∀ s ∈ keys, wt s = 0 ↔ s ∈ T := fun s hs => by have := h.zero s hs; simpa using this
  have hnd : T.Nodup := by have := h.nd; simpa using this
  have hsub : ∀ x ∈ T, x ∈ keys := fun x hx => h.sub x (by simp [hx])
  constructor
  · intro hlt
    refine all_circle (R := keys.filter (fun a => !decide (a ∈ T))) (fun a ha => (List.mem_filter.1 ha).1) (fun a ha => ?_) (fun e => ?_)
    · obtain ⟨h1, h2⟩ := List.mem_filter.1 ha
      have h3 : a ∉ T := by simpa using h2
      have h4 : wt a ≠ 0 := fun h0 => h3 ((hz a h1).1 h0)
      rw [h.cnt a h1] at h4
      have h5 : ¬ ∀ x ∈ H a, x ∈ T := fun h6 => h4 (by rw [lft_zero.2 h6]; rfl)
      obtain ⟨b, h6⟩ := Classical.not_forall.1 h5
      obtain ⟨h7, h8⟩ := Classical.not_imp.1 h6
      exact ⟨b, h7, List.mem_filter.2 ⟨hH a h1 b h7, by simpa using h8⟩⟩
    · have : ∀ a ∈ keys, a ∈ T := fun a ha => by
        have := List.filter_eq_nil_iff.1 e a ha
        simpa using this
      have := nodup_le hk this
      omega
  · rintro ⟨a, ha, hr⟩
    apply Classical.byContradiction
    intro hge
    have hall : ∀ s ∈ keys, s ∈ T := fun s hs => Classical.byContradiction fun hn => by
      have h1 : (s :: T).Nodup := List.nodup_cons.2 ⟨hn, hnd⟩
      have := nodup_le (k := keys) h1 (fun x hx => by
        rcases List.mem_cons.1 hx with rfl | hx
        · exact hs
        · exact hsub x hx)
      simp at this
      omega
    have key : ∀ {a b : α}, Rch H a b → ∀ p q, T = p ++ a :: q → b ∈ p := by
      intro a b hr
      induction hr with
      | one h1 => intro p q e; exact h.topo p _ q e _ h1
      | step h1 _ ih =>
        intro p q e
        have h2 := h.topo p _ q e _ h1
        obtain ⟨p1, p2, rfl⟩ := List.append_of_mem h2
        have := ih p1 (p2 ++ _ :: q) (by rw [e, List.append_assoc]; rfl)
        simp [this]
    obtain ⟨p, q, e⟩ := List.append_of_mem (hall a ha)
    have h1 := key hr p q e
    rw [e, List.nodup_append] at hnd
    exact hnd.2.2 a h1 a (by simp) rfl
end
end Go.Proofs.Ytdofhlmffponoaa

