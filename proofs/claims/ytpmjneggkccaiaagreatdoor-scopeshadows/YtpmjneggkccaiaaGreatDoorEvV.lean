/- Values as the evaluator holds them, and what they stand for in memory. -/
import Derived.Test.YtpmjneggkccaiaaGreatDoorEvT
import Derived.Laws.Sem
set_option linter.unusedVariables false
set_option linter.unusedSimpArgs false
namespace Go.Proofs.YtpmjneggkccaiaaGreatDoor
namespace Ev
/-- Where a block of the evaluator's lies: the block, from which cell on, and how many elements a slice that was appended to may have. -/
structure Loc where
  blk : Nat
  base : Nat
  cap : Nat
inductive AV where
  | bool (b : Bool)
  | int (k : IntKind) (n : Int)
  | str (l : List Nat)
  | ptr0
  | ptr (b : Bn) (off : Nat)
  | sl0
  | slk (b : Bn) (off len cap : Nat)
  | slu (b : Bn) (off len less : Nat)
  | sle
  | map0
  | map (b : Bn)
  | func (fn : Fn) (first cap : List AV)
  | yield (b : Bn)
  | nilF
  | iface (t : TypeId) (v : AV)
  | nilI
  | agg (l : List AV)
  | tup (l : List AV)
  | any
def bl (s : ByteArray) : List Nat := s.data.toList.map (·.toNat)
abbrev Mu := Bn → Option Loc
mutual
inductive RV (μ : Mu) : AV → Value → Prop
  | bool {b : Bool} : RV μ (.bool b) (.bool b)
  | int {k : IntKind} {n : Int} : RV μ (.int k n) (.int k n)
  | str {s : ByteArray} {l : List Nat} : bl s = l → RV μ (.str l) (.string s)
  | ptr0 : RV μ .ptr0 (.pointer none)
  | ptr {b : Bn} {off : Nat} {l : Loc} : μ b = some l → RV μ (.ptr b off) (.pointer (some ⟨l.blk, l.base + off, none⟩))
  | sl0 : RV μ .sl0 (.slice none 0 0)
  | slk {b : Bn} {off len cap : Nat} {l : Loc} : μ b = some l → len ≤ cap → RV μ (.slk b off len cap) (.slice (some ⟨l.blk, l.base + off, none⟩) len cap)
  | slu {b : Bn} {off len less : Nat} {l : Loc} : μ b = some l → len + less ≤ l.cap → RV μ (.slu b off len less) (.slice (some ⟨l.blk, l.base + off, none⟩) len (l.cap - less))
  | sle {a : Addr} {c : Nat} : RV μ .sle (.slice (some a) 0 c)
  | map0 : RV μ .map0 (.map none)
  | map {b : Bn} {l : Loc} : μ b = some l → RV μ (.map b) (.map (some l.blk))
  | func {fn : Fn} {first cap : List AV} {xs ys : List Value} : (∀ n, fn ≠ .yield n) → RVs μ first xs → RVs μ cap ys → RV μ (.func fn first cap) (.func fn ⟨xs⟩ ⟨ys⟩)
  | yield {b : Bn} {l : Loc} : μ b = some l → RV μ (.yield b) (.func (.yield l.blk) #[] #[])
  | nilF : RV μ .nilF .nilFunc
  | iface {t : TypeId} {v : AV} {x : Value} : RV μ v x → RV μ (.iface t v) (.iface t x)
  | nilI : RV μ .nilI .nilIface
  | agg {l : List AV} {xs : List Value} : RVs μ l xs → RV μ (.agg l) (.agg ⟨xs⟩)
  | tup {l : List AV} {xs : List Value} : RVs μ l xs → RV μ (.tup l) (.tuple ⟨xs⟩)
  | any {x : Value} : x.oneCell' = true → RV μ .any x
inductive RVs (μ : Mu) : List AV → List Value → Prop
  | nil : RVs μ [] []
  | cons {v : AV} {x : Value} {vs : List AV} {xs : List Value} : RV μ v x → RVs μ vs xs → RVs μ (v :: vs) (x :: xs)
end
/-- One naming goes on as the other. -/
def Mu.le (μ ν : Mu) : Prop := ∀ b l, μ b = some l → ν b = some l
theorem Mu.le.refl (μ : Mu) : Mu.le μ μ := fun _ _ h => h
theorem Mu.le.trans {μ ν ξ : Mu} (h : Mu.le μ ν) (h' : Mu.le ν ξ) : Mu.le μ ξ := fun b l e => h' b l (h b l e)
mutual
theorem RV.mono {μ ν : Mu} (h : Mu.le μ ν) : ∀ {v : AV} {x : Value}, RV μ v x → RV ν v x
  | _, _, .bool => .bool
  | _, _, .int => .int
  | _, _, .str e => .str e
  | _, _, .ptr0 => .ptr0
  | _, _, .ptr e => .ptr (h _ _ e)
  | _, _, .sl0 => .sl0
  | _, _, .slk e c => .slk (h _ _ e) c
  | _, _, .slu e c => .slu (h _ _ e) c
  | _, _, .sle => .sle
  | _, _, .map0 => .map0
  | _, _, .map e => .map (h _ _ e)
  | _, _, .func e a b => .func e (a.mono h) (b.mono h)
  | _, _, .yield e => .yield (h _ _ e)
  | _, _, .nilF => .nilF
  | _, _, .iface a => .iface (a.mono h)
  | _, _, .nilI => .nilI
  | _, _, .agg a => .agg (a.mono h)
  | _, _, .tup a => .tup (a.mono h)
  | _, _, .any a => .any a
theorem RVs.mono {μ ν : Mu} (h : Mu.le μ ν) : ∀ {v : List AV} {x : List Value}, RVs μ v x → RVs ν v x
  | _, _, .nil => .nil
  | _, _, .cons a b => .cons (a.mono h) (b.mono h)
end
theorem RVs.length {μ : Mu} : ∀ {l : List AV} {xs : List Value}, RVs μ l xs → xs.length = l.length
  | _, _, .nil => rfl
  | _, _, .cons _ b => by simp [b.length]
theorem RVs.get {μ : Mu} : ∀ {l : List AV} {xs : List Value}, RVs μ l xs → ∀ {i : Nat} {v : AV}, l[i]? = some v → ∃ x, xs[i]? = some x ∧ RV μ v x
  | _, _, .nil, _, _, h => by simp at h
  | _, _, .cons a _, 0, _, h => by simp at h; subst h; exact ⟨_, by simp, a⟩
  | _, _, .cons _ b, i + 1, _, h => by
    simp at h
    obtain ⟨x, hx, hr⟩ := b.get h
    exact ⟨x, by simpa using hx, hr⟩
theorem RVs.append {μ : Mu} : ∀ {l l' : List AV} {xs xs' : List Value}, RVs μ l xs → RVs μ l' xs' → RVs μ (l ++ l') (xs ++ xs')
  | _, _, _, _, .nil, h => h
  | _, _, _, _, .cons a b, h => .cons a (b.append h)
theorem RVs.take {μ : Mu} : ∀ {l : List AV} {xs : List Value}, RVs μ l xs → ∀ n, RVs μ (l.take n) (xs.take n)
  | _, _, _, 0 => by simp; exact .nil
  | _, _, .nil, _ + 1 => by simp; exact .nil
  | _, _, .cons a b, n + 1 => .cons a (b.take n)
theorem RVs.drop {μ : Mu} : ∀ {l : List AV} {xs : List Value}, RVs μ l xs → ∀ n, RVs μ (l.drop n) (xs.drop n)
  | _, _, h, 0 => by simpa using h
  | _, _, .nil, _ + 1 => by simp; exact .nil
  | _, _, .cons _ b, n + 1 => by simpa using b.drop n
theorem bl_inj {s t : ByteArray} (h : bl s = bl t) : s = t := by
  cases s with | _ a => cases t with | _ b =>
  cases a with | _ a => cases b with | _ b =>
  simp only [bl] at h
  have : a = b := by
    induction a generalizing b with
    | nil => cases b with
      | nil => rfl
      | cons y b => simp at h
    | cons x a ih => cases b with
      | nil => simp at h
      | cons y b =>
        simp only [List.map_cons, List.cons.injEq] at h
        rw [UInt8.toNat_inj.1 h.1, ih b h.2]
  rw [this]
theorem bl_length (s : ByteArray) : (bl s).length = s.size := by
  simp only [bl, List.length_map]; exact Array.length_toList
theorem bl_append (s t : ByteArray) : bl (s ++ t) = bl s ++ bl t := by
  simp only [bl, ByteArray.data_append, Array.toList_append, List.map_append]
end Ev
end Go.Proofs.YtpmjneggkccaiaaGreatDoor
