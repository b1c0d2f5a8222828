/-
  Matching types, in plain Lean.
-/
import Derived.Test.YtcmnhkopmkaiaaaRid
namespace Go.Proofs.Ytcmnhkopmkaiaaa
open Go.RowKit
/-- may a part not be what a type parameter stands for? -/
def Ty.opn (t : Ty) : Bool := decide (t.kind = 7) || decide (t.kind = 17) || decide (t.kind = 4) || decide (t.kind = 5) || decide (t.kind = 6)
mutual
/-- matching: whether it does, and what is known then -/
def Ty.mt : Ty → Ty → List Ty → Bool × List Ty
  | .mk k nm n f ns ms ks, b, xs =>
    if k = 9 ∧ 0 ≤ n ∧ n.toNat < xs.length then
      (if b.opn = true then (false, xs) else if (xs.getD n.toNat b).kind = 0 then (true, xs.set n.toNat b) else ((xs.getD n.toNat b).idn b, xs))
    else if k = b.kind ∧ nm = b.name ∧ n = b.n ∧ f = b.flag ∧ ns = b.names ∧ ms = b.marks ∧ ks.length = b.kids.length then mtL ks b.kids xs else (false, xs)
def mtL : List Ty → List Ty → List Ty → Bool × List Ty
  | [], _, xs => (true, xs)
  | _ :: _, [], xs => (true, xs)
  | x :: r, y :: s, xs => if (x.mt y xs).1 = true then mtL r s (x.mt y xs).2 else (false, (x.mt y xs).2)
end
theorem mtL_nil (s xs : List Ty) : mtL [] s xs = (true, xs) := by simp [mtL]
theorem mtL_cons (x y : Ty) (r s xs : List Ty) : mtL (x :: r) (y :: s) xs = if (x.mt y xs).1 = true then mtL r s (x.mt y xs).2 else (false, (x.mt y xs).2) := by simp [mtL]
theorem mtL_drop (ks bs xs : List Ty) (i : Nat) (h1 : i < ks.length) (h2 : i < bs.length) : mtL (ks.drop i) (bs.drop i) xs = if ((ks[i]).mt bs[i] xs).1 = true then mtL (ks.drop (i + 1)) (bs.drop (i + 1)) ((ks[i]).mt bs[i] xs).2 else (false, ((ks[i]).mt bs[i] xs).2) := by
  rw [List.drop_eq_getElem_cons h1, List.drop_eq_getElem_cons h2, mtL_cons]
mutual
theorem Ty.mt_len : ∀ (a b : Ty) (xs : List Ty), (a.mt b xs).2.length = xs.length
  | .mk k nm n f ns ms ks, b, xs => by
    unfold Ty.mt
    split
    · split
      · rfl
      · split
        · simp
        · rfl
    · split
      · exact mtL_len ks b.kids xs
      · rfl
theorem mtL_len : ∀ (r s xs : List Ty), (mtL r s xs).2.length = xs.length
  | [], s, xs => by simp [mtL]
  | _ :: _, [], xs => by simp [mtL]
  | x :: r, y :: s, xs => by
    rw [mtL_cons]
    split
    · rw [mtL_len r s, Ty.mt_len x y]
    · exact Ty.mt_len x y xs
end
end Go.Proofs.Ytcmnhkopmkaiaaa

