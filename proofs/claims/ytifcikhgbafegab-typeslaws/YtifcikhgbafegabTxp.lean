/-
  A type's text in plain Lean.
-/
import Derived.Test.YtifcikhgbafegabJnt
import Derived.Test.YtifcikhgbafegabShp
namespace Go.Proofs.Ytifcikhgbafegab
/-- the last parameter of any number of -/
def dots (ks : List Int) (p : List Bs) : List Bs :=
  match p.reverse with
  | [] => []
  | x :: r => r.reverse ++ [if ks[r.length]? = some 11 then [46, 46, 46] ++ ([46, 46, 46] ++ x).drop 5 else [46, 46, 46] ++ x]
/-- a function's text without func -/
def sgB (n : Nat) (f : Bool) (ks : List Int) (ts : List Bs) : Bs :=
  [40] ++ joinF [44, 32] true (if f then dots ks (ts.take n) else ts.take n) ++ [41] ++
    (match ts.drop n with
    | [] => []
    | [x] => [32] ++ x
    | r => [32, 40] ++ joinF [44, 32] true r ++ [41])
/-- the fields of a struct -/
def fldS : List Bs → List Bool → List Bs → List Bs
  | nm :: ns, m :: ms, t :: ts => (if m then t else nm ++ [32] ++ t) :: fldS ns ms ts
  | nm :: ns, [], t :: ts => (nm ++ [32] ++ t) :: fldS ns [] ts
  | _, _, _ => []
/-- the methods of an interface -/
def fldI : List Bs → List Bs → List Bs
  | nm :: ns, s :: ss => (nm ++ s) :: fldI ns ss
  | _, _ => []
/-- a type's text, from those of its parts -/
def txK (k : Int) (nm : Bs) (n : Int) (f : Bool) (ns : List Bs) (ms : List Bool) (ks : List Int) (ts sg : List Bs) : Bs :=
  if k = 1 then [105, 110, 116] else if k = 2 then [115, 116, 114, 105, 110, 103] else if k = 3 then [98, 111, 111, 108]
  else if k = 4 then [99, 111, 110, 115, 116, 97, 110, 116, 32, 105, 110, 116] else if k = 5 then [99, 111, 110, 115, 116, 97, 110, 116, 32, 115, 116, 114, 105, 110, 103] else if k = 6 then [99, 111, 110, 115, 116, 97, 110, 116, 32, 98, 111, 111, 108]
  else if k = 7 then [110, 105, 108] else if k = 8 then nm else if k = 9 then nm
  else if k = 10 then [42] ++ joinF [] true (ts.take 1) else if k = 11 then [91, 93] ++ joinF [] true (ts.take 1) else if k = 12 then [99, 104, 97, 110, 32] ++ joinF [] true (ts.take 1)
  else if k = 13 then [102, 117, 110, 99] ++ sgB n.toNat f ks ts
  else if k = 14 then rowB [115, 116, 114, 117, 99, 116] (fldS ns ms ts)
  else if k = 15 then (if fldI ns sg = [] then [97, 110, 121] else rowB [105, 110, 116, 101, 114, 102, 97, 99, 101] (fldI ns sg))
  else if k = 16 then (if n = 1 then [99, 111, 109, 112, 97, 114, 97, 98, 108, 101] else joinF [32, 124, 32] true ts)
  else if k = 17 then [40] ++ joinF [44, 32] true ts ++ [41] else []
mutual
def Ty.txt : Ty → Bs
  | .mk k nm n f ns ms ks => txK k (LB nm) n f (ns.map LB) ms (kdL ks) (txtL ks) (sgL ks)
def txtL : List Ty → List Bs
  | [] => []
  | x :: r => x.txt :: txtL r
def Ty.sgt : Ty → Bs
  | .mk _ _ n f _ _ ks => sgB n.toNat f (kdL ks) (txtL ks)
def sgL : List Ty → List Bs
  | [] => []
  | x :: r => x.sgt :: sgL r
def kdL : List Ty → List Int
  | [] => []
  | x :: r => x.kind :: kdL r
end
theorem txtL_len (l : List Ty) : (txtL l).length = l.length := by induction l with | nil => rfl | cons x r ih => simp [txtL, ih]
theorem sgL_len (l : List Ty) : (sgL l).length = l.length := by induction l with | nil => rfl | cons x r ih => simp [sgL, ih]
theorem txtL_get (l : List Ty) (i : Nat) (h : i < l.length) (h' : i < (txtL l).length) : (txtL l)[i] = (l[i]).txt := by
  induction l generalizing i with
  | nil => cases h
  | cons x r ih => cases i with
    | zero => rfl
    | succ i => simpa [txtL] using ih i (by simpa using h) (by simpa [txtL] using h')
theorem sgL_get (l : List Ty) (i : Nat) (h : i < l.length) (h' : i < (sgL l).length) : (sgL l)[i] = (l[i]).sgt := by
  induction l generalizing i with
  | nil => cases h
  | cons x r ih => cases i with
    | zero => rfl
    | succ i => simpa [sgL] using ih i (by simpa using h) (by simpa [sgL] using h')
theorem kdL_get (l : List Ty) (i : Nat) : (kdL l)[i]? = (l[i]?).map Ty.kind := by
  induction l generalizing i with
  | nil => simp [kdL]
  | cons x r ih => cases i with
    | zero => simp [kdL]
    | succ i => simpa [kdL] using ih i
/-- how many bytes texts have -/
def sumB : List Bs → Nat
  | [] => 0
  | x :: r => x.length + sumB r
theorem sumB_append (a b : List Bs) : sumB (a ++ b) = sumB a + sumB b := by induction a with | nil => simp [sumB] | cons x r ih => simp [sumB, ih]; omega
theorem sumB_reverse (a : List Bs) : sumB a.reverse = sumB a := by induction a with | nil => rfl | cons x r ih => simp [sumB, sumB_append, ih]; omega
theorem joinF_len (sep : Bs) (l : List Bs) (f : Bool) : (joinF sep f l).length ≤ sumB l + sep.length * l.length := by
  induction l generalizing f with
  | nil => simp [joinF, sumB]
  | cons x r ih =>
    have := ih false
    simp only [joinF, sumB, List.length_append, List.length_cons, Nat.mul_add, Nat.mul_one]
    split <;> simp <;> omega
theorem sumB_split (l : List Bs) (n : Nat) : sumB (l.take n) + sumB (l.drop n) = sumB l := by rw [← sumB_append, List.take_append_drop]
theorem dots_len (ks : List Int) (p : List Bs) : (dots ks p).length = p.length ∧ sumB (dots ks p) ≤ sumB p + 6 := by
  unfold dots
  split
  · rename_i h
    have : p = [] := by simpa using h
    subst this; simp [sumB]
  · rename_i x r h
    have hp : p = r.reverse ++ [x] := by rw [← List.reverse_reverse p, h]; simp
    subst hp
    simp only [List.length_append, List.length_reverse, List.length_singleton, sumB_append, sumB, sumB_reverse]
    refine ⟨trivial, ?_⟩
    split <;> simp <;> omega
theorem sgB_len (n : Nat) (f : Bool) (ks : List Int) (ts : List Bs) : (sgB n f ks ts).length ≤ sumB ts + 2 * ts.length + 12 := by
  unfold sgB
  have h1 := sumB_split ts n
  have h0 : (ts.take n).length + (ts.drop n).length = ts.length := by rw [← List.length_append, List.take_append_drop]
  have h2 : (joinF [44, 32] true (if f then dots ks (ts.take n) else ts.take n)).length ≤ sumB (ts.take n) + 6 + 2 * (ts.take n).length := by
    refine Nat.le_trans (joinF_len _ _ _) ?_
    have := dots_len ks (ts.take n)
    split
    · rw [this.1]; simp only [List.length_cons, List.length_nil]; omega
    · simp only [List.length_cons, List.length_nil]; omega
  generalize (joinF [44, 32] true (if f then dots ks (ts.take n) else ts.take n)) = J at *
  generalize ts.take n = P at *
  generalize ts.drop n = Q at *
  match Q with
  | [] => simp [sumB] at *; omega
  | [x] => simp [sumB] at *; omega
  | x :: y :: r =>
    have := joinF_len [44, 32] (x :: y :: r) true
    simp at *; omega
theorem rowB_len (word : Bs) (l : List Bs) : (rowB word l).length ≤ word.length + sumB l + 2 * l.length + 6 := by
  unfold rowB
  have := joinF_len [59, 32] l true
  split <;> simp at * <;> omega
theorem fldS_len : ∀ (ns : List Bs) (ms : List Bool) (ts : List Bs), (fldS ns ms ts).length ≤ ts.length ∧ sumB (fldS ns ms ts) ≤ sumB ns + sumB ts + ts.length
  | nm :: ns, m :: ms, t :: ts => by
    have := fldS_len ns ms ts
    simp only [fldS, sumB, List.length_cons]
    refine ⟨by omega, ?_⟩
    split
    · omega
    · simp only [List.length_append, List.length_cons, List.length_nil]; omega
  | nm :: ns, [], t :: ts => by
    have := fldS_len ns [] ts
    simp only [fldS, sumB, List.length_cons]
    exact ⟨by omega, by simp; omega⟩
  | [], _, _ => by simp [fldS, sumB]
  | _ :: _, _ :: _, [] => by simp [fldS, sumB]
  | _ :: _, [], [] => by simp [fldS, sumB]
theorem fldI_len : ∀ (ns ss : List Bs), (fldI ns ss).length ≤ ss.length ∧ sumB (fldI ns ss) ≤ sumB ns + sumB ss
  | nm :: ns, s :: ss => by
    have := fldI_len ns ss
    simp only [fldI, sumB, List.length_cons]
    exact ⟨by omega, by simp; omega⟩
  | [], _ => by simp [fldI, sumB]
  | _ :: _, [] => by simp [fldI, sumB]
mutual
/-- a bound of all texts within a type -/
def Ty.wt : Ty → Nat
  | .mk _ nm _ _ ns _ ks => nm.size + sumB (ns.map LB) + wtL ks + 60
def wtL : List Ty → Nat
  | [] => 0
  | x :: r => x.wt + 10 + wtL r
end
theorem wtL_sum (ks : List Ty) (h : ∀ x ∈ ks, x.txt.length ≤ x.wt ∧ x.sgt.length ≤ x.wt) : sumB (txtL ks) + 10 * ks.length ≤ wtL ks ∧ sumB (sgL ks) + 10 * ks.length ≤ wtL ks := by
  induction ks with
  | nil => simp [txtL, sgL, sumB, wtL]
  | cons x r ih =>
    have h1 := h x (by simp)
    have h2 := ih (fun y hy => h y (by simp [hy]))
    simp only [txtL, sgL, sumB, wtL, List.length_cons]; omega
theorem sumB_take (l : List Bs) (n : Nat) : sumB (l.take n) ≤ sumB l := by have := sumB_split l n; omega
theorem ite_le {c : Prop} [Decidable c] {a b : Bs} {m : Nat} (h1 : a.length ≤ m) (h2 : b.length ≤ m) : (if c then a else b).length ≤ m := by split <;> assumption
theorem txt_len : ∀ t : Ty, t.txt.length ≤ t.wt ∧ t.sgt.length ≤ t.wt :=
  Ty.ind fun k nm n f ns ms ks ih => by
    obtain ⟨h1, h2⟩ := wtL_sum ks ih
    have h3 := txtL_len ks
    have h4 := sgL_len ks
    have hs := sgB_len n.toNat f (kdL ks) (txtL ks)
    refine ⟨?_, by simp only [Ty.sgt, Ty.wt]; omega⟩
    have hr1 := rowB_len [115, 116, 114, 117, 99, 116] (fldS (ns.map LB) ms (txtL ks))
    have hf1 := fldS_len (ns.map LB) ms (txtL ks)
    have hr2 := rowB_len [105, 110, 116, 101, 114, 102, 97, 99, 101] (fldI (ns.map LB) (sgL ks))
    have hf2 := fldI_len (ns.map LB) (sgL ks)
    have hj0 := joinF_len [] ((txtL ks).take 1) true
    have hj1 := joinF_len [32, 124, 32] (txtL ks) true
    have hj2 := joinF_len [44, 32] (txtL ks) true
    have ht := sumB_take (txtL ks) 1
    have hn := LB_len nm
    simp only [Ty.txt, Ty.wt, txK]
    simp only [List.length_cons, List.length_nil] at *
    refine ite_le ?_ (ite_le ?_ (ite_le ?_ (ite_le ?_ (ite_le ?_ (ite_le ?_ (ite_le ?_ (ite_le ?_ (ite_le ?_ (ite_le ?_ (ite_le ?_ (ite_le ?_ (ite_le ?_ (ite_le ?_ (ite_le (ite_le ?_ ?_) (ite_le (ite_le ?_ ?_) (ite_le ?_ ?_))))))))))))))))
    all_goals first | omega | (simp only [List.length_append, List.length_cons, List.length_nil]; omega)
end Go.Proofs.Ytifcikhgbafegab

