/-
  spans.Indent: the blanks and tabs that a line begins with.
-/
import Derived.Test.YtbgkdofjndocfaaDoorWalkH
import Derived.Shelf.Strings.SlTrimAscii
namespace Go.Proofs.YtbgkdofjndocfaaDoor
open Go.RowKit
def isBl (b : UInt8) : Bool := [32, 9].contains b
theorem trim_any (s : ByteArray) (w : World) :
    Calls Tryd.prog 21 #[.string s, .string ⟨#[32, 9]⟩] w fun e w' => e = .returned (.string ⟨(s.data.toList.dropWhile isBl).toArray⟩) ∧ Below w.heap.size w w' :=
  Any.strings_TrimLeft_laid Tryd.trimLeft (by kernel_rfl) s ⟨#[32, 9]⟩ w (by decide) (ascii_of_all (by decide))
theorem ext_drop (s : ByteArray) (n : Nat) : (s.extract n s.size).data.toList = s.data.toList.drop n := by
  simp [ByteArray.data_extract]
  rw [List.take_of_length_le (by simp)]
theorem bytes_ext {a b : ByteArray} (h : a.data.toList = b.data.toList) : a = b := by
  obtain ⟨⟨a⟩⟩ := a
  obtain ⟨⟨b⟩⟩ := b
  simpa using h
theorem drop_len (l : List UInt8) (p : UInt8 → Bool) : (l.dropWhile p).length + (l.takeWhile p).length = l.length := by
  have := congrArg List.length (List.takeWhile_append_dropWhile (p := p) (l := l))
  simp only [List.length_append] at this
  omega
theorem take_while (p : UInt8 → Bool) : ∀ l : List UInt8, l.take (l.takeWhile p).length = l.takeWhile p
  | [] => rfl
  | a :: l => by
    cases h : p a
    · simp [h]
    · simp [h, take_while p l]
theorem ret_str {a b : ByteArray} (h : a = b) : Ending.returned (.string a) = .returned (.string b) := by rw [h]
set_option maxRecDepth 100000 in
set_option maxHeartbeats 1000000 in
theorem indent_any (s : ByteArray) (at_ : Int) (n : Nat) (w : World) (hs : s.size ≤ 1000000) (hn : (n : Int) = min (max at_ 0) s.size) :
    Calls Tryd.prog 12 #[.string s, .int .i64 at_] w fun e w' => e = .returned (.string ⟨((s.data.toList.drop (bgT s.data.toList n)).takeWhile isBl).toArray⟩) ∧ Below w.heap.size w w' := by
  have h33 := clamped_any s at_ w (by unfold maxLen; omega)
  rw [← hn] at h33
  have h34 := fun w => lineOf_any s n w hs (by omega)
  have hb := bgT_le s.data.toList n
  have hle : n ≤ s.size := by omega
  have hbs : bgT s.data.toList n ≤ s.size := by omega
  generalize nlT s.data.toList n = L at *
  generalize bgT s.data.toList n = B at *
  have hu := ext_drop s B
  have h10 := fun w => trim_any (s.extract B s.size) w
  have hlen := drop_len (s.data.toList.drop B) isBl
  have hus : (s.extract B s.size).size = s.size - B := by simp
  have hdl : (s.data.toList.drop B).length = s.size - B := by simp
  rw [hu] at h10
  have hrs : (⟨((s.data.toList.drop B).dropWhile isBl).toArray⟩ : ByteArray).size = ((s.data.toList.drop B).dropWhile isBl).length := by simp [ByteArray.size]
  have htk := take_while isBl (s.data.toList.drop B)
  have HF : Hid (∀ k : Nat, k = ((s.data.toList.drop B).takeWhile isBl).length → (s.extract B s.size).extract 0 k = ⟨((s.data.toList.drop B).takeWhile isBl).toArray⟩) := fun k hk => by
    refine bytes_ext ?_
    rw [ext_take, hu, hk, htk]
  generalize (⟨((s.data.toList.drop B).dropWhile isBl).toArray⟩ : ByteArray) = r at *
  generalize ((s.data.toList.drop B).dropWhile isBl).length = rd at *
  generalize ((s.data.toList.drop B).takeWhile isBl).length = k at *
  generalize (⟨((s.data.toList.drop B).takeWhile isBl).toArray⟩ : ByteArray) = z at *
  have hr1 : r.size + k ≤ (s.extract B s.size).size := by omega
  have hr2 : (s.extract B s.size).size ≤ r.size + k := by omega
  have hu6 : (s.extract B s.size).size ≤ 1000000 := by omega
  have HX : Hid ((s.extract B s.size).size = s.size - B) := hus
  clear hn hu hus hdl hlen hrs htk
  go_enter Tryd.func12, Tryd.ntmps12
  go_wp2_with (first | (go_at_call 18; refine h33.mono ?_; rintro e w1 ⟨rfl, rfl⟩) | (go_at_call 19; refine (h34 _).mono ?_; rintro e w2 ⟨rfl, hb2⟩))
  generalize s.extract B s.size = u at *
  refine (h10 _).mono ?_
  rintro e w3 ⟨rfl, hb3⟩
  have hfin : Below w1.heap.size w1 w3 := hb2.trans (hb3.mono hb2.size)
  clear h10 h33 h34 hb2 hb3
  have hx := HX.out
  have e1 : s.size - B - r.size = k := by omega
  have HE : Hid (s.size - B - r.size = k) := e1
  have z0 : r.size ≤ s.size - B := by omega
  have z1 : (0 : Int) ≤ ((s.size - B : Nat) : Int) - (r.size : Int) := by omega
  have z2 : ((s.size - B : Nat) : Int) - (r.size : Int) ≤ (u.size : Int) := by omega
  clear hx e1
  go_wp2
  go_ret
  exact ⟨ret_str (HF.out _ HE.out), hfin⟩
end Go.Proofs.YtbgkdofjndocfaaDoor
