/-
  What PutText answers, in the specification and in the program: nothing of a text that is too long; else its length as a number, and it.
-/
import Derived.Test.YtkpjdmmgdmbmnabDoorC1
import Derived.Test.YtkpjdmmgdmbmnabDoorC2
namespace Go.Proofs.YtkpjdmmgdmbmnabDoor.C3
open Go.RowKit
open Go.Proofs.YtkpjdmmgdmbmnabDoor.C0

def putText (s : ByteArray) : List UInt8 := if 8000 < s.size then [] else Mb.putNum s.size ++ s.data.toList

theorem join_text (a : List UInt8) (s : ByteArray) : (⟨a.toArray⟩ : ByteArray) ++ s = ⟨(a ++ s.data.toList).toArray⟩ := by
  apply ByteArray.ext
  simp [ByteArray.data_append]
theorem size_mk (l : List UInt8) : (⟨l.toArray⟩ : ByteArray).size = l.length := by simp [ByteArray.size]
theorem putNum_len (n : Int) : (Mb.putNum n).length ≤ 10 := (Mb.leb_len 9 _).2

set_option maxRecDepth 100000 in
theorem put_spec (s : ByteArray) (w : World) (hs : s.size ≤ maxLen) :
    Calls Tryd.prog 35 #[.string s] w fun e w' => e = .returned (.string ⟨(putText s).toArray⟩) ∧ Below w.heap.size w w' := by
  unfold maxLen at hs
  by_cases h : 8000 < s.size
  · have hp : putText s = [] := by simp [putText, h]
    rw [hp]
    go_enter Tryd.func35, Tryd.ntmps35
    go_wp2
    go_ret
    exact ⟨rfl, Below.refl _ _⟩
  · have HP : Hid (putText s = Mb.putNum s.size ++ s.data.toList) := by simp [Hid, putText, h]
    go_enter Tryd.func35, Tryd.ntmps35
    go_wp2_with fail
    refine (C1.put_spec (s.size : Int) _ (by omega) (by omega)).mono ?_
    rintro e w1 ⟨rfl, hb1⟩
    have hl := putNum_len s.size
    have hcc : (⟨(Mb.putNum s.size).toArray⟩ : ByteArray).size + s.size ≤ 9223372036854775807 := by rw [size_mk]; omega
    go_wp2
    go_ret
    exact ⟨by rw [HP.out, ← join_text]; rfl, hb1⟩
set_option maxRecDepth 100000 in
theorem put_impl (s : ByteArray) (w : World) (hs : s.size ≤ maxLen) :
    Calls Tryd.prog 50 #[.string s] w fun e w' => e = .returned (.string ⟨(putText s).toArray⟩) ∧ Below w.heap.size w w' := by
  unfold maxLen at hs
  by_cases h : 8000 < s.size
  · have hp : putText s = [] := by simp [putText, h]
    rw [hp]
    go_enter Tryd.func50, Tryd.ntmps50
    go_wp2
    go_ret
    exact ⟨rfl, Below.refl _ _⟩
  · have HP : Hid (putText s = Mb.putNum s.size ++ s.data.toList) := by simp [Hid, putText, h]
    have hl := putNum_len s.size
    go_enter Tryd.func50, Tryd.ntmps50
    go_wp2_with fail
    refine (C1.put_impl (s.size : Int) _ (by omega) (by omega)).mono ?_
    rintro e w1 ⟨rfl, hb1⟩
    go_wp2_with fail
    refine (C2.joined_any w1.heap.size 0 2 2 [⟨(Mb.putNum s.size).toArray⟩, s] _ rfl (by simp) (by omega) ?_ ?_).mono ?_
    · show (⟨(Mb.putNum s.size).toArray⟩ : ByteArray).size + (s.size + 0) ≤ 1000000
      rw [size_mk]; omega
    · intro j hj
      match j, hj with
      | 0, _ => go_simp
      | 1, _ => go_simp
    rintro e w2 ⟨rfl, hb2⟩
    go_wp2
    go_ret
    refine ⟨?_, ((hb1.alloc hb1.size _).trans (hb2.mono ?_))⟩
    · rw [HP.out]; simp [C2.cat]
    · have := hb1.size; simp; omega
end Go.Proofs.YtkpjdmmgdmbmnabDoor.C3
