/-
  Digest, in the program.
-/
import Derived.Test.YtkpjdmmgdmbmnabDoorK5
namespace Go.Proofs.YtkpjdmmgdmbmnabDoor.KD
open Go.RowKit
open Go.Proofs.YtkpjdmmgdmbmnabDoor.C0
open Go.Proofs.YtkpjdmmgdmbmnabDoor.K2 (Laid)
open Go.Proofs.YtkpjdmmgdmbmnabDoor.K3 (bytesOf)

/-- What Digest answers. -/
def digestB (s : ByteArray) : List UInt8 := if 8000 < s.size then [] else Ms.digest (bytesOf s)

set_option maxRecDepth 100000 in
theorem digest_impl (s : ByteArray) (w : World) (hs : s.size ≤ maxLen) (hL : Laid w) :
    Calls Tryd.prog 38 #[.string s] w fun e w' => e = .returned (.string ⟨(digestB s).toArray⟩) ∧ Below w.heap.size w w' := by
  unfold maxLen at hs
  by_cases h : 8000 < s.size
  · rw [show digestB s = [] by simp [digestB, h]]
    go_enter Tryd.func38, Tryd.ntmps38
    go_wp2
    go_ret
    exact ⟨rfl, Below.refl _ _⟩
  · rw [show digestB s = Ms.digest (bytesOf s) by simp [digestB, h]]
    go_enter Tryd.func38, Tryd.ntmps38
    go_wp2_with fail
    refine (K5.digest_impl s _ (by omega) hL).mono ?_
    rintro e w1 ⟨rfl, hb1⟩
    go_wp2
    go_ret
    exact ⟨rfl, hb1⟩

end Go.Proofs.YtkpjdmmgdmbmnabDoor.KD
