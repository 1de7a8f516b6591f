/-
  The walk of the exact law on PinRight.
-/
import Derived.Test.YtgmejbnolfmcdaaP0
import Derived.Test.YtgmejbnolfmcdaaBK
namespace Go.Proofs.Ytgmejbnolfmcdaa.YPinRight
open Go.RowKit
open Go.Proofs.Ytgmejbnolfmcdaa.C0 Go.Proofs.Ytgmejbnolfmcdaa.HB
open Go.Proofs.Ytgmejbnolfmcdaa.N0 (Cd cdV cardB pinB)
set_option maxRecDepth 100000 in
set_option maxHeartbeats 3200000 in
theorem walk (a : ByteArray) (w : World) (z_a : a.size ≤ maxLen) :
    Calls Try.prog 3 #[.string a] w fun e w' => e = .returned (.bool true) ∧ Below w.heap.size w w' := by
  have m_a := z_a
  unfold maxLen at m_a
  by_cases g_a : 1048576 < a.size
  · go_enter Try.func3, Try.ntmps3
    go_wp2
    go_ret
    exact ⟨rfl, Below.refl _ _⟩
  go_enter Try.func3, Try.ntmps3
  go_wp2_with fail
  have HS : Hid (∀ W, Calls Try.prog 5 #[.string a] W fun e w' => e = .returned (.bool (pinB a)) ∧ Below W.heap.size W w') := fun W => N0.pin_spec a W z_a
  have HI : Hid (∀ W, Calls Try.prog 6 #[.string a] W fun e w' => e = .returned (.bool (pinB a)) ∧ Below W.heap.size W w') := fun W => P0.pin_impl a W z_a
  generalize pinB a = o at *
  refine (HS.out _).mono ?_
  rintro e w2 ⟨rfl, hb⟩
  have B2 : Hid (Below w.heap.size w w2) := hb
  clear hb
  go_wp2_with fail
  refine (HI.out _).mono ?_
  rintro e w3 ⟨rfl, hb⟩
  have B3 : Hid (Below w.heap.size w w3) := bel2 B2.out hb
  clear hb
  go_wp2
  go_ret
  exact ⟨rfl, B3.out⟩
end Go.Proofs.Ytgmejbnolfmcdaa.YPinRight
