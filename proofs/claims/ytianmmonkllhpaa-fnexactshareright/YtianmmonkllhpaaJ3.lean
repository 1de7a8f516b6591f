/-
  Products and what makes 1 of whatever numbers; can shares be joined; what is joined: in the specification.
-/
import Derived.Test.YtianmmonkllhpaaJ1
import Derived.Test.YtianmmonkllhpaaL0
import Derived.Test.YtianmmonkllhpaaSI
namespace Go.Proofs.Ytianmmonkllhpaa.J3
open Go.RowKit
open Go.Proofs.Ytianmmonkllhpaa.C0 Go.Proofs.Ytianmmonkllhpaa.HB
open Go.Proofs.Ytianmmonkllhpaa.J1 (shareR yes2 no2)
open Go.Proofs.Ytianmmonkllhpaa.L0 (mulR mulR_yes mulR_no invR invR_yes invR_no)

theorem element_spec (n : Int) (w : World) :
    Calls Try.prog 20 #[.int .i64 n] w fun e w' => e = .returned (.bool (decide (0 ≤ n ∧ n ≤ 255))) ∧ w = w' := by
  go_enter Try.func20, Try.ntmps20
  go_wp2_with fail
  refine (G0.is_spec n 0 255 _).mono ?_
  rintro e w1 ⟨rfl, rfl⟩
  go_wp2
  go_ret
  rw [Bool.decide_and]
  exact ⟨rfl, rfl⟩
set_option maxRecDepth 100000 in
theorem mul_spec (a b : Int) (w : World) :
    Calls Try.prog 7 #[.int .i64 a, .int .i64 b] w fun e w' => e = .returned (.int .i64 (mulR a b : Nat)) ∧ w = w' := by
  by_cases ha : 0 ≤ a ∧ a ≤ 255
  · by_cases hb : 0 ≤ b ∧ b ≤ 255
    · obtain ⟨a', rfl⟩ := Int.eq_ofNat_of_zero_le ha.1
      obtain ⟨b', rfl⟩ := Int.eq_ofNat_of_zero_le hb.1
      rw [mulR_yes (by omega) (by omega)]
      go_enter Try.func7, Try.ntmps7
      go_wp2_with fail
      refine (element_spec _ _).mono ?_
      rintro e w1 ⟨rfl, rfl⟩
      rw [yes2 ha]
      go_wp2_with fail
      refine (element_spec _ _).mono ?_
      rintro e w1 ⟨rfl, rfl⟩
      rw [yes2 hb]
      go_wp2_with fail
      refine (J0.mul_spec a' b' _ (by omega) (by omega)).mono ?_
      rintro e w1 ⟨rfl, rfl⟩
      go_wp2
      go_ret
      exact ⟨rfl, rfl⟩
    · rw [mulR_no (by omega)]
      go_enter Try.func7, Try.ntmps7
      go_wp2_with fail
      refine (element_spec _ _).mono ?_
      rintro e w1 ⟨rfl, rfl⟩
      rw [yes2 ha]
      go_wp2_with fail
      refine (element_spec _ _).mono ?_
      rintro e w1 ⟨rfl, rfl⟩
      rw [no2 hb]
      go_wp2
      go_ret
      exact ⟨rfl, rfl⟩
  · rw [mulR_no (by omega)]
    go_enter Try.func7, Try.ntmps7
    go_wp2_with fail
    refine (element_spec _ _).mono ?_
    rintro e w1 ⟨rfl, rfl⟩
    rw [no2 ha]
    go_wp2
    go_ret
    exact ⟨rfl, rfl⟩

set_option maxRecDepth 100000 in
theorem inv_spec (a : Int) (w : World) :
    Calls Try.prog 9 #[.int .i64 a] w fun e w' => e = .returned (.int .i64 (invR a : Nat)) ∧ w = w' := by
  by_cases ha : 1 ≤ a ∧ a ≤ 255
  · obtain ⟨a', rfl⟩ := Int.eq_ofNat_of_zero_le (show 0 ≤ a by omega)
    rw [invR_yes (by omega) (by omega)]
    go_enter Try.func9, Try.ntmps9
    go_wp2_with fail
    refine (G0.is_spec _ 1 255 _).mono ?_
    rintro e w1 ⟨rfl, rfl⟩
    rw [yes2 ha]
    go_wp2_with fail
    refine (J0.inv_spec a' _ (by omega)).mono ?_
    rintro e w1 ⟨rfl, rfl⟩
    go_wp2
    go_ret
    exact ⟨rfl, rfl⟩
  · rw [invR_no ha]
    go_enter Try.func9, Try.ntmps9
    go_wp2_with fail
    refine (G0.is_spec _ 1 255 _).mono ?_
    rintro e w1 ⟨rfl, rfl⟩
    rw [no2 ha]
    go_wp2
    go_ret
    exact ⟨rfl, rfl⟩
end Go.Proofs.Ytianmmonkllhpaa.J3
