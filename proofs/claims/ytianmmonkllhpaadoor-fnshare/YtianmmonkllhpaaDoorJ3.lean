/-
  Products and what makes 1 of whatever numbers; can shares be joined; what is joined: in the specification.
-/
import Derived.Test.YtianmmonkllhpaaDoorJ1
import Derived.Test.YtianmmonkllhpaaDoorL0
import Derived.Test.YtianmmonkllhpaaDoorSI
namespace Go.Proofs.YtianmmonkllhpaaDoor.J3
open Go.RowKit
open Go.Proofs.YtianmmonkllhpaaDoor.C0 Go.Proofs.YtianmmonkllhpaaDoor.HB
open Go.Proofs.YtianmmonkllhpaaDoor.J1 (shareR yes2 no2)
open Go.Proofs.YtianmmonkllhpaaDoor.L0 (mulR mulR_yes mulR_no invR invR_yes invR_no)

theorem element_spec (n : Int) (w : World) :
    Calls Tryd.prog 48 #[.int .i64 n] w fun e w' => e = .returned (.bool (decide (0 ≤ n ∧ n ≤ 255))) ∧ w = w' := by
  go_enter Tryd.func48, Tryd.ntmps48
  go_wp2_with fail
  refine (G0.is_spec n 0 255 _).mono ?_
  rintro e w1 ⟨rfl, rfl⟩
  go_wp2
  go_ret
  rw [Bool.decide_and]
  exact ⟨rfl, rfl⟩
set_option maxRecDepth 100000 in
theorem mul_spec (a b : Int) (w : World) :
    Calls Tryd.prog 16 #[.int .i64 a, .int .i64 b] w fun e w' => e = .returned (.int .i64 (mulR a b : Nat)) ∧ w = w' := by
  by_cases ha : 0 ≤ a ∧ a ≤ 255
  · by_cases hb : 0 ≤ b ∧ b ≤ 255
    · obtain ⟨a', rfl⟩ := Int.eq_ofNat_of_zero_le ha.1
      obtain ⟨b', rfl⟩ := Int.eq_ofNat_of_zero_le hb.1
      rw [mulR_yes (by omega) (by omega)]
      go_enter Tryd.func16, Tryd.ntmps16
      go_wp2_with fail
      refine (element_spec _ _).mono ?_
      rintro e w1 ⟨rfl, rfl⟩
      rw [yes2 ha]
      go_wp2_with fail
      refine (element_spec _ _).mono ?_
      rintro e w1 ⟨rfl, rfl⟩
      rw [yes2 hb]
      go_wp2_with fail
      refine (J0.mul_spec a' b' _ (by omega) (by omega)).mono ?_
      rintro e w1 ⟨rfl, rfl⟩
      go_wp2
      go_ret
      exact ⟨rfl, rfl⟩
    · rw [mulR_no (by omega)]
      go_enter Tryd.func16, Tryd.ntmps16
      go_wp2_with fail
      refine (element_spec _ _).mono ?_
      rintro e w1 ⟨rfl, rfl⟩
      rw [yes2 ha]
      go_wp2_with fail
      refine (element_spec _ _).mono ?_
      rintro e w1 ⟨rfl, rfl⟩
      rw [no2 hb]
      go_wp2
      go_ret
      exact ⟨rfl, rfl⟩
  · rw [mulR_no (by omega)]
    go_enter Tryd.func16, Tryd.ntmps16
    go_wp2_with fail
    refine (element_spec _ _).mono ?_
    rintro e w1 ⟨rfl, rfl⟩
    rw [no2 ha]
    go_wp2
    go_ret
    exact ⟨rfl, rfl⟩

set_option maxRecDepth 100000 in
theorem inv_spec (a : Int) (w : World) :
    Calls Tryd.prog 18 #[.int .i64 a] w fun e w' => e = .returned (.int .i64 (invR a : Nat)) ∧ w = w' := by
  by_cases ha : 1 ≤ a ∧ a ≤ 255
  · obtain ⟨a', rfl⟩ := Int.eq_ofNat_of_zero_le (show 0 ≤ a by omega)
    rw [invR_yes (by omega) (by omega)]
    go_enter Tryd.func18, Tryd.ntmps18
    go_wp2_with fail
    refine (G0.is_spec _ 1 255 _).mono ?_
    rintro e w1 ⟨rfl, rfl⟩
    rw [yes2 ha]
    go_wp2_with fail
    refine (J0.inv_spec a' _ (by omega)).mono ?_
    rintro e w1 ⟨rfl, rfl⟩
    go_wp2
    go_ret
    exact ⟨rfl, rfl⟩
  · rw [invR_no ha]
    go_enter Tryd.func18, Tryd.ntmps18
    go_wp2_with fail
    refine (G0.is_spec _ 1 255 _).mono ?_
    rintro e w1 ⟨rfl, rfl⟩
    rw [no2 ha]
    go_wp2
    go_ret
    exact ⟨rfl, rfl⟩
end Go.Proofs.YtianmmonkllhpaaDoor.J3
