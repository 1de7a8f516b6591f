/-
  HashTo, in the specification.
-/
import Derived.Test.YthmlkbgnooahlaaDoorG1
import Derived.Test.YthmlkbgnooahlaaDoorG2
namespace Go.Proofs.YthmlkbgnooahlaaDoor.GH
open Go.RowKit
open Go.Proofs.YthmlkbgnooahlaaDoor.C0
open Go.Proofs.YthmlkbgnooahlaaDoor.K3 (bytesOf)
open Go.Proofs.YthmlkbgnooahlaaDoor.G1 (of_length)
open Go.Proofs.YthmlkbgnooahlaaDoor.G2

set_option maxRecDepth 100000 in
theorem hashto_spec (t : ByteArray) (m : Int) (w : World) (ht : t.size ≤ maxLen) :
    Calls Tryd.prog 16 #[.string t, .int .i64 m] w fun e w' => e = .returned (.int .i64 (Sg.hashR (bytesOf t) m : Nat)) ∧ Below w.heap.size w w' := by
  unfold maxLen at ht
  by_cases hs : 8000 < t.size
  · rw [hashR_no (by rw [of_length]; omega)]
    have d1 : decide ((8000 : Int) < (t.size : Int)) = true := by simp; omega
    go_enter Tryd.func16, Tryd.ntmps16
    go_wp2
    go_ret
    exact ⟨rfl, Below.refl _ _⟩
  have d1 : decide ((8000 : Int) < (t.size : Int)) = false := by simp; omega
  by_cases hm : 1 ≤ m ∧ m ≤ 1000000
  · obtain ⟨m', rfl⟩ := Int.eq_ofNat_of_zero_le (show 0 ≤ m by omega)
    rw [hashR_yes (by rw [of_length]; omega) (by omega) (by omega)]
    go_enter Tryd.func16, Tryd.ntmps16
    go_wp2_with fail
    refine (G0.is_spec _ 1 1000000 _).mono ?_
    rintro e w1 ⟨rfl, rfl⟩
    rw [yes2 hm]
    go_wp2_with fail
    refine (G1.hash_spec t m' _ (by omega) (by omega) (by omega)).mono ?_
    rintro e w1 ⟨rfl, hb1⟩
    go_wp2
    go_ret
    exact ⟨rfl, hb1⟩
  · rw [hashR_no (by omega)]
    go_enter Tryd.func16, Tryd.ntmps16
    go_wp2_with fail
    refine (G0.is_spec _ 1 1000000 _).mono ?_
    rintro e w1 ⟨rfl, rfl⟩
    rw [no2 hm]
    go_wp2
    go_ret
    exact ⟨rfl, Below.refl _ _⟩

end Go.Proofs.YthmlkbgnooahlaaDoor.GH
