/-
  PowMod and PublicOf, in the specification.
-/
import Derived.Test.YthmlkbgnooahlaaDoorG0
namespace Go.Proofs.YthmlkbgnooahlaaDoor.G2
open Go.RowKit
open Go.Proofs.YthmlkbgnooahlaaDoor.C0

theorem yes2 {lo n hi : Int} (h : lo ≤ n ∧ n ≤ hi) : decide (lo ≤ n ∧ n ≤ hi) = true := decide_eq_true h
theorem no2 {lo n hi : Int} (h : ¬ (lo ≤ n ∧ n ≤ hi)) : decide (lo ≤ n ∧ n ≤ hi) = false := decide_eq_false h
theorem powR_no {a n m : Int} (h : ¬ (0 ≤ a ∧ a ≤ 1000000 ∧ 0 ≤ n ∧ n ≤ 1000000000 ∧ 1 ≤ m ∧ m ≤ 1000000)) : Sg.powR a n m = 0 := by unfold Sg.powR; rw [if_neg h]
theorem powR_yes {a n m : Nat} (ha : a ≤ 1000000) (hn : n ≤ 1000000000) (h1 : 1 ≤ m) (hm : m ≤ 1000000) : Sg.powR a n m = Sg.pw a n m := by
  unfold Sg.powR; rw [if_pos ⟨by omega, by omega, by omega, by omega, by omega, by omega⟩]; rfl
theorem hashR_no {t : List UInt8} {m : Int} (h : ¬ (t.length ≤ 8000 ∧ 1 ≤ m ∧ m ≤ 1000000)) : Sg.hashR t m = 0 := by unfold Sg.hashR; rw [if_neg h]
theorem hashR_yes {t : List UInt8} {m : Nat} (ht : t.length ≤ 8000) (h1 : 1 ≤ m) (hm : m ≤ 1000000) : Sg.hashR t m = Sg.hash t m := by
  unfold Sg.hashR; rw [if_pos ⟨ht, by omega, by omega⟩]; rfl
theorem pubR_no {x : Int} (h : ¬ (1 ≤ x ∧ x ≤ 5002)) : Sg.pubR x = 0 := by unfold Sg.pubR; rw [if_neg h]
theorem pubR_yes {x : Nat} (h1 : 1 ≤ x) (h2 : x ≤ 5002) : Sg.pubR x = Sg.pub x := by unfold Sg.pubR; rw [if_pos ⟨by omega, by omega⟩]; rfl

set_option maxRecDepth 100000 in
theorem powmod_spec (a n m : Int) (w : World) :
    Calls Tryd.prog 14 #[.int .i64 a, .int .i64 n, .int .i64 m] w fun e w' => e = .returned (.int .i64 (Sg.powR a n m : Nat)) ∧ w = w' := by
  by_cases ha : 0 ≤ a ∧ a ≤ 1000000
  · by_cases hn : 0 ≤ n ∧ n ≤ 1000000000
    · by_cases hm : 1 ≤ m ∧ m ≤ 1000000
      · obtain ⟨a', rfl⟩ := Int.eq_ofNat_of_zero_le ha.1
        obtain ⟨n', rfl⟩ := Int.eq_ofNat_of_zero_le hn.1
        obtain ⟨m', rfl⟩ := Int.eq_ofNat_of_zero_le (show 0 ≤ m by omega)
        rw [powR_yes (by omega) (by omega) (by omega) (by omega)]
        go_enter Tryd.func14, Tryd.ntmps14
        go_wp2_with fail
        refine (G0.is_spec _ 0 1000000 _).mono ?_
        rintro e w1 ⟨rfl, rfl⟩
        rw [yes2 ha]
        go_wp2_with fail
        refine (G0.is_spec _ 0 1000000000 _).mono ?_
        rintro e w1 ⟨rfl, rfl⟩
        rw [yes2 hn]
        go_wp2_with fail
        refine (G0.is_spec _ 1 1000000 _).mono ?_
        rintro e w1 ⟨rfl, rfl⟩
        rw [yes2 hm]
        go_wp2_with fail
        refine (G0.pow_spec a' n' m' _ (by omega) (by omega) (by omega) (by omega)).mono ?_
        rintro e w1 ⟨rfl, rfl⟩
        go_wp2
        go_ret
        exact ⟨rfl, rfl⟩
      · rw [powR_no (by omega)]
        go_enter Tryd.func14, Tryd.ntmps14
        go_wp2_with fail
        refine (G0.is_spec _ 0 1000000 _).mono ?_
        rintro e w1 ⟨rfl, rfl⟩
        rw [yes2 ha]
        go_wp2_with fail
        refine (G0.is_spec _ 0 1000000000 _).mono ?_
        rintro e w1 ⟨rfl, rfl⟩
        rw [yes2 hn]
        go_wp2_with fail
        refine (G0.is_spec _ 1 1000000 _).mono ?_
        rintro e w1 ⟨rfl, rfl⟩
        rw [no2 hm]
        go_wp2
        go_ret
        exact ⟨rfl, rfl⟩
    · rw [powR_no (by omega)]
      go_enter Tryd.func14, Tryd.ntmps14
      go_wp2_with fail
      refine (G0.is_spec _ 0 1000000 _).mono ?_
      rintro e w1 ⟨rfl, rfl⟩
      rw [yes2 ha]
      go_wp2_with fail
      refine (G0.is_spec _ 0 1000000000 _).mono ?_
      rintro e w1 ⟨rfl, rfl⟩
      rw [no2 hn]
      go_wp2
      go_ret
      exact ⟨rfl, rfl⟩
  · rw [powR_no (by omega)]
    go_enter Tryd.func14, Tryd.ntmps14
    go_wp2_with fail
    refine (G0.is_spec _ 0 1000000 _).mono ?_
    rintro e w1 ⟨rfl, rfl⟩
    rw [no2 ha]
    go_wp2
    go_ret
    exact ⟨rfl, rfl⟩

theorem secret_spec (x : Int) (w : World) :
    Calls Tryd.prog 42 #[.int .i64 x] w fun e w' => e = .returned (.bool (decide (1 ≤ x ∧ x ≤ 5002))) ∧ w = w' := by
  go_enter Tryd.func42, Tryd.ntmps42
  go_wp2_with fail
  refine (G0.is_spec _ 1 5002 _).mono ?_
  rintro e w1 ⟨rfl, rfl⟩
  go_wp2
  go_ret
  rw [Bool.decide_and]
  exact ⟨rfl, rfl⟩

theorem public_spec (x : Int) (w : World) :
    Calls Tryd.prog 21 #[.int .i64 x] w fun e w' => e = .returned (.int .i64 (Sg.pubR x : Nat)) ∧ w = w' := by
  by_cases hx : 1 ≤ x ∧ x ≤ 5002
  · obtain ⟨x', rfl⟩ := Int.eq_ofNat_of_zero_le (show 0 ≤ x by omega)
    rw [pubR_yes (by omega) (by omega)]
    go_enter Tryd.func21, Tryd.ntmps21
    go_wp2_with fail
    refine (secret_spec _ _).mono ?_
    rintro e w1 ⟨rfl, rfl⟩
    rw [yes2 hx]
    go_wp2_with fail
    refine (G0.pow_spec 4 x' 10007 _ (by omega) (by omega) (by omega) (by omega)).mono ?_
    rintro e w1 ⟨rfl, rfl⟩
    go_wp2
    go_ret
    exact ⟨rfl, rfl⟩
  · rw [pubR_no hx]
    go_enter Tryd.func21, Tryd.ntmps21
    go_wp2_with fail
    refine (secret_spec _ _).mono ?_
    rintro e w1 ⟨rfl, rfl⟩
    rw [no2 hx]
    go_wp2
    go_ret
    exact ⟨rfl, rfl⟩
end Go.Proofs.YthmlkbgnooahlaaDoor.G2
