/-
  A Channel, and whether it is right, as the specification says it and as the program does.
-/
import Derived.Test.YteehgicnfageiaaDoorN0
import Derived.Test.YteehgicnfageiaaDoorP0
import Derived.Test.YteehgicnfageiaaDoorHB
namespace Go.Proofs.YteehgicnfageiaaDoor.R0
open Go.RowKit
open Go.Proofs.YteehgicnfageiaaDoor.C0 Go.Proofs.YteehgicnfageiaaDoor.HB

structure Ch where
  key : ByteArray
  sent : Int
  seen : Int
def chV (c : Ch) : Value := .agg #[.string c.key, .int .i64 c.sent, .int .i64 c.seen]
def chB (c : Ch) : Bool := decide (c.key.size = 32) && (decide (0 ≤ c.sent ∧ c.sent ≤ 1000000) && decide (0 ≤ c.seen ∧ c.seen ≤ 1000000))
theorem chB_parts {c : Ch} (h : chB c = true) : c.key.size = 32 ∧ (0 ≤ c.sent ∧ c.sent ≤ 1000000) ∧ (0 ≤ c.seen ∧ c.seen ≤ 1000000) := by
  unfold chB at h
  obtain ⟨a, h⟩ := Bool.and_eq_true_iff.1 h
  obtain ⟨b, d⟩ := Bool.and_eq_true_iff.1 h
  exact ⟨of_decide_eq_true a, of_decide_eq_true b, of_decide_eq_true d⟩
set_option maxRecDepth 100000 in
set_option maxHeartbeats 1600000 in
theorem right_spec (c : Ch) (w : World) (hk : c.key.size ≤ maxLen) :
    Calls Tryd.prog 38 #[chV c] w fun e w' => e = .returned (.bool (chB c)) ∧ Below w.heap.size w w' := by
  obtain ⟨key, sent, seen⟩ := c
  unfold maxLen at hk
  dsimp only at hk
  have HD : Hid (chB ⟨key, sent, seen⟩ = (decide (key.size = 32) && (decide (0 ≤ sent ∧ sent ≤ 1000000) && decide (0 ≤ seen ∧ seen ≤ 1000000)))) := rfl
  have HB : Hid (Below w.heap.size w (w.alloc (.cells #[.string key, .int .i64 sent, .int .i64 seen] 49))) := albel w _
  rw [HD.out]
  unfold chV
  dsimp only
  by_cases h1 : key.size = 32
  · have t1 : ((key.size : Int) == 32) = true := by rw [h1]; rfl
    rw [decide_eq_true h1]
    cases h2 : decide (0 ≤ sent ∧ sent ≤ 1000000) with
    | false =>
      go_enter Tryd.func38, Tryd.ntmps38
      go_wp2_with fail
      refine (N0.time_spec sent _).mono ?_
      rintro e w1 ⟨rfl, rfl⟩
      rw [h2]
      go_wp2
      go_ret
      exact ⟨rfl, HB.out⟩
    | true =>
      go_enter Tryd.func38, Tryd.ntmps38
      go_wp2_with fail
      refine (N0.time_spec sent _).mono ?_
      rintro e w1 ⟨rfl, rfl⟩
      rw [h2]
      go_wp2_with fail
      refine (N0.time_spec seen _).mono ?_
      rintro e w1 ⟨rfl, rfl⟩
      go_wp2
      go_ret
      exact ⟨ret_val (show Value.bool (decide (0 ≤ seen) && decide (seen ≤ 1000000)) = _ by simp), HB.out⟩
  · have t1 : ((key.size : Int) == 32) = false := by simp; omega
    rw [decide_eq_false h1]
    go_enter Tryd.func38, Tryd.ntmps38
    go_wp2
    go_ret
    exact ⟨rfl, HB.out⟩
set_option maxRecDepth 100000 in
set_option maxHeartbeats 1600000 in
theorem right_impl (c : Ch) (w : World) (hk : c.key.size ≤ maxLen) :
    Calls Tryd.prog 37 #[chV c] w fun e w' => e = .returned (.bool (chB c)) ∧ Below w.heap.size w w' := by
  obtain ⟨key, sent, seen⟩ := c
  unfold maxLen at hk
  dsimp only at hk
  have HD : Hid (chB ⟨key, sent, seen⟩ = (decide (key.size = 32) && (decide (0 ≤ sent ∧ sent ≤ 1000000) && decide (0 ≤ seen ∧ seen ≤ 1000000)))) := rfl
  have HB : Hid (Below w.heap.size w (w.alloc (.cells #[.string key, .int .i64 sent, .int .i64 seen] 49))) := albel w _
  rw [HD.out]
  unfold chV
  dsimp only
  by_cases h1 : key.size = 32
  · have t1 : ((key.size : Int) == 32) = true := by rw [h1]; rfl
    rw [decide_eq_true h1]
    cases h2 : decide (0 ≤ sent ∧ sent ≤ 1000000) with
    | false =>
      go_enter Tryd.func37, Tryd.ntmps37
      go_wp2_with fail
      refine (P0.time_impl sent _).mono ?_
      rintro e w1 ⟨rfl, rfl⟩
      rw [h2]
      go_wp2
      go_ret
      exact ⟨rfl, HB.out⟩
    | true =>
      go_enter Tryd.func37, Tryd.ntmps37
      go_wp2_with fail
      refine (P0.time_impl sent _).mono ?_
      rintro e w1 ⟨rfl, rfl⟩
      rw [h2]
      go_wp2_with fail
      refine (P0.time_impl seen _).mono ?_
      rintro e w1 ⟨rfl, rfl⟩
      go_wp2
      go_ret
      exact ⟨ret_val (show Value.bool (decide (0 ≤ seen) && decide (seen ≤ 1000000)) = _ by simp), HB.out⟩
  · have t1 : ((key.size : Int) == 32) = false := by simp; omega
    rw [decide_eq_false h1]
    go_enter Tryd.func37, Tryd.ntmps37
    go_wp2
    go_ret
    exact ⟨rfl, HB.out⟩
end Go.Proofs.YteehgicnfageiaaDoor.R0
