/-
  Is a share right: in the specification.
-/
import Derived.Test.YteehgicnfageiaaDoorG0
import Derived.Test.YteehgicnfageiaaDoorHB
namespace Go.Proofs.YteehgicnfageiaaDoor.J1
open Go.RowKit
open Go.Proofs.YteehgicnfageiaaDoor.C0 Go.Proofs.YteehgicnfageiaaDoor.HB

/-- Is it a right share? -/
def shareR (i : Int) (d : ByteArray) : Bool := decide (1 ≤ i ∧ i ≤ 6 ∧ 1 ≤ d.size ∧ d.size ≤ 16)
theorem yes2 {lo n hi : Int} (h : lo ≤ n ∧ n ≤ hi) : decide (lo ≤ n ∧ n ≤ hi) = true := decide_eq_true h
theorem no2 {lo n hi : Int} (h : ¬ (lo ≤ n ∧ n ≤ hi)) : decide (lo ≤ n ∧ n ≤ hi) = false := decide_eq_false h
set_option maxRecDepth 100000 in
theorem right_spec (i : Int) (d : ByteArray) (w : World) (hd : d.size ≤ maxLen) :
    Calls Tryd.prog 65 #[.agg #[.int .i64 i, .string d]] w fun e w' => e = .returned (.bool (shareR i d)) ∧ Below w.heap.size w w' := by
  unfold maxLen at hd
  have HB : Hid (Below w.heap.size w (w.alloc (.cells #[.int .i64 i, .string d] 24))) := albel w _
  by_cases hi : 1 ≤ i ∧ i ≤ 6
  · by_cases h1 : 1 ≤ d.size
    · by_cases h2 : d.size ≤ 16
      · rw [show shareR i d = true from decide_eq_true ⟨hi.1, hi.2, h1, h2⟩]
        have t1 : decide ((1 : Int) ≤ (d.size : Int)) = true := decide_eq_true (by omega)
        have t2 : decide ((d.size : Int) ≤ 16) = true := decide_eq_true (by omega)
        go_enter Tryd.func65, Tryd.ntmps65
        go_wp2_with fail
        refine (G0.is_spec _ 1 6 _).mono ?_
        rintro x w1 ⟨rfl, rfl⟩
        rw [yes2 hi]
        go_wp2
        go_ret
        exact ⟨rfl, HB.out⟩
      · rw [show shareR i d = false from decide_eq_false (fun h => h2 h.2.2.2)]
        have t1 : decide ((1 : Int) ≤ (d.size : Int)) = true := decide_eq_true (by omega)
        have t2 : decide ((d.size : Int) ≤ 16) = false := decide_eq_false (by omega)
        go_enter Tryd.func65, Tryd.ntmps65
        go_wp2_with fail
        refine (G0.is_spec _ 1 6 _).mono ?_
        rintro x w1 ⟨rfl, rfl⟩
        rw [yes2 hi]
        go_wp2
        go_ret
        exact ⟨rfl, HB.out⟩
    · rw [show shareR i d = false from decide_eq_false (fun h => h1 h.2.2.1)]
      have t1 : decide ((1 : Int) ≤ (d.size : Int)) = false := decide_eq_false (by omega)
      go_enter Tryd.func65, Tryd.ntmps65
      go_wp2_with fail
      refine (G0.is_spec _ 1 6 _).mono ?_
      rintro x w1 ⟨rfl, rfl⟩
      rw [yes2 hi]
      go_wp2
      go_ret
      exact ⟨rfl, HB.out⟩
  · rw [show shareR i d = false from decide_eq_false (fun h => hi ⟨h.1, h.2.1⟩)]
    go_enter Tryd.func65, Tryd.ntmps65
    go_wp2_with fail
    refine (G0.is_spec _ 1 6 _).mono ?_
    rintro x w1 ⟨rfl, rfl⟩
    rw [no2 hi]
    go_wp2
    go_ret
    exact ⟨rfl, HB.out⟩
end Go.Proofs.YteehgicnfageiaaDoor.J1
