/-
  SigRight in the program; a signature that came in, copied.
-/
import Derived.Test.YthmlkbgnooahlaaDoorH0
import Derived.Test.YthmlkbgnooahlaaDoorG3
namespace Go.Proofs.YthmlkbgnooahlaaDoor.H1
open Go.RowKit
open Go.Proofs.YthmlkbgnooahlaaDoor.C0
open Go.Proofs.YthmlkbgnooahlaaDoor.G2 (yes2 no2)
open Go.Proofs.YthmlkbgnooahlaaDoor.G3

set_option maxRecDepth 100000 in
theorem right_impl (e s : Int) (w : World) :
    Calls Tryd.prog 22 #[.agg #[.int .i64 e, .int .i64 s]] w fun x w' => x = .returned (.bool (Sg.rightR e s)) ∧ Below w.heap.size w w' := by
  have HB : Hid (∀ o, Below w.heap.size w (w.alloc o)) := fun o => (Below.refl _ _).alloc (Nat.le_refl _) o
  by_cases he : 0 ≤ e ∧ e ≤ 5002
  · by_cases hs : 0 ≤ s ∧ s ≤ 5002
    · rw [rightR_yes he hs]
      go_enter Tryd.func22, Tryd.ntmps22
      go_wp2_with fail
      refine (H0.from_impl 0 _ 5002 _).mono ?_
      rintro x w1 ⟨rfl, rfl⟩
      rw [yes2 he]
      go_wp2_with fail
      refine (H0.from_impl 0 _ 5002 _).mono ?_
      rintro x w1 ⟨rfl, rfl⟩
      rw [yes2 hs]
      go_wp2
      go_ret
      exact ⟨rfl, HB.out _⟩
    · rw [rightR_no2 hs]
      go_enter Tryd.func22, Tryd.ntmps22
      go_wp2_with fail
      refine (H0.from_impl 0 _ 5002 _).mono ?_
      rintro x w1 ⟨rfl, rfl⟩
      rw [yes2 he]
      go_wp2_with fail
      refine (H0.from_impl 0 _ 5002 _).mono ?_
      rintro x w1 ⟨rfl, rfl⟩
      rw [no2 hs]
      go_wp2
      go_ret
      exact ⟨rfl, HB.out _⟩
  · rw [rightR_no1 he]
    go_enter Tryd.func22, Tryd.ntmps22
    go_wp2_with fail
    refine (H0.from_impl 0 _ 5002 _).mono ?_
    rintro x w1 ⟨rfl, rfl⟩
    rw [no2 he]
    go_wp2
    go_ret
    exact ⟨rfl, HB.out _⟩

end Go.Proofs.YthmlkbgnooahlaaDoor.H1
