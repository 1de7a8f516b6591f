/-
  SigRight in the program; a signature that came in, copied.
-/
import Derived.Test.YthmlkbgnooahlaaH0
import Derived.Test.YthmlkbgnooahlaaG3
namespace Go.Proofs.Ythmlkbgnooahlaa.H1
open Go.RowKit
open Go.Proofs.Ythmlkbgnooahlaa.C0
open Go.Proofs.Ythmlkbgnooahlaa.G2 (yes2 no2)
open Go.Proofs.Ythmlkbgnooahlaa.G3

set_option maxRecDepth 100000 in
theorem right_impl (e s : Int) (w : World) :
    Calls Try.prog 12 #[.agg #[.int .i64 e, .int .i64 s]] w fun x w' => x = .returned (.bool (Sg.rightR e s)) ∧ Below w.heap.size w w' := by
  have HB : Hid (∀ o, Below w.heap.size w (w.alloc o)) := fun o => (Below.refl _ _).alloc (Nat.le_refl _) o
  by_cases he : 0 ≤ e ∧ e ≤ 5002
  · by_cases hs : 0 ≤ s ∧ s ≤ 5002
    · rw [rightR_yes he hs]
      go_enter Try.func12, Try.ntmps12
      go_wp2_with fail
      refine (H0.from_impl 0 _ 5002 _).mono ?_
      rintro x w1 ⟨rfl, rfl⟩
      rw [yes2 he]
      go_wp2_with fail
      refine (H0.from_impl 0 _ 5002 _).mono ?_
      rintro x w1 ⟨rfl, rfl⟩
      rw [yes2 hs]
      go_wp2
      go_ret
      exact ⟨rfl, HB.out _⟩
    · rw [rightR_no2 hs]
      go_enter Try.func12, Try.ntmps12
      go_wp2_with fail
      refine (H0.from_impl 0 _ 5002 _).mono ?_
      rintro x w1 ⟨rfl, rfl⟩
      rw [yes2 he]
      go_wp2_with fail
      refine (H0.from_impl 0 _ 5002 _).mono ?_
      rintro x w1 ⟨rfl, rfl⟩
      rw [no2 hs]
      go_wp2
      go_ret
      exact ⟨rfl, HB.out _⟩
  · rw [rightR_no1 he]
    go_enter Try.func12, Try.ntmps12
    go_wp2_with fail
    refine (H0.from_impl 0 _ 5002 _).mono ?_
    rintro x w1 ⟨rfl, rfl⟩
    rw [no2 he]
    go_wp2
    go_ret
    exact ⟨rfl, HB.out _⟩

set_option maxRecDepth 100000 in
theorem to_sig (e s : Int) (w : World) :
    Calls Try.prog 11 #[.agg #[.int .i64 e, .int .i64 s]] w fun x w' => x = .returned (sig e s) ∧ Below w.heap.size w w' := by
  have HB : Hid (∀ o p q, Below w.heap.size w (((w.alloc o).alloc p).alloc q)) := fun o p q => (((Below.refl _ _).alloc (Nat.le_refl _) o).alloc (by simp) p).alloc (by simp; omega) q
  go_enter Try.func11, Try.ntmps11
  go_wp2
  exact bodyPost_ret (v := sig e s) (by simp [results, Try.results11, go_sem, sig]) rfl ⟨rfl, HB.out _ _ _⟩
end Go.Proofs.Ythmlkbgnooahlaa.H1
