/-
  The walk of the exact law on SigRight.
-/
import Derived.Test.YthmlkbgnooahlaaH1
namespace Go.Proofs.Ythmlkbgnooahlaa.YSigRight
open Go.RowKit
open Go.Proofs.Ythmlkbgnooahlaa.C0
open Go.Proofs.Ythmlkbgnooahlaa.G3 (sig kept2 nblk_one)
theorem walk (a b : Int) (w : World) (_ : -9223372036854775808 ≤ a ∧ a ≤ 9223372036854775807) (_ : -9223372036854775808 ≤ b ∧ b ≤ 9223372036854775807) :
    Calls Try.prog 5 #[.agg #[.int .i64 a, .int .i64 b]] w fun e w' => e = .returned (.bool true) ∧ Below w.heap.size w w' := by
  go_enter Try.func5, Try.ntmps5
  go_wp2_with fail
  refine (H1.to_sig a b _).mono ?_
  rintro e w1 ⟨rfl, hb1⟩
  rw [nblk_one] at hb1
  have z1 := hb1.size
  rw [nblk_one] at z1
  unfold sig
  go_wp2_with fail
  refine (G3.right_spec a b _).mono ?_
  rintro e w2 ⟨rfl, hb2⟩
  have hb := hb1.trans (hb2.mono z1)
  have z2 := hb2.size
  obtain ⟨k0, k1, -, -⟩ := kept2 hb
  clear hb1
  go_wp2_with fail
  refine (H1.to_sig a b _).mono ?_
  rintro e w3 ⟨rfl, hb3⟩
  have z3 := hb3.size
  unfold sig
  go_wp2_with fail
  refine (H1.right_impl a b _).mono ?_
  rintro e w4 ⟨rfl, hb4⟩
  have HB : Below w.heap.size w w4 := ((Below.refl _ _).alloc (Nat.le_refl _) _).trans (((hb.trans (hb3.mono (by omega))).trans (hb4.mono (by omega))).mono (Nat.le_succ _))
  clear hb hb2 hb3 hb4 k0 k1
  go_wp2
  go_ret
  exact ⟨rfl, HB⟩
end Go.Proofs.Ythmlkbgnooahlaa.YSigRight
