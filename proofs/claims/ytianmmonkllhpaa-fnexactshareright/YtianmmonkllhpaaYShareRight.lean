/-
  The walk of the exact law on ShareRight.
-/
import Derived.Test.YtianmmonkllhpaaJ3
namespace Go.Proofs.Ytianmmonkllhpaa.YShareRight
open Go.RowKit
open Go.Proofs.Ytianmmonkllhpaa.C0 Go.Proofs.Ytianmmonkllhpaa.HB Go.Proofs.Ytianmmonkllhpaa.SH Go.Proofs.Ytianmmonkllhpaa.SI
theorem walk (i : Int) (s : ByteArray) (w : World) (_ : -9223372036854775808 ≤ i ∧ i ≤ 9223372036854775807) (hs : s.size ≤ maxLen) :
    Calls Try.prog 5 #[.agg #[.int .i64 i, .string s]] w fun e w' => e = .returned (.bool true) ∧ Below w.heap.size w w' := by
  have k0 := heap_alloc_new w (.cells #[.int .i64 i, .string s] 27)
  have B0 := albel w (.cells #[.int .i64 i, .string s] 27)
  go_enter Try.func5, Try.ntmps5
  go_wp2_with fail
  refine (szShare_any i s 1048576 _ hs (by omega) (by omega)).mono ?_
  rintro e w1 ⟨r, rfl, hr, hb1⟩
  have b1 := bel2 B0 hb1
  have k1 := carry k0 hb1
  obtain ⟨c0, c1, cf, cz⟩ := blk2 k1
  clear B0 k0 hb1
  by_cases h0 : r < 0
  · go_wp2
    go_ret
    exact ⟨rfl, b1⟩
  · go_wp2_with fail
    refine (toShare_any i s _).mono ?_
    rintro e w2 ⟨rfl, hb2⟩
    have b2 := bel2 b1 hb2
    have k2 := carry k1 hb2
    obtain ⟨d0, d1, df, dz⟩ := blk2 k2
    go_wp2_with fail
    refine (J1.right_spec i s _ hs).mono ?_
    rintro e w3 ⟨rfl, hb3⟩
    have b3 := bel2 b2 hb3
    have k3 := carry k2 hb3
    obtain ⟨e0, e1, ef, ez⟩ := blk2 k3
    go_wp2_with fail
    refine (toShare_any i s _).mono ?_
    rintro e w4 ⟨rfl, hb4⟩
    have b4 := bel2 b3 hb4
    go_wp2_with fail
    refine (L0.right_impl i s _ hs).mono ?_
    rintro e w5 ⟨rfl, hb5⟩
    have HB : Hid (Below w.heap.size w w5) := bel2 b4 hb5
    clear b1 b2 b3 b4 hb2 hb3 hb4 hb5 k1 k2 k3 c0 c1 d0 d1 e0 e1
    go_wp2
    go_ret
    exact ⟨rfl, HB.out⟩
end Go.Proofs.Ytianmmonkllhpaa.YShareRight
