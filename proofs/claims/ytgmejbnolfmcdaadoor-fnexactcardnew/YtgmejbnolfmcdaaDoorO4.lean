/-
  A share, and a row of shares, that came in, opened.
-/
import Derived.Test.YtgmejbnolfmcdaaDoorSH
import Derived.Deep.SlicePairs
import Derived.Lib.SmallJoins
import Derived.ProofKit
import Derived.OpenShut
namespace Go.Proofs.YtgmejbnolfmcdaaDoor.O4
open Go.RowKit Go.WideShapes Go.Joins Go.ChangeShapes
open Go.Proofs.YtgmejbnolfmcdaaDoor.SH
theorem spot_none {w : World} {a : Addr} {v : Value} (h : w.cell? (a.add 0) = some v) : ∃ b off, a = ⟨b, off, none⟩ ∧ b < w.heap.size := by
  obtain ⟨b, off, spot⟩ := a
  have hspot : spot = none := by simpa [Addr.add] using World.cell?_spot h
  subst hspot
  refine ⟨b, off, rfl, ?_⟩
  rcases Nat.lt_or_ge b w.heap.size with hh | hh
  · exact hh
  · simp [World.cell?, Addr.add, Array.getElem?_eq_none hh] at h
section
variable {W : World} {H : Type} {enc : TypeId × Value → H}
set_option maxRecDepth 100000 in
theorem share_of {r : Reach} {b0 : Nat} {v : Value} {d : DataW H} {p : List MemPlace} (hv : Value.okWide Tryd.prog W r b0 46 v) (h : DataW.Trod enc Tryd.prog W 0 (fun _ => true) true 46 v d p) :
    ∃ (i : Int) (s : ByteArray), v = .agg #[.int .i64 i, .string s] ∧ (-9223372036854775808 ≤ i ∧ i ≤ 9223372036854775807) ∧ s.size ≤ maxLen := by
  obtain ⟨v0, v1, y0, y1, n, rfl, _, _, h0, h1⟩ := open_agg2 Tryd.underlying46 (by kernel_rfl) (by kernel_rfl) hv h
  obtain ⟨z, e0, _, b0⟩ := DataW.trod_int Tryd.underlying2 h0
  obtain ⟨s, e1, _, hz⟩ := DataW.trod_string Tryd.underlying9 h1
  obtain rfl : v0 = .int .i64 z := by simpa using e0
  obtain rfl : v1 = .string s := by simpa using e1
  have q0 := bounds_i64 b0
  exact ⟨z, s, rfl, by omega, hz⟩
end
end Go.Proofs.YtgmejbnolfmcdaaDoor.O4
