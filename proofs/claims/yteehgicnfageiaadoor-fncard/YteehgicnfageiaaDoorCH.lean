/-
  What GetNum answers, in the specification and in the program.
-/
import Derived.Test.YteehgicnfageiaaDoorCN
namespace Go.Proofs.YteehgicnfageiaaDoor.CH
open Go.RowKit
open Go.Proofs.YteehgicnfageiaaDoor.C0

def numOut (n at_ code : Int) : Value := .agg #[.int .i64 n, .int .i64 at_, .int .i64 code]
def outV (R : Nat × Nat × Nat) : Value := if R.2.2 = 0 then numOut (Mg.unfoldI R.1) R.2.1 0 else numOut 0 0 R.2.2
/-- What GetNum answers. -/
def numOf (s : ByteArray) (a : Int) : Value := if 8000 < s.size then numOut 0 0 2 else if a < 0 then numOut 0 0 1 else outV (Mg.getFrom s a.toNat 10 0 0)
theorem numOf_big {s : ByteArray} {a : Int} (h : 8000 < s.size) : numOf s a = numOut 0 0 2 := by simp [numOf, h]
theorem numOf_neg {s : ByteArray} {a : Int} (h : ¬ 8000 < s.size) (ha : a < 0) : numOf s a = numOut 0 0 1 := by simp [numOf, h, ha]
theorem numOf_nat {s : ByteArray} {a : Nat} (h : ¬ 8000 < s.size) : numOf s (a : Int) = outV (Mg.getFrom s a 10 0 0) := by
  unfold numOf; rw [if_neg h, if_neg (by omega), Int.toNat_natCast]

end Go.Proofs.YteehgicnfageiaaDoor.CH
