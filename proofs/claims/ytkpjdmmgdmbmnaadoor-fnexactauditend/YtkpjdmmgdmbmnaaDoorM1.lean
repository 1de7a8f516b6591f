/-
  Plain facts on numbers and lists of bytes: how a number is written in bytes of seven bits. No program is named here.
-/

namespace Go.Proofs.YtkpjdmmgdmbmnaaDoor.Mb
def foldU (n : Int) : Nat := if n < 0 then 2 * (-(n + 1)).toNat + 1 else 2 * n.toNat
def leb : Nat → Nat → List UInt8
  | 0, v => [UInt8.ofNat v]
  | f + 1, v => if v < 128 then [UInt8.ofNat v] else UInt8.ofNat (v % 128 + 128) :: leb f (v / 128)
def putNum (n : Int) : List UInt8 := leb 9 (foldU n)
theorem foldU_lt (n : Int) (h1 : -9223372036854775808 ≤ n) (h2 : n ≤ 9223372036854775807) : foldU n < 2 * 128 ^ 9 := by
  unfold foldU; split <;> omega
theorem foldU_neg (n : Int) (h : n < 0) : ((foldU n : Nat) : Int) = 2 * -(n + 1) + 1 := by unfold foldU; rw [if_pos h]; omega
theorem foldU_pos (n : Int) (h : ¬ n < 0) : ((foldU n : Nat) : Int) = 2 * n := by unfold foldU; rw [if_neg h]; omega
theorem pow_step (f v : Nat) (h : v < 2 * 128 ^ (f + 1)) : v / 128 < 2 * 128 ^ f := by
  rw [Nat.pow_succ] at h; omega
theorem pow_zero_lt (v : Nat) (h : v < 2 * 128 ^ 0) : v < 128 := by omega
theorem leb_small (f v : Nat) (h : v < 128) : leb f v = [UInt8.ofNat v] := by
  cases f <;> simp [leb, h]
theorem leb_great (f v : Nat) (h : 128 ≤ v) : leb (f + 1) v = UInt8.ofNat (v % 128 + 128) :: leb f (v / 128) := by
  simp [leb, Nat.not_lt.2 h]
theorem leb_len (f v : Nat) : 1 ≤ (leb f v).length ∧ (leb f v).length ≤ f + 1 := by
  induction f generalizing v with
  | zero => simp [leb]
  | succ f ih => unfold leb; split <;> simp; have := ih (v / 128); omega
theorem bound_lt (f v : Nat) (hf : f ≤ 9) (h : v < 2 * 128 ^ f) : v < 18446744073709551616 := by
  have : 128 ^ f ≤ 128 ^ 9 := Nat.pow_le_pow_right (by omega) hf
  omega
/-- The bytes as the program's memory holds them. -/
def cells (l : List UInt8) : List Int := l.map fun c => (c.toNat : Int)
end Go.Proofs.YtkpjdmmgdmbmnaaDoor.Mb
