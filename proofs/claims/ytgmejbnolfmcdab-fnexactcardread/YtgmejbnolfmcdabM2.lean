/-
  Plain facts on the CRC: the register as a number below 2^32. No program is named here.
-/

namespace Go.Proofs.Ytgmejbnolfmcdab.Mc
def bit1 (r : Nat) : Nat := if r % 2 = 1 then (r / 2) ^^^ 3988292384 else r / 2
def iter : Nat → Nat → Nat
  | 0, r => r
  | k + 1, r => bit1 (iter k r)
def crcByte (r : Nat) (c : UInt8) : Nat := iter 8 (r ^^^ c.toNat)
def crcReg (r : Nat) (l : List UInt8) : Nat := l.foldl crcByte r
def crcMore (crc : Nat) (l : List UInt8) : Nat := crcReg (crc ^^^ 4294967295) l ^^^ 4294967295

theorem xor_lt {a b : Nat} (ha : a < 4294967296) (hb : b < 4294967296) : a ^^^ b < 4294967296 := Nat.xor_lt_two_pow (n := 32) ha hb
theorem bit1_lt {r : Nat} (h : r < 4294967296) : bit1 r < 4294967296 := by
  unfold bit1; split
  · exact xor_lt (by omega) (by omega)
  · omega
theorem iter_lt (k : Nat) {r : Nat} (h : r < 4294967296) : iter k r < 4294967296 := by
  induction k with
  | zero => exact h
  | succ k ih => exact bit1_lt ih
theorem byte_lt (c : UInt8) : c.toNat < 4294967296 := by have := c.toNat_lt; omega
theorem crcByte_lt {r : Nat} (c : UInt8) (h : r < 4294967296) : crcByte r c < 4294967296 := iter_lt 8 (xor_lt h (byte_lt c))
theorem crcReg_lt : ∀ (l : List UInt8) {r : Nat}, r < 4294967296 → crcReg r l < 4294967296
  | [], _, h => h
  | c :: l, _, h => crcReg_lt l (crcByte_lt c h)
theorem crcMore_lt (crc : Nat) (l : List UInt8) (h : crc < 4294967296) : crcMore crc l < 4294967296 := xor_lt (crcReg_lt l (xor_lt h (by omega))) (by omega)
theorem crcReg_snoc (r : Nat) (l : List UInt8) (c : UInt8) : crcReg r (l ++ [c]) = crcByte (crcReg r l) c := by simp [crcReg]
theorem not_xor (r : Nat) (h : r < 4294967296) : r ^^^ 4294967295 = 4294967295 - r := by
  have e : (BitVec.ofNat 32 r ^^^ BitVec.allOnes 32).toNat = (~~~ (BitVec.ofNat 32 r)).toNat := by rw [BitVec.xor_allOnes]
  rw [BitVec.toNat_xor, BitVec.toNat_not, BitVec.toNat_ofNat, BitVec.toNat_allOnes] at e
  rw [Nat.mod_eq_of_lt (by omega)] at e
  omega
theorem bit1_odd {r : Nat} (h : r % 2 = 1) : bit1 r = (r / 2) ^^^ 3988292384 := by simp [bit1, h]
theorem bit1_even {r : Nat} (h : ¬ r % 2 = 1) : bit1 r = r / 2 := by simp [bit1, h]
end Go.Proofs.Ytgmejbnolfmcdab.Mc
