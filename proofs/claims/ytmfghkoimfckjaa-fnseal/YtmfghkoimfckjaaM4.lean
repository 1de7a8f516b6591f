/-
  Plain facts on the CRC: a text of which one byte is turned has another CRC; a CRC goes on from text to text. No program is named here.
-/
import Derived.Test.YtmfghkoimfckjaaM2
namespace Go.Proofs.Ytmfghkoimfckjaa.Mc
theorem poly_top : Nat.testBit 3988292384 31 = true := by decide
theorem half_top {r : Nat} (h : r < 4294967296) : Nat.testBit (r / 2) 31 = false := Nat.testBit_lt_two_pow (by omega)
theorem bit1_top {r : Nat} (h : r < 4294967296) : Nat.testBit (bit1 r) 31 = decide (r % 2 = 1) := by
  unfold bit1
  split
  · rename_i h1
    rw [Nat.testBit_xor, half_top h, poly_top]; simp [h1]
  · rename_i h1
    rw [half_top h]; simp [h1]
theorem xor_cancel {a b c : Nat} (h : a ^^^ c = b ^^^ c) : a = b := by
  have := congrArg (· ^^^ c) h
  simpa [Nat.xor_assoc] using this
theorem bit1_inj {a b : Nat} (ha : a < 4294967296) (hb : b < 4294967296) (h : bit1 a = bit1 b) : a = b := by
  have ht := bit1_top ha
  rw [h, bit1_top hb] at ht
  have hp : (b % 2 = 1) ↔ (a % 2 = 1) := by simpa using ht
  unfold bit1 at h
  by_cases h1 : a % 2 = 1
  · rw [if_pos h1, if_pos (hp.2 h1)] at h
    have := xor_cancel h
    have := hp.2 h1
    omega
  · rw [if_neg h1, if_neg (fun e => h1 (hp.1 e))] at h
    have : ¬ b % 2 = 1 := fun e => h1 (hp.1 e)
    omega
theorem iter_inj (k : Nat) {a b : Nat} (ha : a < 4294967296) (hb : b < 4294967296) (h : iter k a = iter k b) : a = b := by
  induction k with
  | zero => exact h
  | succ k ih => exact ih (bit1_inj (iter_lt k ha) (iter_lt k hb) h)
theorem crcByte_inj {a b : Nat} (c : UInt8) (ha : a < 4294967296) (hb : b < 4294967296) (h : crcByte a c = crcByte b c) : a = b :=
  xor_cancel (iter_inj 8 (xor_lt ha (byte_lt c)) (xor_lt hb (byte_lt c)) h)
theorem crcByte_ne {r : Nat} {c d : UInt8} (hr : r < 4294967296) (hne : c ≠ d) : crcByte r c ≠ crcByte r d := by
  intro h
  have := iter_inj 8 (xor_lt hr (byte_lt c)) (xor_lt hr (byte_lt d)) h
  rw [Nat.xor_comm r, Nat.xor_comm r] at this
  exact hne (UInt8.toNat_inj.1 (xor_cancel this))
theorem crcReg_inj : ∀ (l : List UInt8) {a b : Nat}, a < 4294967296 → b < 4294967296 → crcReg a l = crcReg b l → a = b
  | [], _, _, _, _, h => h
  | c :: l, _, _, ha, hb, h => crcByte_inj c ha hb (crcReg_inj l (crcByte_lt c ha) (crcByte_lt c hb) h)
theorem crcReg_append (r : Nat) (a b : List UInt8) : crcReg r (a ++ b) = crcReg (crcReg r a) b := by simp [crcReg]
theorem crcReg_set : ∀ (l : List UInt8) (r i : Nat) (c : UInt8) (h : i < l.length), r < 4294967296 → c ≠ l[i] → crcReg r (l.set i c) ≠ crcReg r l
  | x :: l, r, 0, c, _, hr, hne => by
    intro e
    exact crcByte_ne hr hne (crcReg_inj l (crcByte_lt c hr) (crcByte_lt x hr) e)
  | x :: l, r, i + 1, c, h, hr, hne => by
    exact crcReg_set l (crcByte r x) i c (by simpa using h) (crcByte_lt x hr) (by simpa using hne)
theorem crcMore_set (l : List UInt8) (i : Nat) (c : UInt8) (h : i < l.length) (hne : c ≠ l[i]) : crcMore 0 (l.set i c) ≠ crcMore 0 l := by
  intro e
  exact crcReg_set l _ i c h (xor_lt (by omega) (by omega)) hne (xor_cancel e)
theorem crcMore_on (a b : List UInt8) : crcMore (crcMore 0 a) b = crcMore 0 (a ++ b) := by
  unfold crcMore
  rw [crcReg_append]
  congr 2
  rw [Nat.xor_assoc, Nat.xor_self, Nat.xor_zero]
end Go.Proofs.Ytmfghkoimfckjaa.Mc
