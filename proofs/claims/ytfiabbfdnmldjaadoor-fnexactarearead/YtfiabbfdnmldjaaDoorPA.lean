/-
  M1 M2 M3 M4 M5 MC M8 M9 MA MB MD: parts of the proof, one behind the other.
-/

/-
  Plain facts on numbers and lists of bytes: how a number is written in bytes of seven bits. No program is named here.
-/
namespace Go.Proofs.YtfiabbfdnmldjaaDoor.Mb
def foldU (n : Int) : Nat := if n < 0 then 2 * (-(n + 1)).toNat + 1 else 2 * n.toNat
def leb : Nat → Nat → List UInt8
  | 0, v => [UInt8.ofNat v]
  | f + 1, v => if v < 128 then [UInt8.ofNat v] else UInt8.ofNat (v % 128 + 128) :: leb f (v / 128)
def putNum (n : Int) : List UInt8 := leb 9 (foldU n)
theorem foldU_lt (n : Int) (h1 : -9223372036854775808 ≤ n) (h2 : n ≤ 9223372036854775807) : foldU n < 2 * 128 ^ 9 := by
  unfold foldU; split <;> omega
theorem foldU_neg (n : Int) (h : n < 0) : ((foldU n : Nat) : Int) = 2 * -(n + 1) + 1 := by unfold foldU; rw [if_pos h]; omega
theorem foldU_pos (n : Int) (h : ¬ n < 0) : ((foldU n : Nat) : Int) = 2 * n := by unfold foldU; rw [if_neg h]; omega
theorem pow_step (f v : Nat) (h : v < 2 * 128 ^ (f + 1)) : v / 128 < 2 * 128 ^ f := by
  rw [Nat.pow_succ] at h; omega
theorem pow_zero_lt (v : Nat) (h : v < 2 * 128 ^ 0) : v < 128 := by omega
theorem leb_small (f v : Nat) (h : v < 128) : leb f v = [UInt8.ofNat v] := by
  cases f <;> simp [leb, h]
theorem leb_great (f v : Nat) (h : 128 ≤ v) : leb (f + 1) v = UInt8.ofNat (v % 128 + 128) :: leb f (v / 128) := by
  simp [leb, Nat.not_lt.2 h]
theorem leb_len (f v : Nat) : 1 ≤ (leb f v).length ∧ (leb f v).length ≤ f + 1 := by
  induction f generalizing v with
  | zero => simp [leb]
  | succ f ih => unfold leb; split <;> simp; have := ih (v / 128); omega
theorem bound_lt (f v : Nat) (hf : f ≤ 9) (h : v < 2 * 128 ^ f) : v < 18446744073709551616 := by
  have : 128 ^ f ≤ 128 ^ 9 := Nat.pow_le_pow_right (by omega) hf
  omega
/-- The bytes as the program's memory holds them. -/
def cells (l : List UInt8) : List Int := l.map fun c => (c.toNat : Int)
end Go.Proofs.YtfiabbfdnmldjaaDoor.Mb

/-
  Plain facts on the CRC: the register as a number below 2^32. No program is named here.
-/
namespace Go.Proofs.YtfiabbfdnmldjaaDoor.Mc
def bit1 (r : Nat) : Nat := if r % 2 = 1 then (r / 2) ^^^ 3988292384 else r / 2
def iter : Nat → Nat → Nat
  | 0, r => r
  | k + 1, r => bit1 (iter k r)
def crcByte (r : Nat) (c : UInt8) : Nat := iter 8 (r ^^^ c.toNat)
def crcReg (r : Nat) (l : List UInt8) : Nat := l.foldl crcByte r
def crcMore (crc : Nat) (l : List UInt8) : Nat := crcReg (crc ^^^ 4294967295) l ^^^ 4294967295

theorem xor_lt {a b : Nat} (ha : a < 4294967296) (hb : b < 4294967296) : a ^^^ b < 4294967296 := Nat.xor_lt_two_pow (n := 32) ha hb
theorem bit1_lt {r : Nat} (h : r < 4294967296) : bit1 r < 4294967296 := by
  unfold bit1; split
  · exact xor_lt (by omega) (by omega)
  · omega
theorem iter_lt (k : Nat) {r : Nat} (h : r < 4294967296) : iter k r < 4294967296 := by
  induction k with
  | zero => exact h
  | succ k ih => exact bit1_lt ih
theorem byte_lt (c : UInt8) : c.toNat < 4294967296 := by have := c.toNat_lt; omega
theorem crcByte_lt {r : Nat} (c : UInt8) (h : r < 4294967296) : crcByte r c < 4294967296 := iter_lt 8 (xor_lt h (byte_lt c))
theorem crcReg_lt : ∀ (l : List UInt8) {r : Nat}, r < 4294967296 → crcReg r l < 4294967296
  | [], _, h => h
  | c :: l, _, h => crcReg_lt l (crcByte_lt c h)
theorem crcMore_lt (crc : Nat) (l : List UInt8) (h : crc < 4294967296) : crcMore crc l < 4294967296 := xor_lt (crcReg_lt l (xor_lt h (by omega))) (by omega)
theorem crcReg_snoc (r : Nat) (l : List UInt8) (c : UInt8) : crcReg r (l ++ [c]) = crcByte (crcReg r l) c := by simp [crcReg]
theorem not_xor (r : Nat) (h : r < 4294967296) : r ^^^ 4294967295 = 4294967295 - r := by
  have e : (BitVec.ofNat 32 r ^^^ BitVec.allOnes 32).toNat = (~~~ (BitVec.ofNat 32 r)).toNat := by rw [BitVec.xor_allOnes]
  rw [BitVec.toNat_xor, BitVec.toNat_not, BitVec.toNat_ofNat, BitVec.toNat_allOnes] at e
  rw [Nat.mod_eq_of_lt (by omega)] at e
  omega
theorem bit1_odd {r : Nat} (h : r % 2 = 1) : bit1 r = (r / 2) ^^^ 3988292384 := by simp [bit1, h]
theorem bit1_even {r : Nat} (h : ¬ r % 2 = 1) : bit1 r = r / 2 := by simp [bit1, h]
end Go.Proofs.YtfiabbfdnmldjaaDoor.Mc

/-
  Plain facts on how a number is got back from bytes of seven bits. No program is named here.
-/
namespace Go.Proofs.YtfiabbfdnmldjaaDoor.Mg
def unfoldI (u : Nat) : Int := if u % 2 = 1 then -((u / 2 : Nat) : Int) - 1 else ((u / 2 : Nat) : Int)
def byteN (s : ByteArray) (j : Nat) : Nat := if h : j < s.size then s[j].toNat else 0
/-- From byte i of the number that begins at place a on: what it comes to (folded), the place behind it, the code. -/
def getFrom (s : ByteArray) (a : Nat) : Nat → Nat → Nat → Nat × Nat × Nat
  | 0, _, _ => (0, 0, 3)
  | f + 1, i, u =>
    if a + i < s.size then
      if i = 9 ∧ 1 < byteN s (a + i) then (0, 0, 3)
      else if byteN s (a + i) < 128 then
        if byteN s (a + i) = 0 ∧ 0 < i then (0, 0, 3) else (u + byteN s (a + i) * 2 ^ (7 * i), a + i + 1, 0)
      else getFrom s a f (i + 1) (u + byteN s (a + i) % 128 * 2 ^ (7 * i))
    else (0, 0, 4)
theorem byteN_eq {s : ByteArray} {j : Nat} (h : j < s.size) : byteN s j = s[j].toNat := by simp [byteN, h]
theorem byteN_lt (s : ByteArray) (j : Nat) : byteN s j < 256 := by
  unfold byteN; split
  · exact s[j].toNat_lt
  · omega
theorem pow_le (i : Nat) (h : i ≤ 9) : 2 ^ (7 * i) ≤ 9223372036854775808 := by
  have : 2 ^ (7 * i) ≤ 2 ^ 63 := Nat.pow_le_pow_right (by omega) (by omega)
  simpa using this
theorem pow_le8 (i : Nat) (h : i ≤ 8) : 2 ^ (7 * i) ≤ 72057594037927936 := by
  have : 2 ^ (7 * i) ≤ 2 ^ 56 := Nat.pow_le_pow_right (by omega) (by omega)
  simpa using this
theorem pow_succ7 (i : Nat) : 2 ^ (7 * (i + 1)) = 128 * 2 ^ (7 * i) := by
  rw [show 7 * (i + 1) = 7 * i + 7 by omega, Nat.pow_add]; omega
/-- One byte more of a number that goes on. -/
theorem step_lt {i u c : Nat} (hu : u < 2 ^ (7 * i)) : u + c % 128 * 2 ^ (7 * i) < 2 ^ (7 * (i + 1)) := by
  rw [pow_succ7]
  have h : c % 128 ≤ 127 := by omega
  have := Nat.mul_le_mul_right (2 ^ (7 * i)) h
  omega
theorem term_lt {i c : Nat} (hi : i ≤ 9) (h9 : ¬ (i = 9 ∧ 1 < c)) : c % 128 * 2 ^ (7 * i) < 18446744073709551616 := by
  by_cases h : i ≤ 8
  · have hp := pow_le8 i h
    have h' : c % 128 ≤ 127 := by omega
    have := Nat.mul_le_mul h' hp
    omega
  · have e : i = 9 := by omega
    subst e
    have hc : c % 128 ≤ 1 := by omega
    have := Nat.mul_le_mul_right (2 ^ (7 * 9)) hc
    omega
theorem sum_lt {i u c : Nat} (hi : i ≤ 9) (h9 : ¬ (i = 9 ∧ 1 < c)) (hu : u < 2 ^ (7 * i)) : u + c % 128 * 2 ^ (7 * i) < 18446744073709551616 := by
  by_cases h : i ≤ 8
  · have := step_lt (c := c) hu
    have hp : 2 ^ (7 * (i + 1)) ≤ 9223372036854775808 := pow_le (i + 1) (by omega)
    omega
  · have e : i = 9 := by omega
    subst e
    have hc : c % 128 ≤ 1 := by omega
    have := Nat.mul_le_mul_right (2 ^ (7 * 9)) hc
    omega
theorem or_add {i u c : Nat} (hu : u < 2 ^ (7 * i)) : u ||| c % 128 * 2 ^ (7 * i) = u + c % 128 * 2 ^ (7 * i) := by
  have e : (c % 128 * 2 ^ (7 * i)) = (c % 128) <<< (7 * i) := by rw [Nat.shiftLeft_eq]
  rw [Nat.or_comm, e, Nat.add_comm, ← Nat.shiftLeft_add_eq_or_of_lt hu]
theorem half_lt {u : Nat} (h : u < 18446744073709551616) : u / 2 < 9223372036854775808 := by omega
theorem unfold_odd {u : Nat} (h : u % 2 = 1) : unfoldI u = -((u / 2 : Nat) : Int) - 1 := by simp [unfoldI, h]
theorem unfold_even {u : Nat} (h : ¬ u % 2 = 1) : unfoldI u = ((u / 2 : Nat) : Int) := by simp [unfoldI, h]
section ways
variable {s : ByteArray} {a f i u : Nat}
theorem from_short (h : ¬ a + i < s.size) : getFrom s a (f + 1) i u = (0, 0, 4) := by simp [getFrom, h]
theorem from_wide (h : a + i < s.size) (h9 : i = 9 ∧ 1 < byteN s (a + i)) : getFrom s a (f + 1) i u = (0, 0, 3) := by
  simp only [getFrom]; rw [if_pos h, if_pos h9]
theorem from_zero (h : a + i < s.size) (h9 : ¬ (i = 9 ∧ 1 < byteN s (a + i))) (h0 : byteN s (a + i) = 0 ∧ 0 < i) : getFrom s a (f + 1) i u = (0, 0, 3) := by
  simp only [getFrom]; rw [if_pos h, if_neg h9, if_pos (by omega), if_pos h0]
theorem from_last (h : a + i < s.size) (h9 : ¬ (i = 9 ∧ 1 < byteN s (a + i))) (hl : byteN s (a + i) < 128) (h0 : ¬ (byteN s (a + i) = 0 ∧ 0 < i)) : getFrom s a (f + 1) i u = (u + byteN s (a + i) % 128 * 2 ^ (7 * i), a + i + 1, 0) := by
  simp only [getFrom]; rw [if_pos h, if_neg h9, if_pos hl, if_neg h0, Nat.mod_eq_of_lt hl]
theorem from_more (h : a + i < s.size) (h9 : ¬ (i = 9 ∧ 1 < byteN s (a + i))) (hl : ¬ byteN s (a + i) < 128) : getFrom s a (f + 1) i u = getFrom s a f (i + 1) (u + byteN s (a + i) % 128 * 2 ^ (7 * i)) := by
  conv => lhs; unfold getFrom
  rw [if_pos h, if_neg h9, if_neg hl]
theorem from_lt (h : a + i < s.size) (h9 : ¬ (i = 9 ∧ 1 < byteN s (a + i))) (hl : byteN s (a + i) < 128) :
    getFrom s a (f + 1) i u = if byteN s (a + i) = 0 ∧ 0 < i then (0, 0, 3) else (u + byteN s (a + i) % 128 * 2 ^ (7 * i), a + i + 1, 0) := by
  by_cases h0 : byteN s (a + i) = 0 ∧ 0 < i
  · rw [from_zero h h9 h0, if_pos h0]
  · rw [from_last h h9 hl h0, if_neg h0]
end ways
end Go.Proofs.YtfiabbfdnmldjaaDoor.Mg

/-
  Plain facts on the CRC: a text of which one byte is turned has another CRC; a CRC goes on from text to text. No program is named here.
-/
namespace Go.Proofs.YtfiabbfdnmldjaaDoor.Mc
theorem poly_top : Nat.testBit 3988292384 31 = true := by decide
theorem half_top {r : Nat} (h : r < 4294967296) : Nat.testBit (r / 2) 31 = false := Nat.testBit_lt_two_pow (by omega)
theorem bit1_top {r : Nat} (h : r < 4294967296) : Nat.testBit (bit1 r) 31 = decide (r % 2 = 1) := by
  unfold bit1
  split
  · rename_i h1
    rw [Nat.testBit_xor, half_top h, poly_top]; simp [h1]
  · rename_i h1
    rw [half_top h]; simp [h1]
theorem xor_cancel {a b c : Nat} (h : a ^^^ c = b ^^^ c) : a = b := by
  have := congrArg (· ^^^ c) h
  simpa [Nat.xor_assoc] using this
theorem bit1_inj {a b : Nat} (ha : a < 4294967296) (hb : b < 4294967296) (h : bit1 a = bit1 b) : a = b := by
  have ht := bit1_top ha
  rw [h, bit1_top hb] at ht
  have hp : (b % 2 = 1) ↔ (a % 2 = 1) := by simpa using ht
  unfold bit1 at h
  by_cases h1 : a % 2 = 1
  · rw [if_pos h1, if_pos (hp.2 h1)] at h
    have := xor_cancel h
    have := hp.2 h1
    omega
  · rw [if_neg h1, if_neg (fun e => h1 (hp.1 e))] at h
    have : ¬ b % 2 = 1 := fun e => h1 (hp.1 e)
    omega
theorem iter_inj (k : Nat) {a b : Nat} (ha : a < 4294967296) (hb : b < 4294967296) (h : iter k a = iter k b) : a = b := by
  induction k with
  | zero => exact h
  | succ k ih => exact ih (bit1_inj (iter_lt k ha) (iter_lt k hb) h)
theorem crcByte_inj {a b : Nat} (c : UInt8) (ha : a < 4294967296) (hb : b < 4294967296) (h : crcByte a c = crcByte b c) : a = b :=
  xor_cancel (iter_inj 8 (xor_lt ha (byte_lt c)) (xor_lt hb (byte_lt c)) h)
theorem crcByte_ne {r : Nat} {c d : UInt8} (hr : r < 4294967296) (hne : c ≠ d) : crcByte r c ≠ crcByte r d := by
  intro h
  have := iter_inj 8 (xor_lt hr (byte_lt c)) (xor_lt hr (byte_lt d)) h
  rw [Nat.xor_comm r, Nat.xor_comm r] at this
  exact hne (UInt8.toNat_inj.1 (xor_cancel this))
theorem crcReg_inj : ∀ (l : List UInt8) {a b : Nat}, a < 4294967296 → b < 4294967296 → crcReg a l = crcReg b l → a = b
  | [], _, _, _, _, h => h
  | c :: l, _, _, ha, hb, h => crcByte_inj c ha hb (crcReg_inj l (crcByte_lt c ha) (crcByte_lt c hb) h)
theorem crcReg_append (r : Nat) (a b : List UInt8) : crcReg r (a ++ b) = crcReg (crcReg r a) b := by simp [crcReg]
theorem crcReg_set : ∀ (l : List UInt8) (r i : Nat) (c : UInt8) (h : i < l.length), r < 4294967296 → c ≠ l[i] → crcReg r (l.set i c) ≠ crcReg r l
  | x :: l, r, 0, c, _, hr, hne => by
    intro e
    exact crcByte_ne hr hne (crcReg_inj l (crcByte_lt c hr) (crcByte_lt x hr) e)
  | x :: l, r, i + 1, c, h, hr, hne => by
    exact crcReg_set l (crcByte r x) i c (by simpa using h) (crcByte_lt x hr) (by simpa using hne)
theorem crcMore_set (l : List UInt8) (i : Nat) (c : UInt8) (h : i < l.length) (hne : c ≠ l[i]) : crcMore 0 (l.set i c) ≠ crcMore 0 l := by
  intro e
  exact crcReg_set l _ i c h (xor_lt (by omega) (by omega)) hne (xor_cancel e)
theorem crcMore_on (a b : List UInt8) : crcMore (crcMore 0 a) b = crcMore 0 (a ++ b) := by
  unfold crcMore
  rw [crcReg_append]
  congr 2
  rw [Nat.xor_assoc, Nat.xor_self, Nat.xor_zero]
end Go.Proofs.YtfiabbfdnmldjaaDoor.Mc

/-
  Plain facts: a number is got back from its bytes; of bytes that end too early nothing is got. No program is named here.
-/
namespace Go.Proofs.YtfiabbfdnmldjaaDoor.Mn
open Mb Mg

theorem mk_size (l : List UInt8) : (⟨l.toArray⟩ : ByteArray).size = l.length := by simp [ByteArray.size]
theorem drop_cons {L r : List UInt8} {k : Nat} {c : UInt8} (h : L.drop k = c :: r) : k < (⟨L.toArray⟩ : ByteArray).size ∧ byteN ⟨L.toArray⟩ k = c.toNat ∧ L.drop (k + 1) = r := by
  have hk : k < L.length := by
    rcases Nat.lt_or_ge k L.length with h' | h'
    · exact h'
    · rw [List.drop_eq_nil_of_le h'] at h; simp at h
  have hs : k < (⟨L.toArray⟩ : ByteArray).size := by rw [mk_size]; exact hk
  rw [List.drop_eq_getElem_cons hk] at h
  simp only [List.cons.injEq] at h
  refine ⟨hs, ?_, h.2⟩
  rw [byteN_eq hs]
  have : (⟨L.toArray⟩ : ByteArray)[k] = L[k] := rfl
  rw [this, h.1]
theorem drop_nil {L : List UInt8} {k : Nat} (h : L.drop k = []) : ¬ k < (⟨L.toArray⟩ : ByteArray).size := by
  rw [mk_size]
  have := List.drop_eq_nil_iff.1 h
  omega
theorem toNat_small {v : Nat} (h : v < 128) : (UInt8.ofNat v).toNat = v := by simp [UInt8.toNat_ofNat']; omega
theorem toNat_great (v : Nat) : (UInt8.ofNat (v % 128 + 128)).toNat = v % 128 + 128 := by simp [UInt8.toNat_ofNat']; omega
theorem great_pos {f v : Nat} (hv : v < 2 * 128 ^ f) (h : 128 ≤ v) : ∃ g, f = g + 1 := by
  cases f with
  | zero => omega
  | succ g => exact ⟨g, rfl⟩

theorem from_leb (L rest : List UInt8) (a : Nat) : ∀ (f i v u : Nat), f + i = 9 → v < 2 * 128 ^ f → (i = 0 ∨ 0 < v) → L.drop (a + i) = leb f v ++ rest →
    getFrom ⟨L.toArray⟩ a (f + 1) i u = (u + v * 2 ^ (7 * i), a + i + (leb f v).length, 0)
  | f, i, v, u, hf, hv, h0, hd => by
    by_cases h : v < 128
    · rw [leb_small f v h] at hd ⊢
      obtain ⟨hs, hb, _⟩ := drop_cons hd
      rw [toNat_small h] at hb
      rw [from_last hs (by rw [hb]; intro hh; have : f = 0 := by omega
                           subst this; omega) (by omega) (by omega), hb, Nat.mod_eq_of_lt h]
      rfl
    · obtain ⟨g, rfl⟩ := great_pos hv (by omega)
      rw [leb_great g v (by omega)] at hd ⊢
      obtain ⟨hs, hb, hr⟩ := drop_cons hd
      rw [toNat_great] at hb
      rw [from_more hs (by rw [hb]; omega) (by omega), hb]
      have ih := from_leb L rest a g (i + 1) (v / 128) (u + (v % 128 + 128) % 128 * 2 ^ (7 * i)) (by omega) (pow_step g v hv) (.inr (by omega)) hr
      rw [ih, pow_succ7]
      refine Prod.ext ?_ (Prod.ext ?_ rfl)
      · show u + (v % 128 + 128) % 128 * 2 ^ (7 * i) + v / 128 * (128 * 2 ^ (7 * i)) = u + v * 2 ^ (7 * i)
        have e1 : (v % 128 + 128) % 128 = v % 128 := by omega
        rw [e1, ← Nat.mul_assoc, Nat.add_assoc, ← Nat.add_mul]
        congr 2
        omega
      · show a + (i + 1) + (leb g (v / 128)).length = a + i + (leb g (v / 128)).length.succ
        omega
theorem from_cut (L : List UInt8) (a : Nat) : ∀ (f i v u : Nat), f + i = 9 → v < 2 * 128 ^ f → L.drop (a + i) = (leb f v).dropLast →
    getFrom ⟨L.toArray⟩ a (f + 1) i u = (0, 0, 4)
  | f, i, v, u, hf, hv, hd => by
    by_cases h : v < 128
    · rw [leb_small f v h] at hd
      exact from_short (drop_nil hd)
    · obtain ⟨g, rfl⟩ := great_pos hv (by omega)
      rw [leb_great g v (by omega)] at hd
      have hne : leb g (v / 128) ≠ [] := fun e => by have := (leb_len g (v / 128)).1; rw [e] at this; simp at this
      rw [List.dropLast_cons_of_ne_nil hne] at hd
      obtain ⟨hs, hb, hr⟩ := drop_cons hd
      rw [toNat_great] at hb
      rw [from_more hs (by rw [hb]; omega) (by omega), hb]
      exact from_cut L a g (i + 1) (v / 128) _ (by omega) (pow_step g v hv) hr
theorem unfold_fold (n : Int) : unfoldI (foldU n) = n := by
  unfold unfoldI foldU
  split <;> split <;> omega
theorem get_put (n : Int) (pre post : List UInt8) (h1 : -9223372036854775808 ≤ n) (h2 : n ≤ 9223372036854775807) :
    getFrom ⟨(pre ++ putNum n ++ post).toArray⟩ pre.length 10 0 0 = (foldU n, pre.length + (putNum n).length, 0) := by
  have := from_leb (pre ++ putNum n ++ post) post pre.length 9 0 (foldU n) 0 rfl (foldU_lt n h1 h2) (.inl rfl) (by rw [Nat.add_zero, List.append_assoc, List.drop_left]; rfl)
  rw [this]
  simp [putNum]
theorem get_cut (n : Int) (h1 : -9223372036854775808 ≤ n) (h2 : n ≤ 9223372036854775807) :
    getFrom ⟨(putNum n).dropLast.toArray⟩ 0 10 0 0 = (0, 0, 4) :=
  from_cut (putNum n).dropLast 0 9 0 (foldU n) 0 rfl (foldU_lt n h1 h2) rfl
end Go.Proofs.YtfiabbfdnmldjaaDoor.Mn

/-
  Plain facts: bytes from which a number is got are the bytes of that number. No program is named here.
-/
namespace Go.Proofs.YtfiabbfdnmldjaaDoor.Mn
open Mb Mg
theorem drop_byte {s : ByteArray} {k : Nat} (h : k < s.size) : s.data.toList.drop k = UInt8.ofNat (byteN s k) :: s.data.toList.drop (k + 1) := by
  have hk : k < s.data.toList.length := by have e : s.data.toList.length = s.size := Array.length_toList; omega
  rw [List.drop_eq_getElem_cons hk, byteN_eq h]
  congr 1
  have : s[k] = s.data.toList[k] := by simp; rfl
  rw [← this]
  simp
theorem from_inv (s : ByteArray) (a : Nat) : ∀ (f i u r b : Nat), f + i = 9 → getFrom s a (f + 1) i u = (r, b, 0) →
    ∃ v, r = u + v * 2 ^ (7 * i) ∧ v < 2 * 128 ^ f ∧ (i = 0 ∨ 0 < v) ∧ s.data.toList.drop (a + i) = leb f v ++ s.data.toList.drop b ∧ b = a + i + (leb f v).length ∧ b ≤ s.size
  | f, i, u, r, b, hf, hg => by
    by_cases hs : a + i < s.size
    · by_cases h9 : i = 9 ∧ 1 < byteN s (a + i)
      · rw [from_wide hs h9] at hg; simp at hg
      · by_cases hl : byteN s (a + i) < 128
        · by_cases h0 : byteN s (a + i) = 0 ∧ 0 < i
          · rw [from_zero hs h9 h0] at hg; simp at hg
          · rw [from_last hs h9 hl h0] at hg
            simp only [Prod.mk.injEq] at hg
            obtain ⟨h1, h2, _⟩ := hg
            refine ⟨byteN s (a + i), by rw [← h1, Nat.mod_eq_of_lt hl], ?_, by omega, ?_, ?_, by omega⟩
            · cases f with
              | zero => omega
              | succ g => have : 1 ≤ 128 ^ g := Nat.one_le_pow _ _ (by omega)
                          rw [Nat.pow_succ]; omega
            · rw [leb_small f _ hl, drop_byte hs, ← h2]; rfl
            · rw [leb_small f _ hl]; simp; omega
        · have hgp : ∃ g, f = g + 1 := by
            cases f with
            | zero => omega
            | succ g => exact ⟨g, rfl⟩
          obtain ⟨g, rfl⟩ := hgp
          rw [from_more hs h9 hl] at hg
          obtain ⟨v, h1, h2, h3, h4, h5, h6⟩ := from_inv s a g (i + 1) _ r b (by omega) hg
          have hv : 0 < v := by omega
          have hb := byteN_lt s (a + i)
          generalize hc : byteN s (a + i) = c at *
          have e1 : (c % 128 + 128 * v) % 128 = c % 128 := by omega
          have e2 : (c % 128 + 128 * v) / 128 = v := by omega
          refine ⟨c % 128 + 128 * v, ?_, ?_, .inr (by omega), ?_, ?_, h6⟩
          · rw [h1, pow_succ7, Nat.add_mul, Nat.add_assoc]
            congr 2
            rw [← Nat.mul_assoc, Nat.mul_comm v 128]
          · rw [Nat.pow_succ]; omega
          · rw [leb_great g _ (by omega), e1, e2, drop_byte hs, hc]
            have e3 : c % 128 + 128 = c := by omega
            rw [e3]
            show _ = UInt8.ofNat c :: (leb g v ++ _)
            rw [← h4]; rfl
          · rw [leb_great g _ (by omega), e2, h5]; simp; omega
    · rw [from_short hs] at hg; simp at hg
theorem fold_unfold (u : Nat) : foldU (unfoldI u) = u := by
  unfold unfoldI foldU
  split <;> split <;> omega
/-- What was got stands there. -/
theorem get_inv {s : ByteArray} {a u b : Nat} (h : getFrom s a 10 0 0 = (u, b, 0)) :
    s.data.toList.drop a = putNum (unfoldI u) ++ s.data.toList.drop b ∧ b = a + (putNum (unfoldI u)).length ∧ b ≤ s.size ∧ -9223372036854775808 ≤ unfoldI u ∧ unfoldI u ≤ 9223372036854775807 := by
  obtain ⟨v, h1, h2, -, h4, h5, h6⟩ := from_inv s a 9 0 0 u b rfl h
  have e : v = u := by simp at h1; exact h1.symm
  subst e
  unfold putNum
  rw [fold_unfold]
  refine ⟨by simpa using h4, by simpa using h5, h6, ?_, ?_⟩
  · unfold unfoldI; split <;> omega
  · unfold unfoldI; split <;> omega
end Go.Proofs.YtfiabbfdnmldjaaDoor.Mn

/-
  The laws' marks, as texts of numbers.
-/
namespace Go.Proofs.YtfiabbfdnmldjaaDoor.Mk
def digs : Nat → Nat → List UInt8 → List UInt8
  | 0, _, acc => acc
  | f + 1, k, acc => if k = 0 then acc else digs f (k / 10) (UInt8.ofNat (48 + k % 10) :: acc)
/-- The mark of the number k. -/
def markOf (k : Nat) : ByteArray := ⟨((109 : UInt8) :: digs 10 k []).toArray⟩
theorem digs_step (f k : Nat) (acc : List UInt8) (hk : 0 < k) : digs (f + 1) k acc = digs f (k / 10) (UInt8.ofNat (48 + k % 10) :: acc) := by
  simp [digs]; omega
theorem digs_zero (f : Nat) (acc : List UInt8) : digs f 0 acc = acc := by cases f <;> simp [digs]
/-- Marks from k on, n of them. -/
def marksS (k : Nat) : Nat → List ByteArray
  | 0 => []
  | n + 1 => markOf k :: marksS (k + 1) n
def marksP (k : Nat) : Nat → List (Int × ByteArray)
  | 0 => []
  | n + 1 => ((k : Int), markOf (k + 1)) :: marksP (k + 2) n
theorem marksS_length : ∀ (n k : Nat), (marksS k n).length = n
  | 0, _ => rfl
  | n + 1, k => by simp [marksS, marksS_length n]
theorem marksP_length : ∀ (n k : Nat), (marksP k n).length = n
  | 0, _ => rfl
  | n + 1, k => by simp [marksP, marksP_length n]
theorem marksS_at : ∀ (n k i : Nat), i < n → (marksS k n)[i]? = some (markOf (k + i))
  | 0, _, _, h => by omega
  | n + 1, k, 0, _ => by simp [marksS]
  | n + 1, k, i + 1, h => by
    simp only [marksS, List.getElem?_cons_succ]
    rw [marksS_at n (k + 1) i (by omega), show k + 1 + i = k + (i + 1) by omega]
theorem marksP_at : ∀ (n k i : Nat), i < n → (marksP k n)[i]? = some (((k + i * 2 : Nat) : Int), markOf (k + i * 2 + 1))
  | 0, _, _, h => by omega
  | n + 1, k, 0, _ => by simp [marksP]
  | n + 1, k, i + 1, h => by
    simp only [marksP, List.getElem?_cons_succ]
    rw [marksP_at n (k + 2) i (by omega), show k + 2 + i * 2 = k + (i + 1) * 2 by omega]
end Go.Proofs.YtfiabbfdnmldjaaDoor.Mk

/-
  A disk on lists: when it is right, what a sector reads as, what is there behind a flush and behind a crash.
-/
namespace Go.Proofs.YtfiabbfdnmldjaaDoor.Dk
abbrev Pend := Int × ByteArray
def pOk (n : Nat) (p : Pend) : Bool := decide (0 ≤ p.1) && decide (p.1 < n) && decide (p.2.size ≤ 64)
def rightB (ss : List ByteArray) (ps : List Pend) : Bool :=
  decide (1 ≤ ss.length) && decide (ss.length ≤ 64) && decide (ps.length ≤ 200) && ss.all (fun s => decide (s.size ≤ 64)) && ps.all (pOk ss.length)
theorem pOk_iff (n : Nat) (p : Pend) : pOk n p = true ↔ 0 ≤ p.1 ∧ p.1 < n ∧ p.2.size ≤ 64 := by simp [pOk, and_assoc]
theorem right_iff (ss : List ByteArray) (ps : List Pend) :
    rightB ss ps = true ↔ 1 ≤ ss.length ∧ ss.length ≤ 64 ∧ ps.length ≤ 200 ∧ (∀ s ∈ ss, s.size ≤ 64) ∧ ∀ p ∈ ps, 0 ≤ p.1 ∧ p.1 < ss.length ∧ p.2.size ≤ 64 := by
  simp [rightB, pOk_iff, and_assoc, List.all_eq_true]
theorem right_no {ss : List ByteArray} {ps : List Pend} (h : ¬ (1 ≤ ss.length ∧ ss.length ≤ 64 ∧ ps.length ≤ 200 ∧ (∀ s ∈ ss, s.size ≤ 64) ∧ ∀ p ∈ ps, 0 ≤ p.1 ∧ p.1 < ss.length ∧ p.2.size ≤ 64)) : rightB ss ps = false := by
  rw [← right_iff] at h; simpa using h
/-- What a sector reads as: the last Pending one's, or the sector. -/
def readOf (t : ByteArray) (ps : List Pend) (i : Int) : ByteArray := ps.foldl (fun t p => if p.1 = i then p.2 else t) t
theorem readOf_snoc (t : ByteArray) (ps : List Pend) (p : Pend) (i : Int) : readOf t (ps ++ [p]) i = if p.1 = i then p.2 else readOf t ps i := by simp [readOf]
theorem readOf_none (t : ByteArray) (i : Int) : ∀ ps : List Pend, (∀ q ∈ ps, q.1 ≠ i) → readOf t ps i = t := by
  intro ps
  induction ps generalizing t with
  | nil => intro _; rfl
  | cons p ps ih =>
    intro h
    show readOf (if p.1 = i then p.2 else t) ps i = t
    rw [if_neg (h p (by simp)), ih t (fun q hq => h q (by simp [hq]))]
theorem readOf_append (t : ByteArray) (i : Int) (l m : List Pend) : readOf t (l ++ m) i = readOf (readOf t l i) m i := by simp [readOf]
theorem readOf_found (t : ByteArray) (i : Int) (ps : List Pend) (k : Nat) (p : Pend) (hp : ps[k]? = some p) (he : p.1 = i) (hn : ∀ q ∈ ps.drop (k + 1), q.1 ≠ i) : readOf t ps i = p.2 := by
  have h1 : ps = ps.take k ++ [p] ++ ps.drop (k + 1) := by
    have h2 : ps.take (k + 1) = ps.take k ++ [p] := by rw [List.take_add_one, hp]; rfl
    rw [← h2, List.take_append_drop]
  rw [h1, readOf_append, readOf_none _ _ _ hn, readOf_snoc, if_pos he]
/-- All Pending, in order, are in the sectors. -/
def putOne (ss : List ByteArray) (p : Pend) : List ByteArray := ss.set p.1.toNat p.2
def flushOf (ss : List ByteArray) (ps : List Pend) : List ByteArray := ps.foldl putOne ss
theorem flushOf_length (ps : List Pend) : ∀ ss : List ByteArray, (flushOf ss ps).length = ss.length := by
  induction ps with
  | nil => intro ss; rfl
  | cons p ps ih => intro ss; simp only [flushOf, List.foldl_cons] at ih ⊢; rw [ih]; simp [putOne]
theorem flushOf_snoc (ss : List ByteArray) (ps : List Pend) (p : Pend) : flushOf ss (ps ++ [p]) = putOne (flushOf ss ps) p := by simp [flushOf]
/-- Those that are kept. -/
def keptAt (keep : List Int) (i : Nat) : Bool := match keep[i]? with | some x => decide (0 < x) | none => false
def crashTo (ss : List ByteArray) (ps : List Pend) (keep : List Int) : Nat → List ByteArray
  | 0 => ss
  | k + 1 => match ps[k]? with
    | some p => if keptAt keep k then putOne (crashTo ss ps keep k) p else crashTo ss ps keep k
    | none => crashTo ss ps keep k
def crashOf (ss : List ByteArray) (ps : List Pend) (keep : List Int) : List ByteArray := crashTo ss ps keep ps.length
theorem crashTo_length (ss : List ByteArray) (ps : List Pend) (keep : List Int) : ∀ k, (crashTo ss ps keep k).length = ss.length
  | 0 => rfl
  | k + 1 => by
    unfold crashTo
    split
    · split
      · simp [putOne, crashTo_length ss ps keep k]
      · exact crashTo_length ss ps keep k
    · exact crashTo_length ss ps keep k
theorem crashTo_kept (ss : List ByteArray) (ps : List Pend) (keep : List Int) (k : Nat) (p : Pend) (hp : ps[k]? = some p) (hk : keptAt keep k = true) : crashTo ss ps keep (k + 1) = putOne (crashTo ss ps keep k) p := by
  simp [crashTo, hp, hk]
theorem crashTo_lost (ss : List ByteArray) (ps : List Pend) (keep : List Int) (k : Nat) (hk : keptAt keep k = false) : crashTo ss ps keep (k + 1) = crashTo ss ps keep k := by
  simp only [crashTo, hk]; split <;> simp
theorem putOne_length (ss : List ByteArray) (p : Pend) : (putOne ss p).length = ss.length := by simp [putOne]
/-- What a call tells of a disk: sectors, what is pending, a text, a code. -/
structure Out where
  ss : List ByteArray
  ps : List Pend
  d : ByteArray
  k : Int
def ill (k : Int) : Out := ⟨[], [], ⟨#[]⟩, k⟩
def readR (ss : List ByteArray) (ps : List Pend) (i : Int) : Out :=
  if rightB ss ps = false then ill 1 else if 0 ≤ i ∧ i < ss.length then ⟨ss, ps, readOf (ss.getD i.toNat ⟨#[]⟩) ps i, 0⟩ else ill 8
def writeR (ss : List ByteArray) (ps : List Pend) (i : Int) (d : ByteArray) : Out :=
  if 8000 < d.size then ill 2 else if rightB ss ps = false ∨ 64 < d.size then ill 1 else if 0 ≤ i ∧ i < ss.length then (if 200 ≤ ps.length then ill 9 else ⟨ss, ps ++ [(i, d)], ⟨#[]⟩, 0⟩) else ill 8
def flushR (ss : List ByteArray) (ps : List Pend) : Out :=
  if rightB ss ps = false then ill 1 else ⟨flushOf ss ps, [], ⟨#[]⟩, 0⟩
def crashR (ss : List ByteArray) (ps : List Pend) (keep : List Int) : List ByteArray × List Pend :=
  if 400 < keep.length then ([], []) else if rightB ss ps = false then (ss, ps) else (crashOf ss ps keep, [])
end Go.Proofs.YtfiabbfdnmldjaaDoor.Dk

/-
  A disk on lists: what is written is read; what is flushed reads as it did; what a crash leaves.
-/
namespace Go.Proofs.YtfiabbfdnmldjaaDoor.Dk
theorem write_ok {ss : List ByteArray} {ps : List Pend} {i : Int} {d : ByteArray} (h : (writeR ss ps i d).k = 0) :
    rightB ss ps = true ∧ 0 ≤ i ∧ i < ss.length ∧ d.size ≤ 64 ∧ ps.length < 200 ∧ writeR ss ps i d = ⟨ss, ps ++ [(i, d)], ⟨#[]⟩, 0⟩ ∧ rightB ss (ps ++ [(i, d)]) = true := by
  unfold writeR at h ⊢
  split at h
  · simp [ill] at h
  · rename_i g0
    split at h
    · simp [ill] at h
    · rename_i g1
      split at h
      · rename_i g2
        split at h
        · simp [ill] at h
        · rename_i g3
          have hR : rightB ss ps = true := by
            cases e : rightB ss ps
            · exact absurd (Or.inl e) g1
            · rfl
          have hd : d.size ≤ 64 := Nat.le_of_not_lt (fun q => g1 (.inr q))
          rw [if_neg g0, if_neg g1, if_pos g2, if_neg g3]
          refine ⟨hR, g2.1, g2.2, hd, by omega, rfl, ?_⟩
          obtain ⟨h1, h2, h3, h4, h5⟩ := (right_iff ss ps).1 hR
          refine (right_iff _ _).2 ⟨h1, h2, by simp; omega, h4, fun p hp => ?_⟩
          rcases List.mem_append.1 hp with q | q
          · exact h5 p q
          · simp at q; subst q; exact ⟨g2.1, g2.2, hd⟩
      · simp [ill] at h
theorem putOne_right {ss : List ByteArray} {p : Pend} (h : ∀ s ∈ ss, s.size ≤ 64) (hp : p.2.size ≤ 64) : ∀ s ∈ putOne ss p, s.size ≤ 64 := by
  intro s hs
  rcases List.mem_or_eq_of_mem_set hs with q | q
  · exact h s q
  · subst q; exact hp
theorem flushOf_sizes : ∀ (ps : List Pend) (ss : List ByteArray), (∀ s ∈ ss, s.size ≤ 64) → (∀ p ∈ ps, p.2.size ≤ 64) → ∀ s ∈ flushOf ss ps, s.size ≤ 64
  | [], _, h, _ => h
  | p :: ps, ss, h, hp => flushOf_sizes ps (putOne ss p) (putOne_right h (hp p (by simp))) (fun q hq => hp q (by simp [hq]))
theorem flush_ok {ss : List ByteArray} {ps : List Pend} (h : (flushR ss ps).k = 0) : rightB ss ps = true ∧ flushR ss ps = ⟨flushOf ss ps, [], ⟨#[]⟩, 0⟩ ∧ rightB (flushOf ss ps) [] = true := by
  unfold flushR at h ⊢
  split at h
  · simp [ill] at h
  · rename_i g
    have hR : rightB ss ps = true := by simpa using g
    rw [if_neg g]
    obtain ⟨h1, h2, h3, h4, h5⟩ := (right_iff ss ps).1 hR
    refine ⟨hR, rfl, (right_iff _ _).2 ⟨by rw [flushOf_length]; exact h1, by rw [flushOf_length]; exact h2, by simp, flushOf_sizes ps ss h4 (fun p hp => (h5 p hp).2.2), by simp⟩⟩
theorem read_ok {ss : List ByteArray} {ps : List Pend} {j : Nat} {t : ByteArray} (hR : rightB ss ps = true) (ht : ss[j]? = some t) : readR ss ps j = ⟨ss, ps, readOf t ps j, 0⟩ := by
  have hj := (List.getElem?_eq_some_iff.1 ht).1
  unfold readR
  rw [if_neg (by rw [hR]; simp), if_pos ⟨by omega, by omega⟩]
  simp [List.getD_eq_getElem?_getD, ht]
theorem read_data {ss : List ByteArray} {ps : List Pend} {i : Int} (h : (readR ss ps i).k = 0) : rightB ss ps = true ∧ (readR ss ps i).ss = ss ∧ (readR ss ps i).ps = ps := by
  unfold readR at h ⊢
  split at h
  · simp [ill] at h
  · rename_i g
    split at h
    · rename_i g2
      rw [if_neg g, if_pos g2]
      exact ⟨by simpa using g, rfl, rfl⟩
    · simp [ill] at h
/-- Flushed, a sector is what it read as. -/
theorem flushOf_get : ∀ (ps : List Pend) (ss : List ByteArray) (j : Nat) (t : ByteArray), ss[j]? = some t → (∀ p ∈ ps, 0 ≤ p.1 ∧ p.1 < ss.length) → (flushOf ss ps)[j]? = some (readOf t ps j)
  | [], _, _, _, h, _ => h
  | p :: ps, ss, j, t, h, hp => by
    have hj := (List.getElem?_eq_some_iff.1 h).1
    have h0 := hp p (by simp)
    show (flushOf (putOne ss p) ps)[j]? = some (readOf (if p.1 = (j : Int) then p.2 else t) ps j)
    refine flushOf_get ps (putOne ss p) j _ ?_ (fun q hq => by rw [putOne_length]; exact hp q (by simp [hq]))
    unfold putOne
    rw [List.getElem?_set]
    by_cases e : p.1.toNat = j
    · rw [if_pos e, if_pos (by omega), if_pos (by omega)]
    · rw [if_neg e, if_neg (by omega)]; exact h
theorem crash_none {ss : List ByteArray} {keep : List Int} (hk : ¬ 400 < keep.length) (hR : rightB ss [] = true) : crashR ss [] keep = (ss, []) := by
  unfold crashR
  rw [if_neg hk, if_neg (by rw [hR]; simp)]
  rfl
/-- Behind a crash a sector is what it was, or something that was pending for it. -/
theorem crash_some (ss : List ByteArray) (ps : List Pend) (keep : List Int) (hp : ∀ p ∈ ps, 0 ≤ p.1 ∧ p.1 < ss.length) (j : Nat) : ∀ (k : Nat) (x : ByteArray), (crashTo ss ps keep k)[j]? = some x → ss[j]? = some x ∨ ∃ m, m < k ∧ ps[m]? = some ((j : Int), x)
  | 0, x, h => .inl h
  | k + 1, x, h => by
    cases hy : keptAt keep k
    · rw [crashTo_lost _ _ _ _ hy] at h
      rcases crash_some ss ps keep hp j k x h with q | ⟨m, hm, q⟩
      · exact .inl q
      · exact .inr ⟨m, by omega, q⟩
    · cases hq : ps[k]? with
      | none =>
        have e : crashTo ss ps keep (k + 1) = crashTo ss ps keep k := by simp [crashTo, hq]
        rw [e] at h
        rcases crash_some ss ps keep hp j k x h with q | ⟨m, hm, q⟩
        · exact .inl q
        · exact .inr ⟨m, by omega, q⟩
      | some p =>
        rw [crashTo_kept _ _ _ _ _ hq hy] at h
        unfold putOne at h
        rw [List.getElem?_set] at h
        have h0 := hp p (List.mem_of_getElem? hq)
        by_cases e : p.1.toNat = j
        · rw [if_pos e] at h
          split at h
          · cases h
            refine .inr ⟨k, by omega, ?_⟩
            rw [hq]
            congr 1
            have : p.1 = (j : Int) := by omega
            rw [← this]
          · cases h
        · rw [if_neg e] at h
          rcases crash_some ss ps keep hp j k x h with q | ⟨m, hm, q⟩
          · exact .inl q
          · exact .inr ⟨m, by omega, q⟩
theorem new_right (n : Int) (h1 : 1 ≤ n) (h2 : n ≤ 64) : rightB (List.replicate n.toNat ⟨#[]⟩) [] = true := by
  refine (right_iff _ _).2 ⟨by simp; omega, by simp; omega, by simp, fun s hs => ?_, by simp⟩
  have := (List.mem_replicate.1 hs).2
  subst this
  exact Nat.zero_le _
end Go.Proofs.YtfiabbfdnmldjaaDoor.Dk

/-
  The steps of a put, on lists: each a write or a flush; what is there behind the first of them.
-/
namespace Go.Proofs.YtfiabbfdnmldjaaDoor.Dk
/-- A write of a text into a sector; nothing more said: a flush. -/
abbrev St : Type := Option (Int × ByteArray)
abbrev St.write (i : Int) (d : ByteArray) : St := some (i, d)
abbrev St.flush : St := none
def doSt (ss : List ByteArray) (ps : List Pend) : St → Out
  | some (i, d) => writeR ss ps i d
  | none => flushR ss ps
/-- Behind all steps, or the code of the first one that was not done. -/
def runS : List ByteArray → List Pend → List St → Out
  | ss, ps, [] => ⟨ss, ps, ⟨#[]⟩, 0⟩
  | ss, ps, s :: l => if (doSt ss ps s).k = 0 then runS (doSt ss ps s).ss (doSt ss ps s).ps l else ill (doSt ss ps s).k
theorem doSt_right {ss : List ByteArray} {ps : List Pend} {s : St} (h : (doSt ss ps s).k = 0) : rightB (doSt ss ps s).ss (doSt ss ps s).ps = true := by
  match s, h with
  | some (i, d), h =>
    have := write_ok (ss := ss) (ps := ps) (i := i) (d := d) h
    show rightB (writeR ss ps i d).ss (writeR ss ps i d).ps = true
    rw [this.2.2.2.2.2.1]; exact this.2.2.2.2.2.2
  | none, h =>
    have := flush_ok (ss := ss) (ps := ps) h
    show rightB (flushR ss ps).ss (flushR ss ps).ps = true
    rw [this.2.1]; exact this.2.2
theorem runS_drop {ss : List ByteArray} {ps : List Pend} {l : List St} {k : Nat} {s : St} (hs : l[k]? = some s) (h : (doSt ss ps s).k = 0) : runS ss ps (l.drop k) = runS (doSt ss ps s).ss (doSt ss ps s).ps (l.drop (k + 1)) := by
  have hk := (List.getElem?_eq_some_iff.1 hs)
  obtain ⟨h1, h2⟩ := hk
  rw [List.drop_eq_getElem_cons h1, h2]
  show (if (doSt ss ps s).k = 0 then _ else _) = _
  rw [if_pos h]
theorem runS_stop {ss : List ByteArray} {ps : List Pend} {l : List St} {k : Nat} {s : St} (hs : l[k]? = some s) (h : ¬ (doSt ss ps s).k = 0) : runS ss ps (l.drop k) = ill (doSt ss ps s).k := by
  obtain ⟨h1, h2⟩ := List.getElem?_eq_some_iff.1 hs
  rw [List.drop_eq_getElem_cons h1, h2]
  show (if (doSt ss ps s).k = 0 then _ else _) = _
  rw [if_neg h]
theorem runS_end {ss : List ByteArray} {ps : List Pend} {l : List St} {k : Nat} (h : l.length ≤ k) : runS ss ps (l.drop k) = ⟨ss, ps, ⟨#[]⟩, 0⟩ := by
  rw [List.drop_of_length_le h]; rfl
theorem runS_sizes : ∀ (l : List St) (ss : List ByteArray) (ps : List Pend), rightB ss ps = true → (runS ss ps l).ss.length ≤ 64 ∧ (runS ss ps l).ps.length ≤ 200
  | [], ss, ps, h => by
    obtain ⟨_, h2, h3, _, _⟩ := (right_iff ss ps).1 h
    exact ⟨h2, h3⟩
  | s :: l, ss, ps, _ => by
    show (if (doSt ss ps s).k = 0 then _ else _ : Out).ss.length ≤ 64 ∧ (if (doSt ss ps s).k = 0 then _ else _ : Out).ps.length ≤ 200
    by_cases hk : (doSt ss ps s).k = 0
    · rw [if_pos hk]
      exact runS_sizes l _ _ (doSt_right hk)
    · rw [if_neg hk]
      simp [ill]
end Go.Proofs.YtfiabbfdnmldjaaDoor.Dk

/-
  The text of a side, on lists: sector by sector, each full but the last one.
-/
namespace Go.Proofs.YtfiabbfdnmldjaaDoor.Dk
/-- What a sector reads as. -/
def sect (ss : List ByteArray) (ps : List Pend) (j : Nat) : ByteArray := readOf (ss.getD j ⟨#[]⟩) ps j
/-- How many bytes of the side's sector i belong to a text of z bytes. -/
def want (z i : Nat) : Nat := min 64 (z - 64 * i)
/-- The first i sectors' part of a text of z bytes, from sector f on. -/
def gath (ss : List ByteArray) (ps : List Pend) (f z : Nat) : Nat → List UInt8
  | 0 => []
  | i + 1 => gath ss ps f z i ++ (sect ss ps (f + i)).data.toList.take (want z i)
/-- Each sector that is wanted has what is wanted of it. -/
abbrev SideOk (ss : List ByteArray) (ps : List Pend) (f z : Nat) : Prop := ∀ i, i < 32 → 64 * i < z → want z i ≤ (sect ss ps (f + i)).size
theorem gath_length (ss : List ByteArray) (ps : List Pend) (f z : Nat) : ∀ i, (∀ k, k < i → want z k ≤ (sect ss ps (f + k)).size) → (gath ss ps f z i).length = min z (64 * i)
  | 0, _ => by simp [gath]
  | i + 1, h => by
    have ih := gath_length ss ps f z i (fun k hk => h k (by omega))
    have hi := h i (by omega)
    have e : (sect ss ps (f + i)).data.toList.length = (sect ss ps (f + i)).size := Array.length_toList
    simp only [gath, List.length_append, List.length_take, ih, e]
    unfold want at hi ⊢
    omega
theorem gath_stop (ss : List ByteArray) (ps : List Pend) (f z : Nat) (i : Nat) (h : z ≤ 64 * i) : ∀ k, gath ss ps f z (i + k) = gath ss ps f z i
  | 0 => rfl
  | k + 1 => by
    have ih := gath_stop ss ps f z i h k
    show gath ss ps f z (i + k) ++ (sect ss ps (f + (i + k))).data.toList.take (want z (i + k)) = _
    have e : want z (i + k) = 0 := by unfold want; omega
    rw [e, List.take_zero, List.append_nil, ih]
theorem gath_end (ss : List ByteArray) (ps : List Pend) (f z : Nat) (i : Nat) (h : z ≤ 64 * i) (hi : i ≤ 32) : gath ss ps f z 32 = gath ss ps f z i := by
  have := gath_stop ss ps f z i h (32 - i)
  rwa [show i + (32 - i) = 32 by omega] at this
theorem sect_read {ss : List ByteArray} {ps : List Pend} {j : Nat} (hR : rightB ss ps = true) (hj : j < ss.length) : readR ss ps (j : Nat) = ⟨ss, ps, sect ss ps j, 0⟩ := by
  have := read_ok (ps := ps) hR (List.getElem?_eq_getElem hj)
  rw [this]
  simp [sect, List.getD_eq_getElem?_getD, List.getElem?_eq_getElem hj]
end Go.Proofs.YtfiabbfdnmldjaaDoor.Dk
