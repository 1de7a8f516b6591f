/-
  M1 M3 M5 M6 M7 M8 ME MF MS MT MU: parts of the proof, one behind the other.
-/
import Derived.Laws.BitsAllLaws
/-
  Plain facts on numbers and lists of bytes: how a number is written in bytes of seven bits. No program is named here.
-/
namespace Go.Proofs.YtkpjdmmgdmbmnaaDoor.Mb
def foldU (n : Int) : Nat := if n < 0 then 2 * (-(n + 1)).toNat + 1 else 2 * n.toNat
def leb : Nat → Nat → List UInt8
  | 0, v => [UInt8.ofNat v]
  | f + 1, v => if v < 128 then [UInt8.ofNat v] else UInt8.ofNat (v % 128 + 128) :: leb f (v / 128)
def putNum (n : Int) : List UInt8 := leb 9 (foldU n)
theorem foldU_lt (n : Int) (h1 : -9223372036854775808 ≤ n) (h2 : n ≤ 9223372036854775807) : foldU n < 2 * 128 ^ 9 := by
  unfold foldU; split <;> omega
theorem foldU_neg (n : Int) (h : n < 0) : ((foldU n : Nat) : Int) = 2 * -(n + 1) + 1 := by unfold foldU; rw [if_pos h]; omega
theorem foldU_pos (n : Int) (h : ¬ n < 0) : ((foldU n : Nat) : Int) = 2 * n := by unfold foldU; rw [if_neg h]; omega
theorem pow_step (f v : Nat) (h : v < 2 * 128 ^ (f + 1)) : v / 128 < 2 * 128 ^ f := by
  rw [Nat.pow_succ] at h; omega
theorem pow_zero_lt (v : Nat) (h : v < 2 * 128 ^ 0) : v < 128 := by omega
theorem leb_small (f v : Nat) (h : v < 128) : leb f v = [UInt8.ofNat v] := by
  cases f <;> simp [leb, h]
theorem leb_great (f v : Nat) (h : 128 ≤ v) : leb (f + 1) v = UInt8.ofNat (v % 128 + 128) :: leb f (v / 128) := by
  simp [leb, Nat.not_lt.2 h]
theorem leb_len (f v : Nat) : 1 ≤ (leb f v).length ∧ (leb f v).length ≤ f + 1 := by
  induction f generalizing v with
  | zero => simp [leb]
  | succ f ih => unfold leb; split <;> simp; have := ih (v / 128); omega
theorem bound_lt (f v : Nat) (hf : f ≤ 9) (h : v < 2 * 128 ^ f) : v < 18446744073709551616 := by
  have : 128 ^ f ≤ 128 ^ 9 := Nat.pow_le_pow_right (by omega) hf
  omega
/-- The bytes as the program's memory holds them. -/
def cells (l : List UInt8) : List Int := l.map fun c => (c.toNat : Int)
end Go.Proofs.YtkpjdmmgdmbmnaaDoor.Mb

/-
  Plain facts on how a number is got back from bytes of seven bits. No program is named here.
-/
namespace Go.Proofs.YtkpjdmmgdmbmnaaDoor.Mg
def unfoldI (u : Nat) : Int := if u % 2 = 1 then -((u / 2 : Nat) : Int) - 1 else ((u / 2 : Nat) : Int)
def byteN (s : ByteArray) (j : Nat) : Nat := if h : j < s.size then s[j].toNat else 0
/-- From byte i of the number that begins at place a on: what it comes to (folded), the place behind it, the code. -/
def getFrom (s : ByteArray) (a : Nat) : Nat → Nat → Nat → Nat × Nat × Nat
  | 0, _, _ => (0, 0, 3)
  | f + 1, i, u =>
    if a + i < s.size then
      if i = 9 ∧ 1 < byteN s (a + i) then (0, 0, 3)
      else if byteN s (a + i) < 128 then
        if byteN s (a + i) = 0 ∧ 0 < i then (0, 0, 3) else (u + byteN s (a + i) * 2 ^ (7 * i), a + i + 1, 0)
      else getFrom s a f (i + 1) (u + byteN s (a + i) % 128 * 2 ^ (7 * i))
    else (0, 0, 4)
theorem byteN_eq {s : ByteArray} {j : Nat} (h : j < s.size) : byteN s j = s[j].toNat := by simp [byteN, h]
theorem byteN_lt (s : ByteArray) (j : Nat) : byteN s j < 256 := by
  unfold byteN; split
  · exact s[j].toNat_lt
  · omega
theorem pow_le (i : Nat) (h : i ≤ 9) : 2 ^ (7 * i) ≤ 9223372036854775808 := by
  have : 2 ^ (7 * i) ≤ 2 ^ 63 := Nat.pow_le_pow_right (by omega) (by omega)
  simpa using this
theorem pow_le8 (i : Nat) (h : i ≤ 8) : 2 ^ (7 * i) ≤ 72057594037927936 := by
  have : 2 ^ (7 * i) ≤ 2 ^ 56 := Nat.pow_le_pow_right (by omega) (by omega)
  simpa using this
theorem pow_succ7 (i : Nat) : 2 ^ (7 * (i + 1)) = 128 * 2 ^ (7 * i) := by
  rw [show 7 * (i + 1) = 7 * i + 7 by omega, Nat.pow_add]; omega
/-- One byte more of a number that goes on. -/
theorem step_lt {i u c : Nat} (hu : u < 2 ^ (7 * i)) : u + c % 128 * 2 ^ (7 * i) < 2 ^ (7 * (i + 1)) := by
  rw [pow_succ7]
  have h : c % 128 ≤ 127 := by omega
  have := Nat.mul_le_mul_right (2 ^ (7 * i)) h
  omega
theorem term_lt {i c : Nat} (hi : i ≤ 9) (h9 : ¬ (i = 9 ∧ 1 < c)) : c % 128 * 2 ^ (7 * i) < 18446744073709551616 := by
  by_cases h : i ≤ 8
  · have hp := pow_le8 i h
    have h' : c % 128 ≤ 127 := by omega
    have := Nat.mul_le_mul h' hp
    omega
  · have e : i = 9 := by omega
    subst e
    have hc : c % 128 ≤ 1 := by omega
    have := Nat.mul_le_mul_right (2 ^ (7 * 9)) hc
    omega
theorem sum_lt {i u c : Nat} (hi : i ≤ 9) (h9 : ¬ (i = 9 ∧ 1 < c)) (hu : u < 2 ^ (7 * i)) : u + c % 128 * 2 ^ (7 * i) < 18446744073709551616 := by
  by_cases h : i ≤ 8
  · have := step_lt (c := c) hu
    have hp : 2 ^ (7 * (i + 1)) ≤ 9223372036854775808 := pow_le (i + 1) (by omega)
    omega
  · have e : i = 9 := by omega
    subst e
    have hc : c % 128 ≤ 1 := by omega
    have := Nat.mul_le_mul_right (2 ^ (7 * 9)) hc
    omega
theorem or_add {i u c : Nat} (hu : u < 2 ^ (7 * i)) : u ||| c % 128 * 2 ^ (7 * i) = u + c % 128 * 2 ^ (7 * i) := by
  have e : (c % 128 * 2 ^ (7 * i)) = (c % 128) <<< (7 * i) := by rw [Nat.shiftLeft_eq]
  rw [Nat.or_comm, e, Nat.add_comm, ← Nat.shiftLeft_add_eq_or_of_lt hu]
theorem half_lt {u : Nat} (h : u < 18446744073709551616) : u / 2 < 9223372036854775808 := by omega
theorem unfold_odd {u : Nat} (h : u % 2 = 1) : unfoldI u = -((u / 2 : Nat) : Int) - 1 := by simp [unfoldI, h]
theorem unfold_even {u : Nat} (h : ¬ u % 2 = 1) : unfoldI u = ((u / 2 : Nat) : Int) := by simp [unfoldI, h]
section ways
variable {s : ByteArray} {a f i u : Nat}
theorem from_short (h : ¬ a + i < s.size) : getFrom s a (f + 1) i u = (0, 0, 4) := by simp [getFrom, h]
theorem from_wide (h : a + i < s.size) (h9 : i = 9 ∧ 1 < byteN s (a + i)) : getFrom s a (f + 1) i u = (0, 0, 3) := by
  simp only [getFrom]; rw [if_pos h, if_pos h9]
theorem from_zero (h : a + i < s.size) (h9 : ¬ (i = 9 ∧ 1 < byteN s (a + i))) (h0 : byteN s (a + i) = 0 ∧ 0 < i) : getFrom s a (f + 1) i u = (0, 0, 3) := by
  simp only [getFrom]; rw [if_pos h, if_neg h9, if_pos (by omega), if_pos h0]
theorem from_last (h : a + i < s.size) (h9 : ¬ (i = 9 ∧ 1 < byteN s (a + i))) (hl : byteN s (a + i) < 128) (h0 : ¬ (byteN s (a + i) = 0 ∧ 0 < i)) : getFrom s a (f + 1) i u = (u + byteN s (a + i) % 128 * 2 ^ (7 * i), a + i + 1, 0) := by
  simp only [getFrom]; rw [if_pos h, if_neg h9, if_pos hl, if_neg h0, Nat.mod_eq_of_lt hl]
theorem from_more (h : a + i < s.size) (h9 : ¬ (i = 9 ∧ 1 < byteN s (a + i))) (hl : ¬ byteN s (a + i) < 128) : getFrom s a (f + 1) i u = getFrom s a f (i + 1) (u + byteN s (a + i) % 128 * 2 ^ (7 * i)) := by
  conv => lhs; unfold getFrom
  rw [if_pos h, if_neg h9, if_neg hl]
theorem from_lt (h : a + i < s.size) (h9 : ¬ (i = 9 ∧ 1 < byteN s (a + i))) (hl : byteN s (a + i) < 128) :
    getFrom s a (f + 1) i u = if byteN s (a + i) = 0 ∧ 0 < i then (0, 0, 3) else (u + byteN s (a + i) % 128 * 2 ^ (7 * i), a + i + 1, 0) := by
  by_cases h0 : byteN s (a + i) = 0 ∧ 0 < i
  · rw [from_zero h h9 h0, if_pos h0]
  · rw [from_last h h9 hl h0, if_neg h0]
end ways
end Go.Proofs.YtkpjdmmgdmbmnaaDoor.Mg

/-
  Plain facts: a number is got back from its bytes; of bytes that end too early nothing is got. No program is named here.
-/
namespace Go.Proofs.YtkpjdmmgdmbmnaaDoor.Mn
open Mb Mg

theorem mk_size (l : List UInt8) : (⟨l.toArray⟩ : ByteArray).size = l.length := by simp [ByteArray.size]
theorem drop_cons {L r : List UInt8} {k : Nat} {c : UInt8} (h : L.drop k = c :: r) : k < (⟨L.toArray⟩ : ByteArray).size ∧ byteN ⟨L.toArray⟩ k = c.toNat ∧ L.drop (k + 1) = r := by
  have hk : k < L.length := by
    rcases Nat.lt_or_ge k L.length with h' | h'
    · exact h'
    · rw [List.drop_eq_nil_of_le h'] at h; simp at h
  have hs : k < (⟨L.toArray⟩ : ByteArray).size := by rw [mk_size]; exact hk
  rw [List.drop_eq_getElem_cons hk] at h
  simp only [List.cons.injEq] at h
  refine ⟨hs, ?_, h.2⟩
  rw [byteN_eq hs]
  have : (⟨L.toArray⟩ : ByteArray)[k] = L[k] := rfl
  rw [this, h.1]
theorem drop_nil {L : List UInt8} {k : Nat} (h : L.drop k = []) : ¬ k < (⟨L.toArray⟩ : ByteArray).size := by
  rw [mk_size]
  have := List.drop_eq_nil_iff.1 h
  omega
theorem toNat_small {v : Nat} (h : v < 128) : (UInt8.ofNat v).toNat = v := by simp [UInt8.toNat_ofNat']; omega
theorem toNat_great (v : Nat) : (UInt8.ofNat (v % 128 + 128)).toNat = v % 128 + 128 := by simp [UInt8.toNat_ofNat']; omega
theorem great_pos {f v : Nat} (hv : v < 2 * 128 ^ f) (h : 128 ≤ v) : ∃ g, f = g + 1 := by
  cases f with
  | zero => omega
  | succ g => exact ⟨g, rfl⟩

theorem from_leb (L rest : List UInt8) (a : Nat) : ∀ (f i v u : Nat), f + i = 9 → v < 2 * 128 ^ f → (i = 0 ∨ 0 < v) → L.drop (a + i) = leb f v ++ rest →
    getFrom ⟨L.toArray⟩ a (f + 1) i u = (u + v * 2 ^ (7 * i), a + i + (leb f v).length, 0)
  | f, i, v, u, hf, hv, h0, hd => by
    by_cases h : v < 128
    · rw [leb_small f v h] at hd ⊢
      obtain ⟨hs, hb, _⟩ := drop_cons hd
      rw [toNat_small h] at hb
      rw [from_last hs (by rw [hb]; intro hh; have : f = 0 := by omega
                           subst this; omega) (by omega) (by omega), hb, Nat.mod_eq_of_lt h]
      rfl
    · obtain ⟨g, rfl⟩ := great_pos hv (by omega)
      rw [leb_great g v (by omega)] at hd ⊢
      obtain ⟨hs, hb, hr⟩ := drop_cons hd
      rw [toNat_great] at hb
      rw [from_more hs (by rw [hb]; omega) (by omega), hb]
      have ih := from_leb L rest a g (i + 1) (v / 128) (u + (v % 128 + 128) % 128 * 2 ^ (7 * i)) (by omega) (pow_step g v hv) (.inr (by omega)) hr
      rw [ih, pow_succ7]
      refine Prod.ext ?_ (Prod.ext ?_ rfl)
      · show u + (v % 128 + 128) % 128 * 2 ^ (7 * i) + v / 128 * (128 * 2 ^ (7 * i)) = u + v * 2 ^ (7 * i)
        have e1 : (v % 128 + 128) % 128 = v % 128 := by omega
        rw [e1, ← Nat.mul_assoc, Nat.add_assoc, ← Nat.add_mul]
        congr 2
        omega
      · show a + (i + 1) + (leb g (v / 128)).length = a + i + (leb g (v / 128)).length.succ
        omega
theorem from_cut (L : List UInt8) (a : Nat) : ∀ (f i v u : Nat), f + i = 9 → v < 2 * 128 ^ f → L.drop (a + i) = (leb f v).dropLast →
    getFrom ⟨L.toArray⟩ a (f + 1) i u = (0, 0, 4)
  | f, i, v, u, hf, hv, hd => by
    by_cases h : v < 128
    · rw [leb_small f v h] at hd
      exact from_short (drop_nil hd)
    · obtain ⟨g, rfl⟩ := great_pos hv (by omega)
      rw [leb_great g v (by omega)] at hd
      have hne : leb g (v / 128) ≠ [] := fun e => by have := (leb_len g (v / 128)).1; rw [e] at this; simp at this
      rw [List.dropLast_cons_of_ne_nil hne] at hd
      obtain ⟨hs, hb, hr⟩ := drop_cons hd
      rw [toNat_great] at hb
      rw [from_more hs (by rw [hb]; omega) (by omega), hb]
      exact from_cut L a g (i + 1) (v / 128) _ (by omega) (pow_step g v hv) hr
theorem unfold_fold (n : Int) : unfoldI (foldU n) = n := by
  unfold unfoldI foldU
  split <;> split <;> omega
theorem get_put (n : Int) (pre post : List UInt8) (h1 : -9223372036854775808 ≤ n) (h2 : n ≤ 9223372036854775807) :
    getFrom ⟨(pre ++ putNum n ++ post).toArray⟩ pre.length 10 0 0 = (foldU n, pre.length + (putNum n).length, 0) := by
  have := from_leb (pre ++ putNum n ++ post) post pre.length 9 0 (foldU n) 0 rfl (foldU_lt n h1 h2) (.inl rfl) (by rw [Nat.add_zero, List.append_assoc, List.drop_left]; rfl)
  rw [this]
  simp [putNum]
theorem get_cut (n : Int) (h1 : -9223372036854775808 ≤ n) (h2 : n ≤ 9223372036854775807) :
    getFrom ⟨(putNum n).dropLast.toArray⟩ 0 10 0 0 = (0, 0, 4) :=
  from_cut (putNum n).dropLast 0 9 0 (foldU n) 0 rfl (foldU_lt n h1 h2) rfl
end Go.Proofs.YtkpjdmmgdmbmnaaDoor.Mn

/-
  Plain facts on SHA-256: numbers below 2^32, a block's numbers, rounds, the state, the text filled up. No program is named here.
-/
namespace Go.Proofs.YtkpjdmmgdmbmnaaDoor.Ms
abbrev B32 : Nat := 4294967296

def rotr (x k : Nat) : Nat := (x / 2 ^ k) ||| (x * 2 ^ (32 - k) % 4294967296)
def add (a b : Nat) : Nat := (a + b) % 4294967296
def inv (a : Nat) : Nat := 4294967295 - a
def low0 (x : Nat) : Nat := (rotr x 7 ^^^ rotr x 18) ^^^ (x / 8)
def low1 (x : Nat) : Nat := (rotr x 17 ^^^ rotr x 19) ^^^ (x / 1024)
def up0 (x : Nat) : Nat := (rotr x 2 ^^^ rotr x 13) ^^^ rotr x 22
def up1 (x : Nat) : Nat := (rotr x 6 ^^^ rotr x 11) ^^^ rotr x 25
def ch (e f g : Nat) : Nat := (e &&& f) ^^^ (inv e &&& g)
def maj (a b c : Nat) : Nat := ((a &&& b) ^^^ (a &&& c)) ^^^ (b &&& c)

theorem xor_lt {a b : Nat} (ha : a < 4294967296) (hb : b < 4294967296) : a ^^^ b < 4294967296 := Nat.xor_lt_two_pow (n := 32) ha hb
theorem and_lt {a b : Nat} (ha : a < 4294967296) : a &&& b < 4294967296 := Nat.lt_of_le_of_lt Nat.and_le_left ha
theorem or_lt {a b : Nat} (ha : a < 4294967296) (hb : b < 4294967296) : a ||| b < 4294967296 := Nat.or_lt_two_pow (n := 32) ha hb
theorem add_lt (a b : Nat) : add a b < 4294967296 := Nat.mod_lt _ (by omega)
theorem inv_lt (a : Nat) : inv a < 4294967296 := by unfold inv; omega
theorem div_lt {x : Nat} (k : Nat) (h : x < 4294967296) : x / k < 4294967296 := Nat.lt_of_le_of_lt (Nat.div_le_self _ _) h
theorem rotr_lt {x : Nat} (k : Nat) (h : x < 4294967296) : rotr x k < 4294967296 := or_lt (div_lt _ h) (Nat.mod_lt _ (by omega))
theorem low0_lt {x : Nat} (h : x < 4294967296) : low0 x < 4294967296 := xor_lt (xor_lt (rotr_lt _ h) (rotr_lt _ h)) (div_lt _ h)
theorem low1_lt {x : Nat} (h : x < 4294967296) : low1 x < 4294967296 := xor_lt (xor_lt (rotr_lt _ h) (rotr_lt _ h)) (div_lt _ h)
theorem up0_lt {x : Nat} (h : x < 4294967296) : up0 x < 4294967296 := xor_lt (xor_lt (rotr_lt _ h) (rotr_lt _ h)) (rotr_lt _ h)
theorem up1_lt {x : Nat} (h : x < 4294967296) : up1 x < 4294967296 := xor_lt (xor_lt (rotr_lt _ h) (rotr_lt _ h)) (rotr_lt _ h)
theorem ch_lt {e f g : Nat} (h : e < 4294967296) : ch e f g < 4294967296 := xor_lt (and_lt h) (and_lt (inv_lt e))
theorem maj_lt {a b c : Nat} (h : a < 4294967296) (hb : b < 4294967296) : maj a b c < 4294967296 := xor_lt (xor_lt (and_lt h) (and_lt h)) (and_lt hb)

/-- The four bytes of a block from place 4 i on, the highest first. -/
def byteAt (l : List UInt8) (i : Nat) : Nat := (l.getD i 0).toNat
theorem byteAt_lt (l : List UInt8) (i : Nat) : byteAt l i < 256 := (l.getD i 0).toNat_lt
def word (l : List UInt8) (i : Nat) : Nat := byteAt l (4 * i) * 16777216 + byteAt l (4 * i + 1) * 65536 + byteAt l (4 * i + 2) * 256 + byteAt l (4 * i + 3)
theorem word_lt (l : List UInt8) (i : Nat) : word l i < 4294967296 := by
  have h0 := byteAt_lt l (4 * i)
  have h1 := byteAt_lt l (4 * i + 1)
  have h2 := byteAt_lt l (4 * i + 2)
  have h3 := byteAt_lt l (4 * i + 3)
  unfold word; omega
/-- The number that the first j of those four bytes make. -/
def part (l : List UInt8) (i : Nat) : Nat → Nat
  | 0 => 0
  | j + 1 => part l i j * 256 + byteAt l (4 * i + j)
theorem part_lt (l : List UInt8) (i : Nat) : ∀ j, part l i j < 256 ^ j
  | 0 => by simp [part]
  | j + 1 => by
    have h := part_lt l i j
    have h2 := byteAt_lt l (4 * i + j)
    rw [Nat.pow_succ]; simp only [part]; omega
theorem part_four (l : List UInt8) (i : Nat) : part l i 4 = word l i := by simp only [part, word, Nat.add_zero]; omega
/-- The numbers w of a block. -/
def wAt (l : List UInt8) (i : Nat) : Nat :=
  if h : i < 16 then word l i
  else add (add (add (wAt l (i - 16)) (low0 (wAt l (i - 15)))) (wAt l (i - 7))) (low1 (wAt l (i - 2)))
theorem wAt_low (l : List UInt8) (i : Nat) (h : i < 16) : wAt l i = word l i := by rw [wAt]; simp [h]
theorem wAt_high (l : List UInt8) (n : Nat) : wAt l (n + 16) = add (add (add (wAt l n) (low0 (wAt l (n + 1)))) (wAt l (n + 9))) (low1 (wAt l (n + 14))) := by
  rw [wAt]
  simp only [show ¬ n + 16 < 16 by omega, dif_neg, not_false_eq_true]
  rw [show n + 16 - 16 = n by omega, show n + 16 - 15 = n + 1 by omega, show n + 16 - 7 = n + 9 by omega, show n + 16 - 2 = n + 14 by omega]
theorem wAt_lt (l : List UInt8) (i : Nat) : wAt l i < 4294967296 := by
  by_cases h : i < 16
  · rw [wAt_low l i h]; exact word_lt l i
  · obtain ⟨n, rfl⟩ : ∃ n, i = n + 16 := ⟨i - 16, by omega⟩
    rw [wAt_high]; exact add_lt _ _

structure St where
  (a b c d e f g h : Nat)
structure St.ok (s : St) : Prop where
  a : s.a < 4294967296
  b : s.b < 4294967296
  c : s.c < 4294967296
  d : s.d < 4294967296
  e : s.e < 4294967296
  f : s.f < 4294967296
  g : s.g < 4294967296
  h : s.h < 4294967296
def keys : List Nat := [
  0x428a2f98, 0x71374491, 0xb5c0fbcf, 0xe9b5dba5, 0x3956c25b, 0x59f111f1, 0x923f82a4, 0xab1c5ed5,
  0xd807aa98, 0x12835b01, 0x243185be, 0x550c7dc3, 0x72be5d74, 0x80deb1fe, 0x9bdc06a7, 0xc19bf174,
  0xe49b69c1, 0xefbe4786, 0x0fc19dc6, 0x240ca1cc, 0x2de92c6f, 0x4a7484aa, 0x5cb0a9dc, 0x76f988da,
  0x983e5152, 0xa831c66d, 0xb00327c8, 0xbf597fc7, 0xc6e00bf3, 0xd5a79147, 0x06ca6351, 0x14292967,
  0x27b70a85, 0x2e1b2138, 0x4d2c6dfc, 0x53380d13, 0x650a7354, 0x766a0abb, 0x81c2c92e, 0x92722c85,
  0xa2bfe8a1, 0xa81a664b, 0xc24b8b70, 0xc76c51a3, 0xd192e819, 0xd6990624, 0xf40e3585, 0x106aa070,
  0x19a4c116, 0x1e376c08, 0x2748774c, 0x34b0bcb5, 0x391c0cb3, 0x4ed8aa4a, 0x5b9cca4f, 0x682e6ff3,
  0x748f82ee, 0x78a5636f, 0x84c87814, 0x8cc70208, 0x90befffa, 0xa4506ceb, 0xbef9a3f7, 0xc67178f2]
def key (i : Nat) : Nat := keys.getD i 0
theorem keys_length : keys.length = 64 := by decide +kernel
theorem keys_all : ∀ k ∈ keys, k < 4294967296 := by decide +kernel
theorem key_lt (i : Nat) : key i < 4294967296 := by
  unfold key
  by_cases h : i < keys.length
  · have e : keys.getD i 0 = keys[i] := by simp [List.getD, h]
    rw [e]; exact keys_all _ (List.getElem_mem h)
  · have e : keys.getD i 0 = 0 := by simp [List.getD, List.getElem?_eq_none (Nat.le_of_not_lt h)]
    rw [e]; omega
def t1 (s : St) (k w : Nat) : Nat := add (add (add (add s.h (up1 s.e)) (ch s.e s.f s.g)) k) w
def t2 (s : St) : Nat := add (up0 s.a) (maj s.a s.b s.c)
def rnd (s : St) (k w : Nat) : St := ⟨add (t1 s k w) (t2 s), s.a, s.b, s.c, add s.d (t1 s k w), s.e, s.f, s.g⟩
theorem rnd_ok {s : St} (k w : Nat) (h : s.ok) : (rnd s k w).ok := ⟨add_lt _ _, h.a, h.b, h.c, add_lt _ _, h.e, h.f, h.g⟩
def rnds (s : St) (l : List UInt8) : Nat → St
  | 0 => s
  | i + 1 => rnd (rnds s l i) (key i) (wAt l i)
theorem rnds_ok {s : St} (l : List UInt8) (h : s.ok) : ∀ i, (rnds s l i).ok
  | 0 => h
  | i + 1 => rnd_ok _ _ (rnds_ok l h i)
def plus (s t : St) : St := ⟨add s.a t.a, add s.b t.b, add s.c t.c, add s.d t.d, add s.e t.e, add s.f t.f, add s.g t.g, add s.h t.h⟩
theorem plus_ok (s t : St) : (plus s t).ok := ⟨add_lt _ _, add_lt _ _, add_lt _ _, add_lt _ _, add_lt _ _, add_lt _ _, add_lt _ _, add_lt _ _⟩
/-- One block more. -/
def blk (s : St) (l : List UInt8) : St := plus s (rnds s l 64)
def start : St := ⟨0x6a09e667, 0xbb67ae85, 0x3c6ef372, 0xa54ff53a, 0x510e527f, 0x9b05688c, 0x1f83d9ab, 0x5be0cd19⟩
theorem start_ok : start.ok := ⟨by decide, by decide, by decide, by decide, by decide, by decide, by decide, by decide⟩
def states (p : List UInt8) : Nat → St
  | 0 => start
  | k + 1 => blk (states p k) ((p.drop (64 * k)).take 64)
theorem states_ok (p : List UInt8) : ∀ k, (states p k).ok
  | 0 => start_ok
  | _ + 1 => plus_ok _ _
def St.list (s : St) : List Nat := [s.a, s.b, s.c, s.d, s.e, s.f, s.g, s.h]
def be4 (n : Nat) : List UInt8 := [UInt8.ofNat (n / 16777216), UInt8.ofNat (n / 65536), UInt8.ofNat (n / 256), UInt8.ofNat n]
def bytes (s : St) : List UInt8 := s.list.flatMap be4
theorem bytes_length (s : St) : (bytes s).length = 32 := rfl
/-- The text filled up to whole blocks. -/
def blocks (n : Nat) : Nat := (n + 8) / 64 + 1
def be8 (n : Nat) : List UInt8 := [UInt8.ofNat (n / 72057594037927936), UInt8.ofNat (n / 281474976710656), UInt8.ofNat (n / 1099511627776), UInt8.ofNat (n / 4294967296), UInt8.ofNat (n / 16777216), UInt8.ofNat (n / 65536), UInt8.ofNat (n / 256), UInt8.ofNat n]
def pad (l : List UInt8) : List UInt8 := l ++ 128 :: (List.replicate (64 * blocks l.length - 9 - l.length) 0 ++ be8 (8 * l.length))
theorem blocks_room (n : Nat) : n + 9 ≤ 64 * blocks n := by unfold blocks; omega
theorem pad_length (l : List UInt8) : (pad l).length = 64 * blocks l.length := by
  have := blocks_room l.length
  simp only [pad, List.length_append, List.length_cons, List.length_replicate, be8, List.length_nil]; omega
def digest (l : List UInt8) : List UInt8 := bytes (states (pad l) (blocks l.length))
theorem digest_length (l : List UInt8) : (digest l).length = 32 := rfl
/-- A key filled up to a block, each byte put together with a mask. -/
def full (l : List UInt8) : List UInt8 := l ++ List.replicate (64 - l.length) 0
def mask (l : List UInt8) (m : UInt8) : List UInt8 := (full l).map (· ^^^ m)
theorem full_length (l : List UInt8) (h : l.length ≤ 64) : (full l).length = 64 := by simp [full]; omega
theorem mask_length (l : List UInt8) (m : UInt8) (h : l.length ≤ 64) : (mask l m).length = 64 := by simp [mask, full_length l h]
def keyOf (k : List UInt8) : List UInt8 := if 64 < k.length then digest k else k
theorem keyOf_le (k : List UInt8) : (keyOf k).length ≤ 64 := by
  unfold keyOf; split
  · rw [digest_length]; omega
  · omega
def mac (k l : List UInt8) : List UInt8 := digest (mask (keyOf k) 92 ++ digest (mask (keyOf k) 54 ++ l))
theorem mac_length (k l : List UInt8) : (mac k l).length = 32 := rfl
def salt : List UInt8 := [115, 97, 108, 116]
def stretch (p : List UInt8) : Nat → List UInt8
  | 0 => salt
  | n + 1 => mac p (stretch p n)
end Go.Proofs.YtkpjdmmgdmbmnaaDoor.Ms

/-
  The bytes of a text that is filled up to whole blocks, place by place. No program is named here.
-/
namespace Go.Proofs.YtkpjdmmgdmbmnaaDoor.Ms

theorem byteAt_eq (l : List UInt8) (j : Nat) (h : j < l.length) : byteAt l j = l[j].toNat := by simp [byteAt, List.getD, h]
theorem byteAt_left (l r : List UInt8) (j : Nat) (h : j < l.length) : byteAt (l ++ r) j = byteAt l j := by
  simp [byteAt, List.getD, List.getElem?_append_left h]
theorem byteAt_right (l r : List UInt8) (j : Nat) : byteAt (l ++ r) (l.length + j) = byteAt r j := by
  simp [byteAt, List.getD, List.getElem?_append_right]
theorem byteAt_zeros (n j : Nat) : byteAt (List.replicate n 0) j = 0 := by
  by_cases h : j < n
  · simp [byteAt, List.getD, h]
  · simp [byteAt, List.getD, h]
theorem byteAt_be8 (n i : Nat) (h : i < 8) : byteAt (be8 n) (7 - i) = n / 256 ^ i % 256 := by
  match i, h with
  | 0, _ => simp [byteAt, be8]
  | 1, _ => simp [byteAt, be8]
  | 2, _ => simp [byteAt, be8]
  | 3, _ => simp [byteAt, be8]
  | 4, _ => simp [byteAt, be8]
  | 5, _ => simp [byteAt, be8]
  | 6, _ => simp [byteAt, be8]
  | 7, _ => simp [byteAt, be8]
theorem pad_low (l : List UInt8) (j : Nat) (h : j < l.length) : byteAt (pad l) j = byteAt l j := byteAt_left _ _ _ h
theorem pad_mark (l : List UInt8) : byteAt (pad l) l.length = 128 := by
  have := byteAt_right l (128 :: (List.replicate (64 * blocks l.length - 9 - l.length) 0 ++ be8 (8 * l.length))) 0
  rw [Nat.add_zero] at this
  exact this
theorem byteAt_cons (x : UInt8) (l : List UInt8) (j : Nat) : byteAt (x :: l) (j + 1) = byteAt l j := by simp [byteAt]
theorem pad_zero (l : List UInt8) (j : Nat) (h1 : l.length < j) (h2 : j < 64 * blocks l.length - 8) : byteAt (pad l) j = 0 := by
  obtain ⟨m, rfl⟩ : ∃ m, j = l.length + (m + 1) := ⟨j - l.length - 1, by omega⟩
  unfold pad
  rw [byteAt_right, byteAt_cons, byteAt_left _ _ _ (by simp; omega), byteAt_zeros]
theorem pad_len (l : List UInt8) (i : Nat) (h : i < 8) : byteAt (pad l) (64 * blocks l.length - 1 - i) = 8 * l.length / 256 ^ i % 256 := by
  have hr := blocks_room l.length
  obtain ⟨m, hm⟩ : ∃ m, 64 * blocks l.length - 9 - l.length = m := ⟨_, rfl⟩
  rw [show 64 * blocks l.length - 1 - i = l.length + ((m + (7 - i)) + 1) by omega]
  unfold pad
  rw [hm, byteAt_right, byteAt_cons]
  have := byteAt_right (List.replicate m 0) (be8 (8 * l.length)) (7 - i)
  rw [List.length_replicate] at this
  rw [this, byteAt_be8 _ i h]
/-- A list of bytes by its places. -/
theorem byteAt_drop (l : List UInt8) (k j : Nat) : byteAt (l.drop k) j = byteAt l (k + j) := by simp [byteAt, List.getD]
theorem byteAt_take (l : List UInt8) (k j : Nat) (h : j < k) : byteAt (l.take k) j = byteAt l j := by simp [byteAt, List.getD, h]
end Go.Proofs.YtkpjdmmgdmbmnaaDoor.Ms

/-
  The laws' marks, as texts of numbers.
-/
namespace Go.Proofs.YtkpjdmmgdmbmnaaDoor.Mk
def digs : Nat → Nat → List UInt8 → List UInt8
  | 0, _, acc => acc
  | f + 1, k, acc => if k = 0 then acc else digs f (k / 10) (UInt8.ofNat (48 + k % 10) :: acc)
/-- The mark of the number k. -/
def markOf (k : Nat) : ByteArray := ⟨((109 : UInt8) :: digs 10 k []).toArray⟩
theorem digs_step (f k : Nat) (acc : List UInt8) (hk : 0 < k) : digs (f + 1) k acc = digs f (k / 10) (UInt8.ofNat (48 + k % 10) :: acc) := by
  simp [digs]; omega
theorem digs_zero (f : Nat) (acc : List UInt8) : digs f 0 acc = acc := by cases f <;> simp [digs]
/-- Marks from k on, n of them. -/
def marksS (k : Nat) : Nat → List ByteArray
  | 0 => []
  | n + 1 => markOf k :: marksS (k + 1) n
def marksP (k : Nat) : Nat → List (Int × ByteArray)
  | 0 => []
  | n + 1 => ((k : Int), markOf (k + 1)) :: marksP (k + 2) n
theorem marksS_length : ∀ (n k : Nat), (marksS k n).length = n
  | 0, _ => rfl
  | n + 1, k => by simp [marksS, marksS_length n]
theorem marksP_length : ∀ (n k : Nat), (marksP k n).length = n
  | 0, _ => rfl
  | n + 1, k => by simp [marksP, marksP_length n]
theorem marksS_at : ∀ (n k i : Nat), i < n → (marksS k n)[i]? = some (markOf (k + i))
  | 0, _, _, h => by omega
  | n + 1, k, 0, _ => by simp [marksS]
  | n + 1, k, i + 1, h => by
    simp only [marksS, List.getElem?_cons_succ]
    rw [marksS_at n (k + 1) i (by omega), show k + 1 + i = k + (i + 1) by omega]
theorem marksP_at : ∀ (n k i : Nat), i < n → (marksP k n)[i]? = some (((k + i * 2 : Nat) : Int), markOf (k + i * 2 + 1))
  | 0, _, _, h => by omega
  | n + 1, k, 0, _ => by simp [marksP]
  | n + 1, k, i + 1, h => by
    simp only [marksP, List.getElem?_cons_succ]
    rw [marksP_at n (k + 2) i (by omega), show k + 2 + i * 2 = k + (i + 1) * 2 by omega]
end Go.Proofs.YtkpjdmmgdmbmnaaDoor.Mk

/-
  Powers modulo a number, and the numbers of a signature.
-/
namespace Go.Proofs.YtkpjdmmgdmbmnaaDoor.Sg
theorem start (a n m : Nat) : (1 % m) * (a % m) ^ n % m = a ^ n % m := by
  rw [Nat.mul_mod, Nat.mod_mod, Nat.pow_mod, Nat.mod_mod, ← Nat.pow_mod, ← Nat.mul_mod, Nat.one_mul]
theorem square (a m h : Nat) : (a * a % m) ^ h % m = a ^ (2 * h) % m := by
  rw [← Nat.pow_mod, Nat.pow_mul, Nat.pow_two]
/-- A round of the loop at an odd number. -/
theorem odd (o a n m : Nat) (h : n % 2 = 1) : (o * a % m) * (a * a % m) ^ (n / 2) % m = o * a ^ n % m := by
  rw [Nat.mul_mod, Nat.mod_mod, square, ← Nat.mul_mod, Nat.mul_assoc, ← Nat.pow_succ']
  congr 3; omega
/-- A round of the loop at an even number. -/
theorem even (o a n m : Nat) (h : n % 2 = 0) : o * (a * a % m) ^ (n / 2) % m = o * a ^ n % m := by
  rw [Nat.mul_mod, square, ← Nat.mul_mod]
  congr 3; omega
theorem stop (o a m : Nat) (h : o < m) : o * a ^ 0 % m = o := by
  rw [Nat.pow_zero, Nat.mul_one, Nat.mod_eq_of_lt h]
/-- One more to the power is once more the product. -/
theorem more (a n m : Nat) : a ^ (n + 1) % m = (a ^ n % m) * (a % m) % m := by
  rw [Nat.pow_succ, Nat.mul_mod]
theorem over (g p q : Nat) (h : g ^ q % p = 1) (t : Nat) : g ^ (q * t) % p = 1 % p := by
  rw [Nat.pow_mul, Nat.pow_mod, h, Nat.one_pow]
/-- The two powers of a right signature make the power that it was bound by. -/
theorem meet (g p q k e x : Nat) (h : g ^ q % p = 1) (he : e < q) :
    (g ^ ((k + e * x) % q) % p) * ((g ^ x % p) ^ (q - e) % p) % p = g ^ k % p := by
  rw [← Nat.pow_mod, ← Nat.mul_mod, ← Nat.pow_mul, ← Nat.pow_add]
  have e1 : (k + e * x) % q + x * (q - e) + q * ((k + e * x) / q) = k + q * x := by
    have hd := Nat.mod_add_div (k + e * x) q
    have hm : x * (q - e) + e * x = q * x := by
      rw [Nat.mul_comm e x, ← Nat.mul_add, Nat.sub_add_cancel (Nat.le_of_lt he), Nat.mul_comm]
    omega
  have e2 : g ^ ((k + e * x) % q + x * (q - e) + q * ((k + e * x) / q)) % p = g ^ (k + q * x) % p := by rw [e1]
  rw [Nat.pow_add, Nat.mul_mod, over g p q h, ← Nat.mul_mod, Nat.mul_one, Nat.pow_add g k, Nat.mul_mod (g ^ k), over g p q h, ← Nat.mul_mod, Nat.mul_one] at e2
  exact e2
/-- What a public is: GroupQ as a power makes 1 of it. -/
theorem public_one (g p q x : Nat) (h : g ^ q % p = 1) (hp : 1 < p) : (g ^ x % p) ^ q % p = 1 := by
  rw [← Nat.pow_mod, ← Nat.pow_mul, Nat.mul_comm, over g p q h, Nat.mod_eq_of_lt hp]
theorem public_pos (g p q x : Nat) (h : g ^ q % p = 1) (hp : 1 < p) (hq : 0 < q) : 0 < g ^ x % p := by
  rcases Nat.eq_zero_or_pos (g ^ x % p) with h0 | h0
  · have := public_one g p q x h hp
    rw [h0, Nat.zero_pow hq, Nat.zero_mod] at this
    omega
  · exact h0
/-- The group of the document. -/
theorem group : 4 ^ 5003 % 10007 = 1 := by decide +kernel
end Go.Proofs.YtkpjdmmgdmbmnaaDoor.Sg

/-
  Signing, on numbers and lists of bytes: powers, the number of a text, a public, a signature, and what is verified.
-/
namespace Go.Proofs.YtkpjdmmgdmbmnaaDoor.Sg
/-- A power, modulo a number. -/
def pw (a n m : Nat) : Nat := a ^ n % m
theorem pw_lt (a n m : Nat) (h : 1 ≤ m) : pw a n m < m := Nat.mod_lt _ h
/-- The number of the first six bytes, the highest first. -/
def six (d : List UInt8) (k : Nat) : Nat := (d.take k).foldl (fun n b => 256 * n + b.toNat) 0
theorem six_zero (d : List UInt8) : six d 0 = 0 := rfl
theorem six_succ (d : List UInt8) (k : Nat) (h : k < d.length) : six d (k + 1) = 256 * six d k + (d[k]'h).toNat := by
  unfold six
  rw [List.take_succ_eq_append_getElem h, List.foldl_append]; rfl
theorem six_lt (d : List UInt8) : ∀ k, k ≤ d.length → six d k < 256 ^ k
  | 0, _ => by simp [six]
  | k + 1, h => by
    have ih := six_lt d k (by omega)
    rw [six_succ d k (by omega), Nat.pow_succ]
    have := (d[k]'(by omega)).toNat_lt
    omega
/-- The number of a text, modulo a number. -/
def hash (t : List UInt8) (m : Nat) : Nat := six (Ms.digest t) 6 % m
theorem hash_lt (t : List UInt8) (m : Nat) (h : 1 ≤ m) : hash t m < m := Nat.mod_lt _ h
/-- What a signature is bound by. -/
def bound (r y : Nat) (t : List UInt8) : Nat := hash (Mb.putNum r ++ Mb.putNum y ++ t) 5003
theorem bound_lt (r y : Nat) (t : List UInt8) : bound r y t < 5003 := hash_lt _ _ (by omega)
def pub (x : Nat) : Nat := pw 4 x 10007
theorem pub_lt (x : Nat) : pub x < 10007 := pw_lt _ _ _ (by omega)
def kOf (x : Nat) (t : List UInt8) : Nat := hash (Mb.putNum x ++ t) 5002 + 1
theorem kOf_le (x : Nat) (t : List UInt8) : kOf x t ≤ 5002 := by
  have := hash_lt (Mb.putNum x ++ t) 5002 (by omega)
  unfold kOf; omega
def sigE (x : Nat) (t : List UInt8) : Nat := bound (pw 4 (kOf x t) 10007) (pub x) t
theorem sigE_lt (x : Nat) (t : List UInt8) : sigE x t < 5003 := bound_lt _ _ _
def sigS (x : Nat) (t : List UInt8) : Nat := (kOf x t + sigE x t * x) % 5003
theorem sigS_lt (x : Nat) (t : List UInt8) : sigS x t < 5003 := Nat.mod_lt _ (by omega)
/-- The power that the two numbers of a signature make. -/
def back (y e s : Nat) : Nat := pw 4 s 10007 * pw y (5003 - e) 10007 % 10007
theorem back_lt (y e s : Nat) : back y e s < 10007 := Nat.mod_lt _ (by omega)
/-- The same, of any group. -/
theorem pw_meet (g p q k e x : Nat) (h : pw g q p = 1) (he : e < q) : pw g ((k + e * x) % q) p * pw (pw g x p) (q - e) p % p = pw g k p := meet g p q k e x h he
theorem pw_one (g p q x : Nat) (h : pw g q p = 1) (hp : 1 < p) : pw (pw g x p) q p = 1 := public_one g p q x h hp
theorem pw_pos (g p q x : Nat) (h : pw g q p = 1) (hp : 1 < p) (hq : 0 < q) : 0 < pw g x p := public_pos g p q x h hp hq
theorem pw_group : pw 4 5003 10007 = 1 := by decide +kernel
theorem back_sig (x : Nat) (t : List UInt8) : back (pub x) (sigE x t) (sigS x t) = pw 4 (kOf x t) 10007 := by
  have he := sigE_lt x t
  unfold back sigS pub
  generalize sigE x t = e at *
  exact pw_meet 4 10007 5003 (kOf x t) e x pw_group he
theorem bound_sig (x : Nat) (t : List UInt8) : bound (back (pub x) (sigE x t) (sigS x t)) (pub x) t = sigE x t := by
  rw [back_sig]; rfl
theorem pub_one (x : Nat) : pw (pub x) 5003 10007 = 1 := by unfold pub; exact pw_one 4 10007 5003 x pw_group (by omega)
theorem pub_pos (x : Nat) : 1 ≤ pub x := by unfold pub; exact pw_pos 4 10007 5003 x pw_group (by omega) (by omega)
theorem pw_more (a n m : Nat) : pw a (n + 1) m = pw a n m * (a % m) % m := more a n m

/-- What the functions of the chapter answer, at whatever argument. -/
def powR (a n m : Int) : Nat := if 0 ≤ a ∧ a ≤ 1000000 ∧ 0 ≤ n ∧ n ≤ 1000000000 ∧ 1 ≤ m ∧ m ≤ 1000000 then pw a.toNat n.toNat m.toNat else 0
def hashR (t : List UInt8) (m : Int) : Nat := if t.length ≤ 8000 ∧ 1 ≤ m ∧ m ≤ 1000000 then hash t m.toNat else 0
def pubR (x : Int) : Nat := if 1 ≤ x ∧ x ≤ 5002 then pub x.toNat else 0
def signR (x : Int) (t : List UInt8) : Nat × Nat := if t.length ≤ 8000 ∧ 1 ≤ x ∧ x ≤ 5002 then (sigE x.toNat t, sigS x.toNat t) else (0, 0)
def rightR (e s : Int) : Bool := decide (0 ≤ e ∧ e ≤ 5002 ∧ 0 ≤ s ∧ s ≤ 5002)
def verR (y : Int) (t : List UInt8) (e s : Int) : Bool :=
  decide (t.length ≤ 8000 ∧ 1 ≤ y ∧ y ≤ 10006 ∧ pw y.toNat 5003 10007 = 1 ∧ (0 ≤ e ∧ e ≤ 5002 ∧ 0 ≤ s ∧ s ≤ 5002) ∧ bound (back y.toNat e.toNat s.toNat) y.toNat t = e.toNat)
theorem signR_yes {x : Int} {t : List UInt8} (ht : t.length ≤ 8000) (h1 : 1 ≤ x) (h2 : x ≤ 5002) : signR x t = (sigE x.toNat t, sigS x.toNat t) := by
  unfold signR; rw [if_pos ⟨ht, h1, h2⟩]
theorem verR_yes {y e s : Nat} {t : List UInt8} (ht : t.length ≤ 8000) (y1 : 1 ≤ y) (y2 : y ≤ 10006) (hp : pw y 5003 10007 = 1) (he : e ≤ 5002) (hs : s ≤ 5002) (hb : bound (back y e s) y t = e) :
    verR y t e s = true := by
  unfold verR
  exact decide_eq_true ⟨ht, by omega, by omega, hp, ⟨by omega, by omega, by omega, by omega⟩, hb⟩
/-- What is signed by a secret is verified by its public. -/
theorem verR_sign {x : Int} {t : List UInt8} (ht : t.length ≤ 8000) (h1 : 1 ≤ x) (h2 : x ≤ 5002) : verR (pubR x) t (signR x t).1 (signR x t).2 = true := by
  have hp : pubR x = pub x.toNat := by unfold pubR; rw [if_pos ⟨h1, h2⟩]
  rw [signR_yes ht h1 h2, hp]
  exact verR_yes ht (pub_pos _) (Nat.le_of_lt_succ (pub_lt _)) (pub_one _) (Nat.le_of_lt_succ (sigE_lt _ _)) (Nat.le_of_lt_succ (sigS_lt _ _)) (bound_sig _ _)
theorem rightR_sign (x : Int) (t : List UInt8) : rightR (signR x t).1 (signR x t).2 = true := by
  unfold rightR
  rw [decide_eq_true_iff]
  unfold signR
  split
  · have a3 := sigE_lt x.toNat t
    have a4 := sigS_lt x.toNat t
    exact ⟨by omega, by omega, by omega, by omega⟩
  · exact ⟨by omega, by omega, by omega, by omega⟩
/-- Powers go over sums. -/
theorem powR_more {a n m : Int} (a0 : 0 ≤ a) (a1 : a ≤ 1000000) (n0 : 0 ≤ n) (n1 : n ≤ 9999) (m0 : 1 ≤ m) (m1 : m ≤ 1000000) :
    (powR a (n + 1) m : Int) = (powR a n m : Int) * (a % m) % m := by
  unfold powR
  rw [if_pos ⟨a0, a1, by omega, by omega, m0, m1⟩, if_pos ⟨a0, a1, n0, by omega, m0, m1⟩]
  obtain ⟨a', rfl⟩ := Int.eq_ofNat_of_zero_le a0
  obtain ⟨n', rfl⟩ := Int.eq_ofNat_of_zero_le n0
  obtain ⟨m', rfl⟩ := Int.eq_ofNat_of_zero_le (show 0 ≤ m by omega)
  have : ((n' : Int) + 1).toNat = n' + 1 := by omega
  rw [this]
  simp only [Int.toNat_natCast]
  rw [pw_more, Int.natCast_emod, Int.natCast_mul, Int.natCast_emod]
end Go.Proofs.YtkpjdmmgdmbmnaaDoor.Sg

/-
  Shares over 256 elements, on numbers: products, sums, what is joined.
-/
namespace Go.Proofs.YtkpjdmmgdmbmnaaDoor.Gf
/-- Twice an element. -/
def xt (a : Nat) : Nat := if 255 < 2 * a then (2 * a) ^^^ 285 else 2 * a
/-- So many rounds of a product. -/
def go : Nat → Nat → Nat → Nat → Nat
  | 0, _, _, n => n
  | k + 1, a, b, n => go k (xt a) (b / 2) (if b % 2 = 1 then n ^^^ a else n)
def mul (a b : Nat) : Nat := go 8 a b 0
theorem go_zero : ∀ k a n, go k a 0 n = n
  | 0, _, _ => rfl
  | k + 1, a, n => by unfold go; rw [if_neg (by decide)]; exact go_zero k _ n
theorem xt_lt : ∀ a, a < 256 → xt a < 256 := by decide +kernel
theorem xor_lt {a b : Nat} (ha : a < 256) (hb : b < 256) : a ^^^ b < 256 := Nat.xor_lt_two_pow (n := 8) ha hb
theorem go_lt : ∀ k a b n, a < 256 → n < 256 → go k a b n < 256
  | 0, _, _, _, _, hn => hn
  | k + 1, a, b, n, ha, hn => by
    unfold go
    refine go_lt k _ _ _ (xt_lt a ha) ?_
    split
    · exact xor_lt hn ha
    · exact hn
theorem mul_lt {a : Nat} (b : Nat) (ha : a < 256) : mul a b < 256 := go_lt 8 a b 0 ha (by decide)
theorem xt_xor : ∀ a, a < 256 → ∀ b, b < 256 → xt (a ^^^ b) = xt a ^^^ xt b := by decide +kernel
theorem swap4 (a b c d : Nat) : (a ^^^ b) ^^^ (c ^^^ d) = (a ^^^ c) ^^^ (b ^^^ d) := by
  rw [Nat.xor_assoc, Nat.xor_assoc, ← Nat.xor_assoc b c d, Nat.xor_comm b c, Nat.xor_assoc c b d]
theorem xor_half (b c : Nat) : (b ^^^ c) / 2 = b / 2 ^^^ c / 2 := by
  have := Nat.xor_div_two_pow (a := b) (b := c) (n := 1)
  simpa using this
theorem xor_odd (b c : Nat) : ((b ^^^ c) % 2 = 1) ↔ ¬ (b % 2 = 1 ↔ c % 2 = 1) := by
  have := Nat.xor_mod_two_pow (a := b) (b := c) (n := 1)
  rw [Nat.pow_one] at this
  rw [this]
  rcases Nat.mod_two_eq_zero_or_one b with h | h <;> rcases Nat.mod_two_eq_zero_or_one c with k | k <;> rw [h, k] <;> decide
/-- A product of a sum, in the second place. -/
theorem go_right : ∀ k a b c n m, go k a (b ^^^ c) (n ^^^ m) = go k a b n ^^^ go k a c m
  | 0, _, _, _, _, _ => rfl
  | k + 1, a, b, c, n, m => by
    unfold go
    rw [xor_half]
    have e : (if (b ^^^ c) % 2 = 1 then n ^^^ m ^^^ a else n ^^^ m) = (if b % 2 = 1 then n ^^^ a else n) ^^^ (if c % 2 = 1 then m ^^^ a else m) := by
      by_cases hb : b % 2 = 1 <;> by_cases hc : c % 2 = 1
      · rw [if_neg (by rw [xor_odd]; simp [hb, hc]), if_pos hb, if_pos hc, swap4, Nat.xor_self, Nat.xor_zero]
      · rw [if_pos (by rw [xor_odd]; simp [hb, hc]), if_pos hb, if_neg hc, Nat.xor_assoc, Nat.xor_assoc, Nat.xor_comm m a]
      · rw [if_pos (by rw [xor_odd]; simp [hb, hc]), if_neg hb, if_pos hc, Nat.xor_assoc]
      · rw [if_neg (by rw [xor_odd]; simp [hb, hc]), if_neg hb, if_neg hc]
    rw [e]
    exact go_right k (xt a) (b / 2) (c / 2) _ _
theorem mul_right (a b c : Nat) : mul a (b ^^^ c) = mul a b ^^^ mul a c := go_right 8 a b c 0 0
theorem go_left : ∀ k a d b n m, a < 256 → d < 256 → go k (a ^^^ d) b (n ^^^ m) = go k a b n ^^^ go k d b m
  | 0, _, _, _, _, _, _, _ => rfl
  | k + 1, a, d, b, n, m, ha, hd => by
    unfold go
    rw [xt_xor a ha d hd]
    have e : (if b % 2 = 1 then n ^^^ m ^^^ (a ^^^ d) else n ^^^ m) = (if b % 2 = 1 then n ^^^ a else n) ^^^ (if b % 2 = 1 then m ^^^ d else m) := by
      by_cases hb : b % 2 = 1
      · rw [if_pos hb, if_pos hb, if_pos hb, swap4]
      · rw [if_neg hb, if_neg hb, if_neg hb]
    rw [e]
    exact go_left k _ _ _ _ _ (xt_lt a ha) (xt_lt d hd)
/-- In the first place. -/
theorem mul_left {a d : Nat} (b : Nat) (ha : a < 256) (hd : d < 256) : mul (a ^^^ d) b = mul a b ^^^ mul d b := go_left 8 a d b 0 0 ha hd
theorem mul_zero_right (a : Nat) : mul a 0 = 0 := go_zero 8 a 0
theorem mul_zero_left (b : Nat) : mul 0 b = 0 := by
  have h := mul_left (a := 0) (d := 0) b (by decide) (by decide)
  rw [Nat.xor_self, Nat.xor_self] at h
  exact h
/-- The number by which an element makes 1: it to the power of 254. -/
def invGo : Nat → Nat → Nat → Nat
  | 0, _, n => n
  | k + 1, p, n => invGo k (mul p p) (mul n (mul p p))
def inv (a : Nat) : Nat := invGo 7 a 1
theorem mul_inv : ∀ a, a < 256 → 1 ≤ a → mul a (inv a) = 1 := by decide +kernel
theorem inv_lt : ∀ a, a < 256 → inv a < 256 := by decide +kernel

/-- A sum over a list. -/
def sum : List Nat → Nat
  | [] => 0
  | x :: r => x ^^^ sum r
/-- A sum of bits. -/
def bits (m : Nat) : List Nat := ((List.range 8).filter fun t => m / 2 ^ t % 2 = 1).map fun t => 2 ^ t
theorem bits_sum : ∀ m, m < 256 → sum (bits m) = m := by decide +kernel
/-- What goes over sums and is 0 at each bit is 0. -/
theorem zero_of_bits (g : Nat → Nat) (h0 : g 0 = 0) (hx : ∀ a b, a < 256 → b < 256 → g (a ^^^ b) = g a ^^^ g b) (hb : ∀ t, t < 8 → g (2 ^ t) = 0) (m : Nat) (hm : m < 256) : g m = 0 := by
  have key : ∀ l : List Nat, (∀ t ∈ l, t < 8) → g (sum (l.map fun t => 2 ^ t)) = 0 ∧ sum (l.map fun t => 2 ^ t) < 256 := by
    intro l
    induction l with
    | nil => intro _; exact ⟨h0, by decide⟩
    | cons t r ih =>
      intro hl
      have ht := hl t (List.mem_cons_self ..)
      obtain ⟨i1, i2⟩ := ih (fun q hq => hl q (List.mem_cons_of_mem _ hq))
      have hp : 2 ^ t < 256 := Nat.pow_lt_pow_right (a := 2) (n := 8) (by decide) ht
      simp only [List.map_cons, sum]
      exact ⟨by rw [hx _ _ hp i2, hb t ht, i1]; rfl, xor_lt hp i2⟩
  have := (key ((List.range 8).filter fun t => m / 2 ^ t % 2 = 1) (fun t ht => List.mem_range.1 (List.mem_filter.1 ht).1)).1
  rw [show sum (((List.range 8).filter fun t => m / 2 ^ t % 2 = 1).map fun t => 2 ^ t) = m from bits_sum m hm] at this
  exact this

/-- The weight of number i among so many places, as far as place k. -/
def wUp (xs : List Nat) (i : Nat) : Nat → Nat
  | 0 => 1
  | k + 1 => if k = i then wUp xs i k else mul (wUp xs i k) (mul (xs.getD k 0) (inv (xs.getD i 0 ^^^ xs.getD k 0)))
/-- What is joined of bytes by weights. -/
def jUp (ws : Nat → Nat) (d : Nat → Nat) : Nat → Nat
  | 0 => 0
  | i + 1 => jUp ws d i ^^^ mul (ws i) (d i)
def pX (x : Nat) : Nat → Nat
  | 0 => 1
  | j + 1 => mul (pX x j) x
/-- A share's byte, of so many masks. -/
def shB (s : Nat) (ms : Nat → Nat) (x : Nat) : Nat → Nat
  | 0 => s
  | j + 1 => shB s ms x j ^^^ mul (ms j) (pX x (j + 1))
theorem jUp_sum (ws d e : Nat → Nat) : ∀ k, jUp ws (fun i => d i ^^^ e i) k = jUp ws d k ^^^ jUp ws e k
  | 0 => by simp [jUp]
  | k + 1 => by simp only [jUp]; rw [jUp_sum ws d e k, mul_right, swap4]
theorem jUp_lt {ws : Nat → Nat} (hw : ∀ i, ws i < 256) (d : Nat → Nat) : ∀ k, jUp ws d k < 256
  | 0 => by simp [jUp]
  | k + 1 => xor_lt (jUp_lt hw d k) (mul_lt _ (hw k))
theorem jUp_zero (ws : Nat → Nat) : ∀ k, jUp ws (fun _ => 0) k = 0
  | 0 => rfl
  | k + 1 => by simp only [jUp]; rw [jUp_zero ws k, mul_zero_right]; rfl
/-- What weights must do: they leave a number that is in all shares, and strike each mask. -/
def check (ws : Nat → Nat) (x : Nat → Nat) (need : Nat) : Bool :=
  (List.range 8).all (fun t => jUp ws (fun _ => 2 ^ t) need == 2 ^ t) && (List.range (need - 1)).all (fun j => (List.range 8).all fun t => jUp ws (fun i => mul (2 ^ t) (pX (x i) (j + 1))) need == 0)
theorem joined (ws x : Nat → Nat) (need : Nat) (hc : check ws x need = true) (s : Nat) (hs : s < 256) (ms : Nat → Nat) (hm : ∀ j, ms j < 256) : ∀ m, m ≤ need - 1 → jUp ws (fun i => shB s ms (x i) m) need = s
  | 0, _ => by
    have h1 := (Bool.and_eq_true_iff.1 hc).1
    have key : jUp ws (fun _ => s) need ^^^ s = 0 := by
      refine zero_of_bits (fun s => jUp ws (fun _ => s) need ^^^ s) ?_ (fun a b _ _ => ?_) (fun t ht => ?_) s hs
      · show jUp ws (fun _ => 0) need ^^^ 0 = 0
        rw [jUp_zero]; rfl
      · show jUp ws (fun _ => a ^^^ b) need ^^^ (a ^^^ b) = _
        rw [jUp_sum ws (fun _ => a) (fun _ => b), swap4]
      · have := List.all_eq_true.1 h1 t (List.mem_range.2 ht)
        have e : jUp ws (fun _ => 2 ^ t) need = 2 ^ t := by simpa using this
        show jUp ws (fun _ => 2 ^ t) need ^^^ 2 ^ t = 0
        rw [e, Nat.xor_self]
    have h2 : jUp ws (fun _ => s) need = s := by
      have h3 : (jUp ws (fun _ => s) need ^^^ s) ^^^ s = s := by rw [key, Nat.zero_xor]
      rw [Nat.xor_assoc, Nat.xor_self, Nat.xor_zero] at h3
      exact h3
    exact h2
  | m + 1, hm1 => by
    have ih := joined ws x need hc s hs ms hm m (by omega)
    have h1 := (Bool.and_eq_true_iff.1 hc).2
    have key : jUp ws (fun i => mul (ms m) (pX (x i) (m + 1))) need = 0 := by
      refine zero_of_bits (fun q => jUp ws (fun i => mul q (pX (x i) (m + 1))) need) ?_ (fun a b ha hb => ?_) (fun t ht => ?_) (ms m) (hm m)
      · show jUp ws (fun i => mul 0 (pX (x i) (m + 1))) need = 0
        simp only [mul_zero_left]
        exact jUp_zero ws need
      · show jUp ws (fun i => mul (a ^^^ b) (pX (x i) (m + 1))) need = _
        simp only [mul_left _ ha hb]
        exact jUp_sum ws _ _ need
      · have h2 := List.all_eq_true.1 h1 m (List.mem_range.2 (by omega))
        have h3 := List.all_eq_true.1 h2 t (List.mem_range.2 ht)
        simpa using h3
    show jUp ws (fun i => shB s ms (x i) m ^^^ mul (ms m) (pX (x i) (m + 1))) need = s
    rw [jUp_sum ws (fun i => shB s ms (x i) m), ih, key, Nat.xor_zero]
/-- The places of the law's choice: from one on, downwards, round. -/
def chosen (cards start i : Nat) : Nat := (start + 2 * cards - i) % cards + 1
def chosenL (cards start need : Nat) : List Nat := (List.range need).map (chosen cards start)
def weights (xs : List Nat) (need : Nat) : List Nat := (List.range need).map fun i => wUp xs i need
theorem chosen_check : ∀ cards, cards < 7 → ∀ start, start < cards → ∀ need, need < cards → check (fun i => (weights (chosenL cards start (need + 1)) (need + 1)).getD i 0) (chosen cards start) (need + 1) = true := by decide +kernel
end Go.Proofs.YtkpjdmmgdmbmnaaDoor.Gf

/-
  A product of two elements that is made whole first, and lowered then; on numbers.
-/
namespace Go.Proofs.YtkpjdmmgdmbmnaaDoor.Gt
open Go.Proofs.YtkpjdmmgdmbmnaaDoor.Gf (swap4 xor_half xor_odd zero_of_bits)
/-- So many rounds of a product without carrying. -/
def cl : Nat → Nat → Nat → Nat → Nat
  | 0, _, _, n => n
  | k + 1, a, b, n => cl k (2 * a) (b / 2) (if b % 2 = 1 then n ^^^ a else n)
theorem cl_zero : ∀ k a n, cl k a 0 n = n
  | 0, _, _ => rfl
  | k + 1, a, n => by unfold cl; rw [if_neg (by decide)]; exact cl_zero k _ n
theorem cl_right : ∀ k a b c n m, cl k a (b ^^^ c) (n ^^^ m) = cl k a b n ^^^ cl k a c m
  | 0, _, _, _, _, _ => rfl
  | k + 1, a, b, c, n, m => by
    unfold cl
    rw [xor_half]
    have e : (if (b ^^^ c) % 2 = 1 then n ^^^ m ^^^ a else n ^^^ m) = (if b % 2 = 1 then n ^^^ a else n) ^^^ (if c % 2 = 1 then m ^^^ a else m) := by
      by_cases hb : b % 2 = 1 <;> by_cases hc : c % 2 = 1
      · rw [if_neg (by rw [xor_odd]; simp [hb, hc]), if_pos hb, if_pos hc, swap4, Nat.xor_self, Nat.xor_zero]
      · rw [if_pos (by rw [xor_odd]; simp [hb, hc]), if_pos hb, if_neg hc, Nat.xor_assoc, Nat.xor_assoc, Nat.xor_comm m a]
      · rw [if_pos (by rw [xor_odd]; simp [hb, hc]), if_neg hb, if_pos hc, Nat.xor_assoc]
      · rw [if_neg (by rw [xor_odd]; simp [hb, hc]), if_neg hb, if_neg hc]
    rw [e]
    exact cl_right k (2 * a) (b / 2) (c / 2) _ _
theorem cl_lt : ∀ k a b n t, a < 2 ^ t → n < 2 ^ (t + k) → cl k a b n < 2 ^ (t + k)
  | 0, _, _, _, _, _, hn => hn
  | k + 1, a, b, n, t, ha, hn => by
    unfold cl
    have h := cl_lt k (2 * a) (b / 2) (if b % 2 = 1 then n ^^^ a else n) (t + 1) (by rw [Nat.pow_succ]; omega) (by
      split
      · exact Nat.xor_lt_two_pow (by rw [show t + 1 + k = t + (k + 1) by omega]; exact hn) (Nat.lt_of_lt_of_le ha (Nat.pow_le_pow_right (by decide) (by omega)))
      · rw [show t + 1 + k = t + (k + 1) by omega]; exact hn)
    rw [show t + 1 + k = t + (k + 1) by omega] at h
    exact h
/-- One place taken away from above. -/
def st (i n : Nat) : Nat := if n / 2 ^ i % 2 = 1 then n ^^^ (285 * 2 ^ (i - 8)) else n
def lo (n : Nat) : Nat := st 8 (st 9 (st 10 (st 11 (st 12 (st 13 (st 14 (st 15 n)))))))
theorem bit_xor (i a b : Nat) : ((a ^^^ b) / 2 ^ i % 2 = 1) ↔ ¬ (a / 2 ^ i % 2 = 1 ↔ b / 2 ^ i % 2 = 1) := by
  rw [Nat.xor_div_two_pow]; exact xor_odd _ _
theorem st_xor (i a b : Nat) : st i (a ^^^ b) = st i a ^^^ st i b := by
  unfold st
  generalize 285 * 2 ^ (i - 8) = c
  by_cases ha : a / 2 ^ i % 2 = 1 <;> by_cases hb : b / 2 ^ i % 2 = 1
  · rw [if_neg (by rw [bit_xor]; simp [ha, hb]), if_pos ha, if_pos hb, swap4, Nat.xor_self, Nat.xor_zero]
  · rw [if_pos (by rw [bit_xor]; simp [ha, hb]), if_pos ha, if_neg hb, Nat.xor_assoc, Nat.xor_assoc, Nat.xor_comm b c]
  · rw [if_pos (by rw [bit_xor]; simp [ha, hb]), if_neg ha, if_pos hb, Nat.xor_assoc]
  · rw [if_neg (by rw [bit_xor]; simp [ha, hb]), if_neg ha, if_neg hb]
theorem lo_xor (a b : Nat) : lo (a ^^^ b) = lo a ^^^ lo b := by unfold lo; simp only [st_xor]
theorem lo_cl_bit : ∀ a, a < 256 → ∀ t, t < 8 → lo (cl 8 a (2 ^ t) 0) = Gf.mul a (2 ^ t) := by decide +kernel
/-- A product made whole and lowered is the product. -/
theorem lo_cl (a b : Nat) (ha : a < 256) (hb : b < 256) : lo (cl 8 a b 0) = Gf.mul a b := by
  have key : lo (cl 8 a b 0) ^^^ Gf.mul a b = 0 := by
    refine zero_of_bits (fun b => lo (cl 8 a b 0) ^^^ Gf.mul a b) ?_ (fun c d _ _ => ?_) (fun t ht => ?_) b hb
    · show lo (cl 8 a 0 0) ^^^ Gf.mul a 0 = 0
      rw [cl_zero, Gf.mul_zero_right]; decide
    · show lo (cl 8 a (c ^^^ d) 0) ^^^ Gf.mul a (c ^^^ d) = _
      have h := cl_right 8 a c d 0 0
      rw [Nat.xor_self] at h
      rw [h, lo_xor, Gf.mul_right, swap4]
    · show lo (cl 8 a (2 ^ t) 0) ^^^ Gf.mul a (2 ^ t) = 0
      rw [lo_cl_bit a ha t ht, Nat.xor_self]
  have h3 : (lo (cl 8 a b 0) ^^^ Gf.mul a b) ^^^ Gf.mul a b = Gf.mul a b := by rw [key, Nat.zero_xor]
  rw [Nat.xor_assoc, Nat.xor_self, Nat.xor_zero] at h3
  exact h3
/-- So many places from the eighth on, from above. -/
def lu : Nat → Nat → Nat
  | 0, n => n
  | k + 1, n => lu k (st (k + 8) n)
theorem lu_lo (n : Nat) : lu 8 n = lo n := rfl
theorem lu_small : ∀ k n, n < 256 → lu k n = n
  | 0, _, _ => rfl
  | k + 1, n, h => by
    unfold lu
    have : st (k + 8) n = n := by
      unfold st
      have : n / 2 ^ (k + 8) = 0 := Nat.div_eq_of_lt (Nat.lt_of_lt_of_le h (Nat.pow_le_pow_right (n := 2) (i := 8) (by decide) (by omega)))
      rw [this, if_neg (by decide)]
    rw [this]
    exact lu_small k n h
theorem lu_skip : ∀ d k n, n < 2 ^ (k + 8) → lu (k + d) n = lu k n
  | 0, _, _, _ => rfl
  | d + 1, k, n, h => by
    show lu (k + d) (st (k + d + 8) n) = lu k n
    have : st (k + d + 8) n = n := by
      unfold st
      have : n / 2 ^ (k + d + 8) = 0 := Nat.div_eq_of_lt (Nat.lt_of_lt_of_le h (Nat.pow_le_pow_right (n := 2) (by decide) (by omega)))
      rw [this, if_neg (by decide)]
    rw [this]
    exact lu_skip d k n h
/-- The highest place of a number goes. -/
theorem top_gone {k n : Nat} (h1 : 2 ^ (k + 8) ≤ n) (h2 : n < 2 ^ (k + 9)) : n ^^^ (285 * 2 ^ k) < 2 ^ (k + 8) ∧ st (k + 8) n = n ^^^ (285 * 2 ^ k) := by
  have e : n / 2 ^ (k + 8) = 1 := by
    have a1 : 1 ≤ n / 2 ^ (k + 8) := (Nat.le_div_iff_mul_le (Nat.two_pow_pos _)).2 (by omega)
    have a2 : n / 2 ^ (k + 8) < 2 := (Nat.div_lt_iff_lt_mul (Nat.two_pow_pos _)).2 (by rw [show k + 9 = (k + 8) + 1 by omega, Nat.pow_succ] at h2; omega)
    omega
  refine ⟨?_, by unfold st; rw [e, if_pos (by decide), show k + 8 - 8 = k by omega]⟩
  have h3 : (n ^^^ (285 * 2 ^ k)) / 2 ^ (k + 8) = 0 := by
    rw [Nat.xor_div_two_pow, e]
    have : 285 * 2 ^ k / 2 ^ (k + 8) = 1 := by
      rw [show k + 8 = 8 + k by omega, Nat.pow_add, Nat.mul_div_mul_right _ _ (Nat.two_pow_pos _)]
    rw [this]; rfl
  have h4 := Nat.div_eq_zero_iff_lt (Nat.two_pow_pos (k + 8)) |>.1 h3
  exact h4
/-- One round of lowering. -/
theorem lu_step {k n : Nat} (hk : k < 8) (h1 : 2 ^ (k + 8) ≤ n) (h2 : n < 2 ^ (k + 9)) : lu 8 n = lu 8 (n ^^^ (285 * 2 ^ k)) := by
  have t := top_gone h1 h2
  have e1 := lu_skip (8 - (k + 1)) (k + 1) n (by rw [show k + 1 + 8 = k + 9 by omega]; exact h2)
  rw [show k + 1 + (8 - (k + 1)) = 8 by omega] at e1
  have e2 := lu_skip (8 - k) k (n ^^^ (285 * 2 ^ k)) t.1
  rw [show k + (8 - k) = 8 by omega] at e2
  rw [e1, e2]
  show lu k (st (k + 8) n) = _
  rw [t.2]
/-- An element to the power of 254, by squares. -/
def sq : Nat → Nat → Nat → Nat → Nat
  | 0, _, _, o => o
  | k + 1, a, n, o => sq k (Gf.mul a a) (n / 2) (if n % 2 = 1 then Gf.mul o a else o)
theorem sq_zero : ∀ k a o, sq k a 0 o = o
  | 0, _, _ => rfl
  | k + 1, a, o => by unfold sq; rw [if_neg (by decide)]; exact sq_zero k _ o
theorem sq_inv : ∀ a, a < 256 → sq 8 a 254 1 = Gf.inv a := by decide +kernel
end Go.Proofs.YtkpjdmmgdmbmnaaDoor.Gt

/-
  A product of two elements is one of both the other way round; sums as they are reckoned.
-/
namespace Go.Proofs.YtkpjdmmgdmbmnaaDoor.Gu
open Go.Proofs.YtkpjdmmgdmbmnaaDoor.Gf (swap4 zero_of_bits)
theorem comm_bit : ∀ a, a < 256 → ∀ t, t < 8 → Gf.mul a (2 ^ t) = Gf.mul (2 ^ t) a := by decide +kernel
theorem mul_comm (a b : Nat) (ha : a < 256) (hb : b < 256) : Gf.mul a b = Gf.mul b a := by
  have key : Gf.mul a b ^^^ Gf.mul b a = 0 := by
    refine zero_of_bits (fun b => Gf.mul a b ^^^ Gf.mul b a) ?_ (fun c d hc hd => ?_) (fun t ht => ?_) b hb
    · show Gf.mul a 0 ^^^ Gf.mul 0 a = 0
      rw [Gf.mul_zero_right, Gf.mul_zero_left]; rfl
    · show Gf.mul a (c ^^^ d) ^^^ Gf.mul (c ^^^ d) a = _
      rw [Gf.mul_right, Gf.mul_left a hc hd, swap4]
    · show Gf.mul a (2 ^ t) ^^^ Gf.mul (2 ^ t) a = 0
      rw [comm_bit a ha t ht, Nat.xor_self]
  have h3 : (Gf.mul a b ^^^ Gf.mul b a) ^^^ Gf.mul b a = Gf.mul b a := by rw [key, Nat.zero_xor]
  rw [Nat.xor_assoc, Nat.xor_self, Nat.xor_zero] at h3
  exact h3
/-- A sum of so many. -/
def sm (f : Nat → Nat) : Nat → Nat
  | 0 => 0
  | k + 1 => sm f k ^^^ f k
theorem sm_lt {f : Nat → Nat} : ∀ k, (∀ i, i < k → f i < 256) → sm f k < 256
  | 0, _ => by simp [sm]
  | k + 1, h => Gf.xor_lt (sm_lt k (fun i hi => h i (by omega))) (h k (by omega))
theorem sm_congr {f g : Nat → Nat} : ∀ k, (∀ i, i < k → f i = g i) → sm f k = sm g k
  | 0, _ => rfl
  | k + 1, h => by unfold sm; rw [sm_congr k (fun i hi => h i (by omega)), h k (by omega)]
theorem jUp_sm (ws d : Nat → Nat) : ∀ k, Gf.jUp ws d k = sm (fun i => Gf.mul (ws i) (d i)) k
  | 0 => rfl
  | k + 1 => by unfold sm Gf.jUp; rw [jUp_sm ws d k]
theorem inv_zero : Gf.inv 0 = 0 := by decide +kernel
/-- A share's byte as it is reckoned: the secret's, and then each mask's. -/
theorem shB_sm (s : Nat) (ms : Nat → Nat) (x : Nat) : ∀ m, Gf.shB s ms x m = sm (fun i => if i = 0 then s else Gf.mul (ms (i - 1)) (Gf.pX x i)) (m + 1)
  | 0 => by simp [sm, Gf.shB]
  | m + 1 => by
    show Gf.shB s ms x m ^^^ Gf.mul (ms m) (Gf.pX x (m + 1)) = sm _ (m + 1) ^^^ _
    rw [shB_sm s ms x m]
    show _ = _ ^^^ (if m + 1 = 0 then s else Gf.mul (ms (m + 1 - 1)) (Gf.pX x (m + 1)))
    rw [if_neg (by omega), show m + 1 - 1 = m by omega]
end Go.Proofs.YtkpjdmmgdmbmnaaDoor.Gu
