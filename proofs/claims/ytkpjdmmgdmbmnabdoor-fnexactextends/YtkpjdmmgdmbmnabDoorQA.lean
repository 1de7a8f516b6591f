/-
  M1 M3 M5 M6 M7 ME MF: parts of the proof, one behind the other.
-/
import Derived.Laws.BitsAllLaws
/-
  Plain facts on numbers and lists of bytes: how a number is written in bytes of seven bits. No program is named here.
-/
namespace Go.Proofs.YtkpjdmmgdmbmnabDoor.Mb
def foldU (n : Int) : Nat := if n < 0 then 2 * (-(n + 1)).toNat + 1 else 2 * n.toNat
def leb : Nat → Nat → List UInt8
  | 0, v => [UInt8.ofNat v]
  | f + 1, v => if v < 128 then [UInt8.ofNat v] else UInt8.ofNat (v % 128 + 128) :: leb f (v / 128)
def putNum (n : Int) : List UInt8 := leb 9 (foldU n)
theorem foldU_lt (n : Int) (h1 : -9223372036854775808 ≤ n) (h2 : n ≤ 9223372036854775807) : foldU n < 2 * 128 ^ 9 := by
  unfold foldU; split <;> omega
theorem foldU_neg (n : Int) (h : n < 0) : ((foldU n : Nat) : Int) = 2 * -(n + 1) + 1 := by unfold foldU; rw [if_pos h]; omega
theorem foldU_pos (n : Int) (h : ¬ n < 0) : ((foldU n : Nat) : Int) = 2 * n := by unfold foldU; rw [if_neg h]; omega
theorem pow_step (f v : Nat) (h : v < 2 * 128 ^ (f + 1)) : v / 128 < 2 * 128 ^ f := by
  rw [Nat.pow_succ] at h; omega
theorem pow_zero_lt (v : Nat) (h : v < 2 * 128 ^ 0) : v < 128 := by omega
theorem leb_small (f v : Nat) (h : v < 128) : leb f v = [UInt8.ofNat v] := by
  cases f <;> simp [leb, h]
theorem leb_great (f v : Nat) (h : 128 ≤ v) : leb (f + 1) v = UInt8.ofNat (v % 128 + 128) :: leb f (v / 128) := by
  simp [leb, Nat.not_lt.2 h]
theorem leb_len (f v : Nat) : 1 ≤ (leb f v).length ∧ (leb f v).length ≤ f + 1 := by
  induction f generalizing v with
  | zero => simp [leb]
  | succ f ih => unfold leb; split <;> simp; have := ih (v / 128); omega
theorem bound_lt (f v : Nat) (hf : f ≤ 9) (h : v < 2 * 128 ^ f) : v < 18446744073709551616 := by
  have : 128 ^ f ≤ 128 ^ 9 := Nat.pow_le_pow_right (by omega) hf
  omega
/-- The bytes as the program's memory holds them. -/
def cells (l : List UInt8) : List Int := l.map fun c => (c.toNat : Int)
end Go.Proofs.YtkpjdmmgdmbmnabDoor.Mb

/-
  Plain facts on how a number is got back from bytes of seven bits. No program is named here.
-/
namespace Go.Proofs.YtkpjdmmgdmbmnabDoor.Mg
def unfoldI (u : Nat) : Int := if u % 2 = 1 then -((u / 2 : Nat) : Int) - 1 else ((u / 2 : Nat) : Int)
def byteN (s : ByteArray) (j : Nat) : Nat := if h : j < s.size then s[j].toNat else 0
/-- From byte i of the number that begins at place a on: what it comes to (folded), the place behind it, the code. -/
def getFrom (s : ByteArray) (a : Nat) : Nat → Nat → Nat → Nat × Nat × Nat
  | 0, _, _ => (0, 0, 3)
  | f + 1, i, u =>
    if a + i < s.size then
      if i = 9 ∧ 1 < byteN s (a + i) then (0, 0, 3)
      else if byteN s (a + i) < 128 then
        if byteN s (a + i) = 0 ∧ 0 < i then (0, 0, 3) else (u + byteN s (a + i) * 2 ^ (7 * i), a + i + 1, 0)
      else getFrom s a f (i + 1) (u + byteN s (a + i) % 128 * 2 ^ (7 * i))
    else (0, 0, 4)
theorem byteN_eq {s : ByteArray} {j : Nat} (h : j < s.size) : byteN s j = s[j].toNat := by simp [byteN, h]
theorem byteN_lt (s : ByteArray) (j : Nat) : byteN s j < 256 := by
  unfold byteN; split
  · exact s[j].toNat_lt
  · omega
theorem pow_le (i : Nat) (h : i ≤ 9) : 2 ^ (7 * i) ≤ 9223372036854775808 := by
  have : 2 ^ (7 * i) ≤ 2 ^ 63 := Nat.pow_le_pow_right (by omega) (by omega)
  simpa using this
theorem pow_le8 (i : Nat) (h : i ≤ 8) : 2 ^ (7 * i) ≤ 72057594037927936 := by
  have : 2 ^ (7 * i) ≤ 2 ^ 56 := Nat.pow_le_pow_right (by omega) (by omega)
  simpa using this
theorem pow_succ7 (i : Nat) : 2 ^ (7 * (i + 1)) = 128 * 2 ^ (7 * i) := by
  rw [show 7 * (i + 1) = 7 * i + 7 by omega, Nat.pow_add]; omega
/-- One byte more of a number that goes on. -/
theorem step_lt {i u c : Nat} (hu : u < 2 ^ (7 * i)) : u + c % 128 * 2 ^ (7 * i) < 2 ^ (7 * (i + 1)) := by
  rw [pow_succ7]
  have h : c % 128 ≤ 127 := by omega
  have := Nat.mul_le_mul_right (2 ^ (7 * i)) h
  omega
theorem term_lt {i c : Nat} (hi : i ≤ 9) (h9 : ¬ (i = 9 ∧ 1 < c)) : c % 128 * 2 ^ (7 * i) < 18446744073709551616 := by
  by_cases h : i ≤ 8
  · have hp := pow_le8 i h
    have h' : c % 128 ≤ 127 := by omega
    have := Nat.mul_le_mul h' hp
    omega
  · have e : i = 9 := by omega
    subst e
    have hc : c % 128 ≤ 1 := by omega
    have := Nat.mul_le_mul_right (2 ^ (7 * 9)) hc
    omega
theorem sum_lt {i u c : Nat} (hi : i ≤ 9) (h9 : ¬ (i = 9 ∧ 1 < c)) (hu : u < 2 ^ (7 * i)) : u + c % 128 * 2 ^ (7 * i) < 18446744073709551616 := by
  by_cases h : i ≤ 8
  · have := step_lt (c := c) hu
    have hp : 2 ^ (7 * (i + 1)) ≤ 9223372036854775808 := pow_le (i + 1) (by omega)
    omega
  · have e : i = 9 := by omega
    subst e
    have hc : c % 128 ≤ 1 := by omega
    have := Nat.mul_le_mul_right (2 ^ (7 * 9)) hc
    omega
theorem or_add {i u c : Nat} (hu : u < 2 ^ (7 * i)) : u ||| c % 128 * 2 ^ (7 * i) = u + c % 128 * 2 ^ (7 * i) := by
  have e : (c % 128 * 2 ^ (7 * i)) = (c % 128) <<< (7 * i) := by rw [Nat.shiftLeft_eq]
  rw [Nat.or_comm, e, Nat.add_comm, ← Nat.shiftLeft_add_eq_or_of_lt hu]
theorem half_lt {u : Nat} (h : u < 18446744073709551616) : u / 2 < 9223372036854775808 := by omega
theorem unfold_odd {u : Nat} (h : u % 2 = 1) : unfoldI u = -((u / 2 : Nat) : Int) - 1 := by simp [unfoldI, h]
theorem unfold_even {u : Nat} (h : ¬ u % 2 = 1) : unfoldI u = ((u / 2 : Nat) : Int) := by simp [unfoldI, h]
section ways
variable {s : ByteArray} {a f i u : Nat}
theorem from_short (h : ¬ a + i < s.size) : getFrom s a (f + 1) i u = (0, 0, 4) := by simp [getFrom, h]
theorem from_wide (h : a + i < s.size) (h9 : i = 9 ∧ 1 < byteN s (a + i)) : getFrom s a (f + 1) i u = (0, 0, 3) := by
  simp only [getFrom]; rw [if_pos h, if_pos h9]
theorem from_zero (h : a + i < s.size) (h9 : ¬ (i = 9 ∧ 1 < byteN s (a + i))) (h0 : byteN s (a + i) = 0 ∧ 0 < i) : getFrom s a (f + 1) i u = (0, 0, 3) := by
  simp only [getFrom]; rw [if_pos h, if_neg h9, if_pos (by omega), if_pos h0]
theorem from_last (h : a + i < s.size) (h9 : ¬ (i = 9 ∧ 1 < byteN s (a + i))) (hl : byteN s (a + i) < 128) (h0 : ¬ (byteN s (a + i) = 0 ∧ 0 < i)) : getFrom s a (f + 1) i u = (u + byteN s (a + i) % 128 * 2 ^ (7 * i), a + i + 1, 0) := by
  simp only [getFrom]; rw [if_pos h, if_neg h9, if_pos hl, if_neg h0, Nat.mod_eq_of_lt hl]
theorem from_more (h : a + i < s.size) (h9 : ¬ (i = 9 ∧ 1 < byteN s (a + i))) (hl : ¬ byteN s (a + i) < 128) : getFrom s a (f + 1) i u = getFrom s a f (i + 1) (u + byteN s (a + i) % 128 * 2 ^ (7 * i)) := by
  conv => lhs; unfold getFrom
  rw [if_pos h, if_neg h9, if_neg hl]
theorem from_lt (h : a + i < s.size) (h9 : ¬ (i = 9 ∧ 1 < byteN s (a + i))) (hl : byteN s (a + i) < 128) :
    getFrom s a (f + 1) i u = if byteN s (a + i) = 0 ∧ 0 < i then (0, 0, 3) else (u + byteN s (a + i) % 128 * 2 ^ (7 * i), a + i + 1, 0) := by
  by_cases h0 : byteN s (a + i) = 0 ∧ 0 < i
  · rw [from_zero h h9 h0, if_pos h0]
  · rw [from_last h h9 hl h0, if_neg h0]
end ways
end Go.Proofs.YtkpjdmmgdmbmnabDoor.Mg

/-
  Plain facts: a number is got back from its bytes; of bytes that end too early nothing is got. No program is named here.
-/
namespace Go.Proofs.YtkpjdmmgdmbmnabDoor.Mn
open Mb Mg

theorem mk_size (l : List UInt8) : (⟨l.toArray⟩ : ByteArray).size = l.length := by simp [ByteArray.size]
theorem drop_cons {L r : List UInt8} {k : Nat} {c : UInt8} (h : L.drop k = c :: r) : k < (⟨L.toArray⟩ : ByteArray).size ∧ byteN ⟨L.toArray⟩ k = c.toNat ∧ L.drop (k + 1) = r := by
  have hk : k < L.length := by
    rcases Nat.lt_or_ge k L.length with h' | h'
    · exact h'
    · rw [List.drop_eq_nil_of_le h'] at h; simp at h
  have hs : k < (⟨L.toArray⟩ : ByteArray).size := by rw [mk_size]; exact hk
  rw [List.drop_eq_getElem_cons hk] at h
  simp only [List.cons.injEq] at h
  refine ⟨hs, ?_, h.2⟩
  rw [byteN_eq hs]
  have : (⟨L.toArray⟩ : ByteArray)[k] = L[k] := rfl
  rw [this, h.1]
theorem drop_nil {L : List UInt8} {k : Nat} (h : L.drop k = []) : ¬ k < (⟨L.toArray⟩ : ByteArray).size := by
  rw [mk_size]
  have := List.drop_eq_nil_iff.1 h
  omega
theorem toNat_small {v : Nat} (h : v < 128) : (UInt8.ofNat v).toNat = v := by simp [UInt8.toNat_ofNat']; omega
theorem toNat_great (v : Nat) : (UInt8.ofNat (v % 128 + 128)).toNat = v % 128 + 128 := by simp [UInt8.toNat_ofNat']; omega
theorem great_pos {f v : Nat} (hv : v < 2 * 128 ^ f) (h : 128 ≤ v) : ∃ g, f = g + 1 := by
  cases f with
  | zero => omega
  | succ g => exact ⟨g, rfl⟩

theorem from_leb (L rest : List UInt8) (a : Nat) : ∀ (f i v u : Nat), f + i = 9 → v < 2 * 128 ^ f → (i = 0 ∨ 0 < v) → L.drop (a + i) = leb f v ++ rest →
    getFrom ⟨L.toArray⟩ a (f + 1) i u = (u + v * 2 ^ (7 * i), a + i + (leb f v).length, 0)
  | f, i, v, u, hf, hv, h0, hd => by
    by_cases h : v < 128
    · rw [leb_small f v h] at hd ⊢
      obtain ⟨hs, hb, _⟩ := drop_cons hd
      rw [toNat_small h] at hb
      rw [from_last hs (by rw [hb]; intro hh; have : f = 0 := by omega
                           subst this; omega) (by omega) (by omega), hb, Nat.mod_eq_of_lt h]
      rfl
    · obtain ⟨g, rfl⟩ := great_pos hv (by omega)
      rw [leb_great g v (by omega)] at hd ⊢
      obtain ⟨hs, hb, hr⟩ := drop_cons hd
      rw [toNat_great] at hb
      rw [from_more hs (by rw [hb]; omega) (by omega), hb]
      have ih := from_leb L rest a g (i + 1) (v / 128) (u + (v % 128 + 128) % 128 * 2 ^ (7 * i)) (by omega) (pow_step g v hv) (.inr (by omega)) hr
      rw [ih, pow_succ7]
      refine Prod.ext ?_ (Prod.ext ?_ rfl)
      · show u + (v % 128 + 128) % 128 * 2 ^ (7 * i) + v / 128 * (128 * 2 ^ (7 * i)) = u + v * 2 ^ (7 * i)
        have e1 : (v % 128 + 128) % 128 = v % 128 := by omega
        rw [e1, ← Nat.mul_assoc, Nat.add_assoc, ← Nat.add_mul]
        congr 2
        omega
      · show a + (i + 1) + (leb g (v / 128)).length = a + i + (leb g (v / 128)).length.succ
        omega
theorem from_cut (L : List UInt8) (a : Nat) : ∀ (f i v u : Nat), f + i = 9 → v < 2 * 128 ^ f → L.drop (a + i) = (leb f v).dropLast →
    getFrom ⟨L.toArray⟩ a (f + 1) i u = (0, 0, 4)
  | f, i, v, u, hf, hv, hd => by
    by_cases h : v < 128
    · rw [leb_small f v h] at hd
      exact from_short (drop_nil hd)
    · obtain ⟨g, rfl⟩ := great_pos hv (by omega)
      rw [leb_great g v (by omega)] at hd
      have hne : leb g (v / 128) ≠ [] := fun e => by have := (leb_len g (v / 128)).1; rw [e] at this; simp at this
      rw [List.dropLast_cons_of_ne_nil hne] at hd
      obtain ⟨hs, hb, hr⟩ := drop_cons hd
      rw [toNat_great] at hb
      rw [from_more hs (by rw [hb]; omega) (by omega), hb]
      exact from_cut L a g (i + 1) (v / 128) _ (by omega) (pow_step g v hv) hr
theorem unfold_fold (n : Int) : unfoldI (foldU n) = n := by
  unfold unfoldI foldU
  split <;> split <;> omega
theorem get_put (n : Int) (pre post : List UInt8) (h1 : -9223372036854775808 ≤ n) (h2 : n ≤ 9223372036854775807) :
    getFrom ⟨(pre ++ putNum n ++ post).toArray⟩ pre.length 10 0 0 = (foldU n, pre.length + (putNum n).length, 0) := by
  have := from_leb (pre ++ putNum n ++ post) post pre.length 9 0 (foldU n) 0 rfl (foldU_lt n h1 h2) (.inl rfl) (by rw [Nat.add_zero, List.append_assoc, List.drop_left]; rfl)
  rw [this]
  simp [putNum]
theorem get_cut (n : Int) (h1 : -9223372036854775808 ≤ n) (h2 : n ≤ 9223372036854775807) :
    getFrom ⟨(putNum n).dropLast.toArray⟩ 0 10 0 0 = (0, 0, 4) :=
  from_cut (putNum n).dropLast 0 9 0 (foldU n) 0 rfl (foldU_lt n h1 h2) rfl
end Go.Proofs.YtkpjdmmgdmbmnabDoor.Mn

/-
  Plain facts on SHA-256: numbers below 2^32, a block's numbers, rounds, the state, the text filled up. No program is named here.
-/
namespace Go.Proofs.YtkpjdmmgdmbmnabDoor.Ms
abbrev B32 : Nat := 4294967296

def rotr (x k : Nat) : Nat := (x / 2 ^ k) ||| (x * 2 ^ (32 - k) % 4294967296)
def add (a b : Nat) : Nat := (a + b) % 4294967296
def inv (a : Nat) : Nat := 4294967295 - a
def low0 (x : Nat) : Nat := (rotr x 7 ^^^ rotr x 18) ^^^ (x / 8)
def low1 (x : Nat) : Nat := (rotr x 17 ^^^ rotr x 19) ^^^ (x / 1024)
def up0 (x : Nat) : Nat := (rotr x 2 ^^^ rotr x 13) ^^^ rotr x 22
def up1 (x : Nat) : Nat := (rotr x 6 ^^^ rotr x 11) ^^^ rotr x 25
def ch (e f g : Nat) : Nat := (e &&& f) ^^^ (inv e &&& g)
def maj (a b c : Nat) : Nat := ((a &&& b) ^^^ (a &&& c)) ^^^ (b &&& c)

theorem xor_lt {a b : Nat} (ha : a < 4294967296) (hb : b < 4294967296) : a ^^^ b < 4294967296 := Nat.xor_lt_two_pow (n := 32) ha hb
theorem and_lt {a b : Nat} (ha : a < 4294967296) : a &&& b < 4294967296 := Nat.lt_of_le_of_lt Nat.and_le_left ha
theorem or_lt {a b : Nat} (ha : a < 4294967296) (hb : b < 4294967296) : a ||| b < 4294967296 := Nat.or_lt_two_pow (n := 32) ha hb
theorem add_lt (a b : Nat) : add a b < 4294967296 := Nat.mod_lt _ (by omega)
theorem inv_lt (a : Nat) : inv a < 4294967296 := by unfold inv; omega
theorem div_lt {x : Nat} (k : Nat) (h : x < 4294967296) : x / k < 4294967296 := Nat.lt_of_le_of_lt (Nat.div_le_self _ _) h
theorem rotr_lt {x : Nat} (k : Nat) (h : x < 4294967296) : rotr x k < 4294967296 := or_lt (div_lt _ h) (Nat.mod_lt _ (by omega))
theorem low0_lt {x : Nat} (h : x < 4294967296) : low0 x < 4294967296 := xor_lt (xor_lt (rotr_lt _ h) (rotr_lt _ h)) (div_lt _ h)
theorem low1_lt {x : Nat} (h : x < 4294967296) : low1 x < 4294967296 := xor_lt (xor_lt (rotr_lt _ h) (rotr_lt _ h)) (div_lt _ h)
theorem up0_lt {x : Nat} (h : x < 4294967296) : up0 x < 4294967296 := xor_lt (xor_lt (rotr_lt _ h) (rotr_lt _ h)) (rotr_lt _ h)
theorem up1_lt {x : Nat} (h : x < 4294967296) : up1 x < 4294967296 := xor_lt (xor_lt (rotr_lt _ h) (rotr_lt _ h)) (rotr_lt _ h)
theorem ch_lt {e f g : Nat} (h : e < 4294967296) : ch e f g < 4294967296 := xor_lt (and_lt h) (and_lt (inv_lt e))
theorem maj_lt {a b c : Nat} (h : a < 4294967296) (hb : b < 4294967296) : maj a b c < 4294967296 := xor_lt (xor_lt (and_lt h) (and_lt h)) (and_lt hb)

/-- The four bytes of a block from place 4 i on, the highest first. -/
def byteAt (l : List UInt8) (i : Nat) : Nat := (l.getD i 0).toNat
theorem byteAt_lt (l : List UInt8) (i : Nat) : byteAt l i < 256 := (l.getD i 0).toNat_lt
def word (l : List UInt8) (i : Nat) : Nat := byteAt l (4 * i) * 16777216 + byteAt l (4 * i + 1) * 65536 + byteAt l (4 * i + 2) * 256 + byteAt l (4 * i + 3)
theorem word_lt (l : List UInt8) (i : Nat) : word l i < 4294967296 := by
  have h0 := byteAt_lt l (4 * i)
  have h1 := byteAt_lt l (4 * i + 1)
  have h2 := byteAt_lt l (4 * i + 2)
  have h3 := byteAt_lt l (4 * i + 3)
  unfold word; omega
/-- The number that the first j of those four bytes make. -/
def part (l : List UInt8) (i : Nat) : Nat → Nat
  | 0 => 0
  | j + 1 => part l i j * 256 + byteAt l (4 * i + j)
theorem part_lt (l : List UInt8) (i : Nat) : ∀ j, part l i j < 256 ^ j
  | 0 => by simp [part]
  | j + 1 => by
    have h := part_lt l i j
    have h2 := byteAt_lt l (4 * i + j)
    rw [Nat.pow_succ]; simp only [part]; omega
theorem part_four (l : List UInt8) (i : Nat) : part l i 4 = word l i := by simp only [part, word, Nat.add_zero]; omega
/-- The numbers w of a block. -/
def wAt (l : List UInt8) (i : Nat) : Nat :=
  if h : i < 16 then word l i
  else add (add (add (wAt l (i - 16)) (low0 (wAt l (i - 15)))) (wAt l (i - 7))) (low1 (wAt l (i - 2)))
theorem wAt_low (l : List UInt8) (i : Nat) (h : i < 16) : wAt l i = word l i := by rw [wAt]; simp [h]
theorem wAt_high (l : List UInt8) (n : Nat) : wAt l (n + 16) = add (add (add (wAt l n) (low0 (wAt l (n + 1)))) (wAt l (n + 9))) (low1 (wAt l (n + 14))) := by
  rw [wAt]
  simp only [show ¬ n + 16 < 16 by omega, dif_neg, not_false_eq_true]
  rw [show n + 16 - 16 = n by omega, show n + 16 - 15 = n + 1 by omega, show n + 16 - 7 = n + 9 by omega, show n + 16 - 2 = n + 14 by omega]
theorem wAt_lt (l : List UInt8) (i : Nat) : wAt l i < 4294967296 := by
  by_cases h : i < 16
  · rw [wAt_low l i h]; exact word_lt l i
  · obtain ⟨n, rfl⟩ : ∃ n, i = n + 16 := ⟨i - 16, by omega⟩
    rw [wAt_high]; exact add_lt _ _

structure St where
  (a b c d e f g h : Nat)
structure St.ok (s : St) : Prop where
  a : s.a < 4294967296
  b : s.b < 4294967296
  c : s.c < 4294967296
  d : s.d < 4294967296
  e : s.e < 4294967296
  f : s.f < 4294967296
  g : s.g < 4294967296
  h : s.h < 4294967296
def keys : List Nat := [
  0x428a2f98, 0x71374491, 0xb5c0fbcf, 0xe9b5dba5, 0x3956c25b, 0x59f111f1, 0x923f82a4, 0xab1c5ed5,
  0xd807aa98, 0x12835b01, 0x243185be, 0x550c7dc3, 0x72be5d74, 0x80deb1fe, 0x9bdc06a7, 0xc19bf174,
  0xe49b69c1, 0xefbe4786, 0x0fc19dc6, 0x240ca1cc, 0x2de92c6f, 0x4a7484aa, 0x5cb0a9dc, 0x76f988da,
  0x983e5152, 0xa831c66d, 0xb00327c8, 0xbf597fc7, 0xc6e00bf3, 0xd5a79147, 0x06ca6351, 0x14292967,
  0x27b70a85, 0x2e1b2138, 0x4d2c6dfc, 0x53380d13, 0x650a7354, 0x766a0abb, 0x81c2c92e, 0x92722c85,
  0xa2bfe8a1, 0xa81a664b, 0xc24b8b70, 0xc76c51a3, 0xd192e819, 0xd6990624, 0xf40e3585, 0x106aa070,
  0x19a4c116, 0x1e376c08, 0x2748774c, 0x34b0bcb5, 0x391c0cb3, 0x4ed8aa4a, 0x5b9cca4f, 0x682e6ff3,
  0x748f82ee, 0x78a5636f, 0x84c87814, 0x8cc70208, 0x90befffa, 0xa4506ceb, 0xbef9a3f7, 0xc67178f2]
def key (i : Nat) : Nat := keys.getD i 0
theorem keys_length : keys.length = 64 := by decide +kernel
theorem keys_all : ∀ k ∈ keys, k < 4294967296 := by decide +kernel
theorem key_lt (i : Nat) : key i < 4294967296 := by
  unfold key
  by_cases h : i < keys.length
  · have e : keys.getD i 0 = keys[i] := by simp [List.getD, h]
    rw [e]; exact keys_all _ (List.getElem_mem h)
  · have e : keys.getD i 0 = 0 := by simp [List.getD, List.getElem?_eq_none (Nat.le_of_not_lt h)]
    rw [e]; omega
def t1 (s : St) (k w : Nat) : Nat := add (add (add (add s.h (up1 s.e)) (ch s.e s.f s.g)) k) w
def t2 (s : St) : Nat := add (up0 s.a) (maj s.a s.b s.c)
def rnd (s : St) (k w : Nat) : St := ⟨add (t1 s k w) (t2 s), s.a, s.b, s.c, add s.d (t1 s k w), s.e, s.f, s.g⟩
theorem rnd_ok {s : St} (k w : Nat) (h : s.ok) : (rnd s k w).ok := ⟨add_lt _ _, h.a, h.b, h.c, add_lt _ _, h.e, h.f, h.g⟩
def rnds (s : St) (l : List UInt8) : Nat → St
  | 0 => s
  | i + 1 => rnd (rnds s l i) (key i) (wAt l i)
theorem rnds_ok {s : St} (l : List UInt8) (h : s.ok) : ∀ i, (rnds s l i).ok
  | 0 => h
  | i + 1 => rnd_ok _ _ (rnds_ok l h i)
def plus (s t : St) : St := ⟨add s.a t.a, add s.b t.b, add s.c t.c, add s.d t.d, add s.e t.e, add s.f t.f, add s.g t.g, add s.h t.h⟩
theorem plus_ok (s t : St) : (plus s t).ok := ⟨add_lt _ _, add_lt _ _, add_lt _ _, add_lt _ _, add_lt _ _, add_lt _ _, add_lt _ _, add_lt _ _⟩
/-- One block more. -/
def blk (s : St) (l : List UInt8) : St := plus s (rnds s l 64)
def start : St := ⟨0x6a09e667, 0xbb67ae85, 0x3c6ef372, 0xa54ff53a, 0x510e527f, 0x9b05688c, 0x1f83d9ab, 0x5be0cd19⟩
theorem start_ok : start.ok := ⟨by decide, by decide, by decide, by decide, by decide, by decide, by decide, by decide⟩
def states (p : List UInt8) : Nat → St
  | 0 => start
  | k + 1 => blk (states p k) ((p.drop (64 * k)).take 64)
theorem states_ok (p : List UInt8) : ∀ k, (states p k).ok
  | 0 => start_ok
  | _ + 1 => plus_ok _ _
def St.list (s : St) : List Nat := [s.a, s.b, s.c, s.d, s.e, s.f, s.g, s.h]
def be4 (n : Nat) : List UInt8 := [UInt8.ofNat (n / 16777216), UInt8.ofNat (n / 65536), UInt8.ofNat (n / 256), UInt8.ofNat n]
def bytes (s : St) : List UInt8 := s.list.flatMap be4
theorem bytes_length (s : St) : (bytes s).length = 32 := rfl
/-- The text filled up to whole blocks. -/
def blocks (n : Nat) : Nat := (n + 8) / 64 + 1
def be8 (n : Nat) : List UInt8 := [UInt8.ofNat (n / 72057594037927936), UInt8.ofNat (n / 281474976710656), UInt8.ofNat (n / 1099511627776), UInt8.ofNat (n / 4294967296), UInt8.ofNat (n / 16777216), UInt8.ofNat (n / 65536), UInt8.ofNat (n / 256), UInt8.ofNat n]
def pad (l : List UInt8) : List UInt8 := l ++ 128 :: (List.replicate (64 * blocks l.length - 9 - l.length) 0 ++ be8 (8 * l.length))
theorem blocks_room (n : Nat) : n + 9 ≤ 64 * blocks n := by unfold blocks; omega
theorem pad_length (l : List UInt8) : (pad l).length = 64 * blocks l.length := by
  have := blocks_room l.length
  simp only [pad, List.length_append, List.length_cons, List.length_replicate, be8, List.length_nil]; omega
def digest (l : List UInt8) : List UInt8 := bytes (states (pad l) (blocks l.length))
theorem digest_length (l : List UInt8) : (digest l).length = 32 := rfl
/-- A key filled up to a block, each byte put together with a mask. -/
def full (l : List UInt8) : List UInt8 := l ++ List.replicate (64 - l.length) 0
def mask (l : List UInt8) (m : UInt8) : List UInt8 := (full l).map (· ^^^ m)
theorem full_length (l : List UInt8) (h : l.length ≤ 64) : (full l).length = 64 := by simp [full]; omega
theorem mask_length (l : List UInt8) (m : UInt8) (h : l.length ≤ 64) : (mask l m).length = 64 := by simp [mask, full_length l h]
def keyOf (k : List UInt8) : List UInt8 := if 64 < k.length then digest k else k
theorem keyOf_le (k : List UInt8) : (keyOf k).length ≤ 64 := by
  unfold keyOf; split
  · rw [digest_length]; omega
  · omega
def mac (k l : List UInt8) : List UInt8 := digest (mask (keyOf k) 92 ++ digest (mask (keyOf k) 54 ++ l))
theorem mac_length (k l : List UInt8) : (mac k l).length = 32 := rfl
def salt : List UInt8 := [115, 97, 108, 116]
def stretch (p : List UInt8) : Nat → List UInt8
  | 0 => salt
  | n + 1 => mac p (stretch p n)
end Go.Proofs.YtkpjdmmgdmbmnabDoor.Ms

/-
  The bytes of a text that is filled up to whole blocks, place by place. No program is named here.
-/
namespace Go.Proofs.YtkpjdmmgdmbmnabDoor.Ms

theorem byteAt_eq (l : List UInt8) (j : Nat) (h : j < l.length) : byteAt l j = l[j].toNat := by simp [byteAt, List.getD, h]
theorem byteAt_left (l r : List UInt8) (j : Nat) (h : j < l.length) : byteAt (l ++ r) j = byteAt l j := by
  simp [byteAt, List.getD, List.getElem?_append_left h]
theorem byteAt_right (l r : List UInt8) (j : Nat) : byteAt (l ++ r) (l.length + j) = byteAt r j := by
  simp [byteAt, List.getD, List.getElem?_append_right]
theorem byteAt_zeros (n j : Nat) : byteAt (List.replicate n 0) j = 0 := by
  by_cases h : j < n
  · simp [byteAt, List.getD, h]
  · simp [byteAt, List.getD, h]
theorem byteAt_be8 (n i : Nat) (h : i < 8) : byteAt (be8 n) (7 - i) = n / 256 ^ i % 256 := by
  match i, h with
  | 0, _ => simp [byteAt, be8]
  | 1, _ => simp [byteAt, be8]
  | 2, _ => simp [byteAt, be8]
  | 3, _ => simp [byteAt, be8]
  | 4, _ => simp [byteAt, be8]
  | 5, _ => simp [byteAt, be8]
  | 6, _ => simp [byteAt, be8]
  | 7, _ => simp [byteAt, be8]
theorem pad_low (l : List UInt8) (j : Nat) (h : j < l.length) : byteAt (pad l) j = byteAt l j := byteAt_left _ _ _ h
theorem pad_mark (l : List UInt8) : byteAt (pad l) l.length = 128 := by
  have := byteAt_right l (128 :: (List.replicate (64 * blocks l.length - 9 - l.length) 0 ++ be8 (8 * l.length))) 0
  rw [Nat.add_zero] at this
  exact this
theorem byteAt_cons (x : UInt8) (l : List UInt8) (j : Nat) : byteAt (x :: l) (j + 1) = byteAt l j := by simp [byteAt]
theorem pad_zero (l : List UInt8) (j : Nat) (h1 : l.length < j) (h2 : j < 64 * blocks l.length - 8) : byteAt (pad l) j = 0 := by
  obtain ⟨m, rfl⟩ : ∃ m, j = l.length + (m + 1) := ⟨j - l.length - 1, by omega⟩
  unfold pad
  rw [byteAt_right, byteAt_cons, byteAt_left _ _ _ (by simp; omega), byteAt_zeros]
theorem pad_len (l : List UInt8) (i : Nat) (h : i < 8) : byteAt (pad l) (64 * blocks l.length - 1 - i) = 8 * l.length / 256 ^ i % 256 := by
  have hr := blocks_room l.length
  obtain ⟨m, hm⟩ : ∃ m, 64 * blocks l.length - 9 - l.length = m := ⟨_, rfl⟩
  rw [show 64 * blocks l.length - 1 - i = l.length + ((m + (7 - i)) + 1) by omega]
  unfold pad
  rw [hm, byteAt_right, byteAt_cons]
  have := byteAt_right (List.replicate m 0) (be8 (8 * l.length)) (7 - i)
  rw [List.length_replicate] at this
  rw [this, byteAt_be8 _ i h]
/-- A list of bytes by its places. -/
theorem byteAt_drop (l : List UInt8) (k j : Nat) : byteAt (l.drop k) j = byteAt l (k + j) := by simp [byteAt, List.getD]
theorem byteAt_take (l : List UInt8) (k j : Nat) (h : j < k) : byteAt (l.take k) j = byteAt l j := by simp [byteAt, List.getD, h]
end Go.Proofs.YtkpjdmmgdmbmnabDoor.Ms

/-
  Powers modulo a number, and the numbers of a signature.
-/
namespace Go.Proofs.YtkpjdmmgdmbmnabDoor.Sg
theorem start (a n m : Nat) : (1 % m) * (a % m) ^ n % m = a ^ n % m := by
  rw [Nat.mul_mod, Nat.mod_mod, Nat.pow_mod, Nat.mod_mod, ← Nat.pow_mod, ← Nat.mul_mod, Nat.one_mul]
theorem square (a m h : Nat) : (a * a % m) ^ h % m = a ^ (2 * h) % m := by
  rw [← Nat.pow_mod, Nat.pow_mul, Nat.pow_two]
/-- A round of the loop at an odd number. -/
theorem odd (o a n m : Nat) (h : n % 2 = 1) : (o * a % m) * (a * a % m) ^ (n / 2) % m = o * a ^ n % m := by
  rw [Nat.mul_mod, Nat.mod_mod, square, ← Nat.mul_mod, Nat.mul_assoc, ← Nat.pow_succ']
  congr 3; omega
/-- A round of the loop at an even number. -/
theorem even (o a n m : Nat) (h : n % 2 = 0) : o * (a * a % m) ^ (n / 2) % m = o * a ^ n % m := by
  rw [Nat.mul_mod, square, ← Nat.mul_mod]
  congr 3; omega
theorem stop (o a m : Nat) (h : o < m) : o * a ^ 0 % m = o := by
  rw [Nat.pow_zero, Nat.mul_one, Nat.mod_eq_of_lt h]
/-- One more to the power is once more the product. -/
theorem more (a n m : Nat) : a ^ (n + 1) % m = (a ^ n % m) * (a % m) % m := by
  rw [Nat.pow_succ, Nat.mul_mod]
theorem over (g p q : Nat) (h : g ^ q % p = 1) (t : Nat) : g ^ (q * t) % p = 1 % p := by
  rw [Nat.pow_mul, Nat.pow_mod, h, Nat.one_pow]
/-- The two powers of a right signature make the power that it was bound by. -/
theorem meet (g p q k e x : Nat) (h : g ^ q % p = 1) (he : e < q) :
    (g ^ ((k + e * x) % q) % p) * ((g ^ x % p) ^ (q - e) % p) % p = g ^ k % p := by
  rw [← Nat.pow_mod, ← Nat.mul_mod, ← Nat.pow_mul, ← Nat.pow_add]
  have e1 : (k + e * x) % q + x * (q - e) + q * ((k + e * x) / q) = k + q * x := by
    have hd := Nat.mod_add_div (k + e * x) q
    have hm : x * (q - e) + e * x = q * x := by
      rw [Nat.mul_comm e x, ← Nat.mul_add, Nat.sub_add_cancel (Nat.le_of_lt he), Nat.mul_comm]
    omega
  have e2 : g ^ ((k + e * x) % q + x * (q - e) + q * ((k + e * x) / q)) % p = g ^ (k + q * x) % p := by rw [e1]
  rw [Nat.pow_add, Nat.mul_mod, over g p q h, ← Nat.mul_mod, Nat.mul_one, Nat.pow_add g k, Nat.mul_mod (g ^ k), over g p q h, ← Nat.mul_mod, Nat.mul_one] at e2
  exact e2
/-- What a public is: GroupQ as a power makes 1 of it. -/
theorem public_one (g p q x : Nat) (h : g ^ q % p = 1) (hp : 1 < p) : (g ^ x % p) ^ q % p = 1 := by
  rw [← Nat.pow_mod, ← Nat.pow_mul, Nat.mul_comm, over g p q h, Nat.mod_eq_of_lt hp]
theorem public_pos (g p q x : Nat) (h : g ^ q % p = 1) (hp : 1 < p) (hq : 0 < q) : 0 < g ^ x % p := by
  rcases Nat.eq_zero_or_pos (g ^ x % p) with h0 | h0
  · have := public_one g p q x h hp
    rw [h0, Nat.zero_pow hq, Nat.zero_mod] at this
    omega
  · exact h0
/-- The group of the document. -/
theorem group : 4 ^ 5003 % 10007 = 1 := by decide +kernel
end Go.Proofs.YtkpjdmmgdmbmnabDoor.Sg

/-
  Signing, on numbers and lists of bytes: powers, the number of a text, a public, a signature, and what is verified.
-/
namespace Go.Proofs.YtkpjdmmgdmbmnabDoor.Sg
/-- A power, modulo a number. -/
def pw (a n m : Nat) : Nat := a ^ n % m
theorem pw_lt (a n m : Nat) (h : 1 ≤ m) : pw a n m < m := Nat.mod_lt _ h
/-- The number of the first six bytes, the highest first. -/
def six (d : List UInt8) (k : Nat) : Nat := (d.take k).foldl (fun n b => 256 * n + b.toNat) 0
theorem six_zero (d : List UInt8) : six d 0 = 0 := rfl
theorem six_succ (d : List UInt8) (k : Nat) (h : k < d.length) : six d (k + 1) = 256 * six d k + (d[k]'h).toNat := by
  unfold six
  rw [List.take_succ_eq_append_getElem h, List.foldl_append]; rfl
theorem six_lt (d : List UInt8) : ∀ k, k ≤ d.length → six d k < 256 ^ k
  | 0, _ => by simp [six]
  | k + 1, h => by
    have ih := six_lt d k (by omega)
    rw [six_succ d k (by omega), Nat.pow_succ]
    have := (d[k]'(by omega)).toNat_lt
    omega
/-- The number of a text, modulo a number. -/
def hash (t : List UInt8) (m : Nat) : Nat := six (Ms.digest t) 6 % m
theorem hash_lt (t : List UInt8) (m : Nat) (h : 1 ≤ m) : hash t m < m := Nat.mod_lt _ h
/-- What a signature is bound by. -/
def bound (r y : Nat) (t : List UInt8) : Nat := hash (Mb.putNum r ++ Mb.putNum y ++ t) 5003
theorem bound_lt (r y : Nat) (t : List UInt8) : bound r y t < 5003 := hash_lt _ _ (by omega)
def pub (x : Nat) : Nat := pw 4 x 10007
theorem pub_lt (x : Nat) : pub x < 10007 := pw_lt _ _ _ (by omega)
def kOf (x : Nat) (t : List UInt8) : Nat := hash (Mb.putNum x ++ t) 5002 + 1
theorem kOf_le (x : Nat) (t : List UInt8) : kOf x t ≤ 5002 := by
  have := hash_lt (Mb.putNum x ++ t) 5002 (by omega)
  unfold kOf; omega
def sigE (x : Nat) (t : List UInt8) : Nat := bound (pw 4 (kOf x t) 10007) (pub x) t
theorem sigE_lt (x : Nat) (t : List UInt8) : sigE x t < 5003 := bound_lt _ _ _
def sigS (x : Nat) (t : List UInt8) : Nat := (kOf x t + sigE x t * x) % 5003
theorem sigS_lt (x : Nat) (t : List UInt8) : sigS x t < 5003 := Nat.mod_lt _ (by omega)
/-- The power that the two numbers of a signature make. -/
def back (y e s : Nat) : Nat := pw 4 s 10007 * pw y (5003 - e) 10007 % 10007
theorem back_lt (y e s : Nat) : back y e s < 10007 := Nat.mod_lt _ (by omega)
/-- The same, of any group. -/
theorem pw_meet (g p q k e x : Nat) (h : pw g q p = 1) (he : e < q) : pw g ((k + e * x) % q) p * pw (pw g x p) (q - e) p % p = pw g k p := meet g p q k e x h he
theorem pw_one (g p q x : Nat) (h : pw g q p = 1) (hp : 1 < p) : pw (pw g x p) q p = 1 := public_one g p q x h hp
theorem pw_pos (g p q x : Nat) (h : pw g q p = 1) (hp : 1 < p) (hq : 0 < q) : 0 < pw g x p := public_pos g p q x h hp hq
theorem pw_group : pw 4 5003 10007 = 1 := by decide +kernel
theorem back_sig (x : Nat) (t : List UInt8) : back (pub x) (sigE x t) (sigS x t) = pw 4 (kOf x t) 10007 := by
  have he := sigE_lt x t
  unfold back sigS pub
  generalize sigE x t = e at *
  exact pw_meet 4 10007 5003 (kOf x t) e x pw_group he
theorem bound_sig (x : Nat) (t : List UInt8) : bound (back (pub x) (sigE x t) (sigS x t)) (pub x) t = sigE x t := by
  rw [back_sig]; rfl
theorem pub_one (x : Nat) : pw (pub x) 5003 10007 = 1 := by unfold pub; exact pw_one 4 10007 5003 x pw_group (by omega)
theorem pub_pos (x : Nat) : 1 ≤ pub x := by unfold pub; exact pw_pos 4 10007 5003 x pw_group (by omega) (by omega)
theorem pw_more (a n m : Nat) : pw a (n + 1) m = pw a n m * (a % m) % m := more a n m

/-- What the functions of the chapter answer, at whatever argument. -/
def powR (a n m : Int) : Nat := if 0 ≤ a ∧ a ≤ 1000000 ∧ 0 ≤ n ∧ n ≤ 1000000000 ∧ 1 ≤ m ∧ m ≤ 1000000 then pw a.toNat n.toNat m.toNat else 0
def hashR (t : List UInt8) (m : Int) : Nat := if t.length ≤ 8000 ∧ 1 ≤ m ∧ m ≤ 1000000 then hash t m.toNat else 0
def pubR (x : Int) : Nat := if 1 ≤ x ∧ x ≤ 5002 then pub x.toNat else 0
def signR (x : Int) (t : List UInt8) : Nat × Nat := if t.length ≤ 8000 ∧ 1 ≤ x ∧ x ≤ 5002 then (sigE x.toNat t, sigS x.toNat t) else (0, 0)
def rightR (e s : Int) : Bool := decide (0 ≤ e ∧ e ≤ 5002 ∧ 0 ≤ s ∧ s ≤ 5002)
def verR (y : Int) (t : List UInt8) (e s : Int) : Bool :=
  decide (t.length ≤ 8000 ∧ 1 ≤ y ∧ y ≤ 10006 ∧ pw y.toNat 5003 10007 = 1 ∧ (0 ≤ e ∧ e ≤ 5002 ∧ 0 ≤ s ∧ s ≤ 5002) ∧ bound (back y.toNat e.toNat s.toNat) y.toNat t = e.toNat)
theorem signR_yes {x : Int} {t : List UInt8} (ht : t.length ≤ 8000) (h1 : 1 ≤ x) (h2 : x ≤ 5002) : signR x t = (sigE x.toNat t, sigS x.toNat t) := by
  unfold signR; rw [if_pos ⟨ht, h1, h2⟩]
theorem verR_yes {y e s : Nat} {t : List UInt8} (ht : t.length ≤ 8000) (y1 : 1 ≤ y) (y2 : y ≤ 10006) (hp : pw y 5003 10007 = 1) (he : e ≤ 5002) (hs : s ≤ 5002) (hb : bound (back y e s) y t = e) :
    verR y t e s = true := by
  unfold verR
  exact decide_eq_true ⟨ht, by omega, by omega, hp, ⟨by omega, by omega, by omega, by omega⟩, hb⟩
/-- What is signed by a secret is verified by its public. -/
theorem verR_sign {x : Int} {t : List UInt8} (ht : t.length ≤ 8000) (h1 : 1 ≤ x) (h2 : x ≤ 5002) : verR (pubR x) t (signR x t).1 (signR x t).2 = true := by
  have hp : pubR x = pub x.toNat := by unfold pubR; rw [if_pos ⟨h1, h2⟩]
  rw [signR_yes ht h1 h2, hp]
  exact verR_yes ht (pub_pos _) (Nat.le_of_lt_succ (pub_lt _)) (pub_one _) (Nat.le_of_lt_succ (sigE_lt _ _)) (Nat.le_of_lt_succ (sigS_lt _ _)) (bound_sig _ _)
theorem rightR_sign (x : Int) (t : List UInt8) : rightR (signR x t).1 (signR x t).2 = true := by
  unfold rightR
  rw [decide_eq_true_iff]
  unfold signR
  split
  · have a3 := sigE_lt x.toNat t
    have a4 := sigS_lt x.toNat t
    exact ⟨by omega, by omega, by omega, by omega⟩
  · exact ⟨by omega, by omega, by omega, by omega⟩
/-- Powers go over sums. -/
theorem powR_more {a n m : Int} (a0 : 0 ≤ a) (a1 : a ≤ 1000000) (n0 : 0 ≤ n) (n1 : n ≤ 9999) (m0 : 1 ≤ m) (m1 : m ≤ 1000000) :
    (powR a (n + 1) m : Int) = (powR a n m : Int) * (a % m) % m := by
  unfold powR
  rw [if_pos ⟨a0, a1, by omega, by omega, m0, m1⟩, if_pos ⟨a0, a1, n0, by omega, m0, m1⟩]
  obtain ⟨a', rfl⟩ := Int.eq_ofNat_of_zero_le a0
  obtain ⟨n', rfl⟩ := Int.eq_ofNat_of_zero_le n0
  obtain ⟨m', rfl⟩ := Int.eq_ofNat_of_zero_le (show 0 ≤ m by omega)
  have : ((n' : Int) + 1).toNat = n' + 1 := by omega
  rw [this]
  simp only [Int.toNat_natCast]
  rw [pw_more, Int.natCast_emod, Int.natCast_mul, Int.natCast_emod]
end Go.Proofs.YtkpjdmmgdmbmnabDoor.Sg
