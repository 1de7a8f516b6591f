/-
  Plain facts on SHA-256: numbers below 2^32, a block's numbers, rounds, the state, the text filled up. No program is named here.
-/
import Derived.Laws.BitsAllLaws
namespace Go.Proofs.YtkpjdmmgdmbmnaaDoor.Ms
abbrev B32 : Nat := 4294967296

def rotr (x k : Nat) : Nat := (x / 2 ^ k) ||| (x * 2 ^ (32 - k) % 4294967296)
def add (a b : Nat) : Nat := (a + b) % 4294967296
def inv (a : Nat) : Nat := 4294967295 - a
def low0 (x : Nat) : Nat := (rotr x 7 ^^^ rotr x 18) ^^^ (x / 8)
def low1 (x : Nat) : Nat := (rotr x 17 ^^^ rotr x 19) ^^^ (x / 1024)
def up0 (x : Nat) : Nat := (rotr x 2 ^^^ rotr x 13) ^^^ rotr x 22
def up1 (x : Nat) : Nat := (rotr x 6 ^^^ rotr x 11) ^^^ rotr x 25
def ch (e f g : Nat) : Nat := (e &&& f) ^^^ (inv e &&& g)
def maj (a b c : Nat) : Nat := ((a &&& b) ^^^ (a &&& c)) ^^^ (b &&& c)

theorem xor_lt {a b : Nat} (ha : a < 4294967296) (hb : b < 4294967296) : a ^^^ b < 4294967296 := Nat.xor_lt_two_pow (n := 32) ha hb
theorem and_lt {a b : Nat} (ha : a < 4294967296) : a &&& b < 4294967296 := Nat.lt_of_le_of_lt Nat.and_le_left ha
theorem or_lt {a b : Nat} (ha : a < 4294967296) (hb : b < 4294967296) : a ||| b < 4294967296 := Nat.or_lt_two_pow (n := 32) ha hb
theorem add_lt (a b : Nat) : add a b < 4294967296 := Nat.mod_lt _ (by omega)
theorem inv_lt (a : Nat) : inv a < 4294967296 := by unfold inv; omega
theorem div_lt {x : Nat} (k : Nat) (h : x < 4294967296) : x / k < 4294967296 := Nat.lt_of_le_of_lt (Nat.div_le_self _ _) h
theorem rotr_lt {x : Nat} (k : Nat) (h : x < 4294967296) : rotr x k < 4294967296 := or_lt (div_lt _ h) (Nat.mod_lt _ (by omega))
theorem low0_lt {x : Nat} (h : x < 4294967296) : low0 x < 4294967296 := xor_lt (xor_lt (rotr_lt _ h) (rotr_lt _ h)) (div_lt _ h)
theorem low1_lt {x : Nat} (h : x < 4294967296) : low1 x < 4294967296 := xor_lt (xor_lt (rotr_lt _ h) (rotr_lt _ h)) (div_lt _ h)
theorem up0_lt {x : Nat} (h : x < 4294967296) : up0 x < 4294967296 := xor_lt (xor_lt (rotr_lt _ h) (rotr_lt _ h)) (rotr_lt _ h)
theorem up1_lt {x : Nat} (h : x < 4294967296) : up1 x < 4294967296 := xor_lt (xor_lt (rotr_lt _ h) (rotr_lt _ h)) (rotr_lt _ h)
theorem ch_lt {e f g : Nat} (h : e < 4294967296) : ch e f g < 4294967296 := xor_lt (and_lt h) (and_lt (inv_lt e))
theorem maj_lt {a b c : Nat} (h : a < 4294967296) (hb : b < 4294967296) : maj a b c < 4294967296 := xor_lt (xor_lt (and_lt h) (and_lt h)) (and_lt hb)

/-- The four bytes of a block from place 4 i on, the highest first. -/
def byteAt (l : List UInt8) (i : Nat) : Nat := (l.getD i 0).toNat
theorem byteAt_lt (l : List UInt8) (i : Nat) : byteAt l i < 256 := (l.getD i 0).toNat_lt
def word (l : List UInt8) (i : Nat) : Nat := byteAt l (4 * i) * 16777216 + byteAt l (4 * i + 1) * 65536 + byteAt l (4 * i + 2) * 256 + byteAt l (4 * i + 3)
theorem word_lt (l : List UInt8) (i : Nat) : word l i < 4294967296 := by
  have h0 := byteAt_lt l (4 * i)
  have h1 := byteAt_lt l (4 * i + 1)
  have h2 := byteAt_lt l (4 * i + 2)
  have h3 := byteAt_lt l (4 * i + 3)
  unfold word; omega
/-- The number that the first j of those four bytes make. -/
def part (l : List UInt8) (i : Nat) : Nat → Nat
  | 0 => 0
  | j + 1 => part l i j * 256 + byteAt l (4 * i + j)
theorem part_lt (l : List UInt8) (i : Nat) : ∀ j, part l i j < 256 ^ j
  | 0 => by simp [part]
  | j + 1 => by
    have h := part_lt l i j
    have h2 := byteAt_lt l (4 * i + j)
    rw [Nat.pow_succ]; simp only [part]; omega
theorem part_four (l : List UInt8) (i : Nat) : part l i 4 = word l i := by simp only [part, word, Nat.add_zero]; omega
/-- The numbers w of a block. -/
def wAt (l : List UInt8) (i : Nat) : Nat :=
  if h : i < 16 then word l i
  else add (add (add (wAt l (i - 16)) (low0 (wAt l (i - 15)))) (wAt l (i - 7))) (low1 (wAt l (i - 2)))
theorem wAt_low (l : List UInt8) (i : Nat) (h : i < 16) : wAt l i = word l i := by rw [wAt]; simp [h]
theorem wAt_high (l : List UInt8) (n : Nat) : wAt l (n + 16) = add (add (add (wAt l n) (low0 (wAt l (n + 1)))) (wAt l (n + 9))) (low1 (wAt l (n + 14))) := by
  rw [wAt]
  simp only [show ¬ n + 16 < 16 by omega, dif_neg, not_false_eq_true]
  rw [show n + 16 - 16 = n by omega, show n + 16 - 15 = n + 1 by omega, show n + 16 - 7 = n + 9 by omega, show n + 16 - 2 = n + 14 by omega]
theorem wAt_lt (l : List UInt8) (i : Nat) : wAt l i < 4294967296 := by
  by_cases h : i < 16
  · rw [wAt_low l i h]; exact word_lt l i
  · obtain ⟨n, rfl⟩ : ∃ n, i = n + 16 := ⟨i - 16, by omega⟩
    rw [wAt_high]; exact add_lt _ _

structure St where
  (a b c d e f g h : Nat)
structure St.ok (s : St) : Prop where
  a : s.a < 4294967296
  b : s.b < 4294967296
  c : s.c < 4294967296
  d : s.d < 4294967296
  e : s.e < 4294967296
  f : s.f < 4294967296
  g : s.g < 4294967296
  h : s.h < 4294967296
def keys : List Nat := [
  0x428a2f98, 0x71374491, 0xb5c0fbcf, 0xe9b5dba5, 0x3956c25b, 0x59f111f1, 0x923f82a4, 0xab1c5ed5,
  0xd807aa98, 0x12835b01, 0x243185be, 0x550c7dc3, 0x72be5d74, 0x80deb1fe, 0x9bdc06a7, 0xc19bf174,
  0xe49b69c1, 0xefbe4786, 0x0fc19dc6, 0x240ca1cc, 0x2de92c6f, 0x4a7484aa, 0x5cb0a9dc, 0x76f988da,
  0x983e5152, 0xa831c66d, 0xb00327c8, 0xbf597fc7, 0xc6e00bf3, 0xd5a79147, 0x06ca6351, 0x14292967,
  0x27b70a85, 0x2e1b2138, 0x4d2c6dfc, 0x53380d13, 0x650a7354, 0x766a0abb, 0x81c2c92e, 0x92722c85,
  0xa2bfe8a1, 0xa81a664b, 0xc24b8b70, 0xc76c51a3, 0xd192e819, 0xd6990624, 0xf40e3585, 0x106aa070,
  0x19a4c116, 0x1e376c08, 0x2748774c, 0x34b0bcb5, 0x391c0cb3, 0x4ed8aa4a, 0x5b9cca4f, 0x682e6ff3,
  0x748f82ee, 0x78a5636f, 0x84c87814, 0x8cc70208, 0x90befffa, 0xa4506ceb, 0xbef9a3f7, 0xc67178f2]
def key (i : Nat) : Nat := keys.getD i 0
theorem keys_length : keys.length = 64 := by decide +kernel
theorem keys_all : ∀ k ∈ keys, k < 4294967296 := by decide +kernel
theorem key_lt (i : Nat) : key i < 4294967296 := by
  unfold key
  by_cases h : i < keys.length
  · have e : keys.getD i 0 = keys[i] := by simp [List.getD, h]
    rw [e]; exact keys_all _ (List.getElem_mem h)
  · have e : keys.getD i 0 = 0 := by simp [List.getD, List.getElem?_eq_none (Nat.le_of_not_lt h)]
    rw [e]; omega
def t1 (s : St) (k w : Nat) : Nat := add (add (add (add s.h (up1 s.e)) (ch s.e s.f s.g)) k) w
def t2 (s : St) : Nat := add (up0 s.a) (maj s.a s.b s.c)
def rnd (s : St) (k w : Nat) : St := ⟨add (t1 s k w) (t2 s), s.a, s.b, s.c, add s.d (t1 s k w), s.e, s.f, s.g⟩
theorem rnd_ok {s : St} (k w : Nat) (h : s.ok) : (rnd s k w).ok := ⟨add_lt _ _, h.a, h.b, h.c, add_lt _ _, h.e, h.f, h.g⟩
def rnds (s : St) (l : List UInt8) : Nat → St
  | 0 => s
  | i + 1 => rnd (rnds s l i) (key i) (wAt l i)
theorem rnds_ok {s : St} (l : List UInt8) (h : s.ok) : ∀ i, (rnds s l i).ok
  | 0 => h
  | i + 1 => rnd_ok _ _ (rnds_ok l h i)
def plus (s t : St) : St := ⟨add s.a t.a, add s.b t.b, add s.c t.c, add s.d t.d, add s.e t.e, add s.f t.f, add s.g t.g, add s.h t.h⟩
theorem plus_ok (s t : St) : (plus s t).ok := ⟨add_lt _ _, add_lt _ _, add_lt _ _, add_lt _ _, add_lt _ _, add_lt _ _, add_lt _ _, add_lt _ _⟩
/-- One block more. -/
def blk (s : St) (l : List UInt8) : St := plus s (rnds s l 64)
def start : St := ⟨0x6a09e667, 0xbb67ae85, 0x3c6ef372, 0xa54ff53a, 0x510e527f, 0x9b05688c, 0x1f83d9ab, 0x5be0cd19⟩
theorem start_ok : start.ok := ⟨by decide, by decide, by decide, by decide, by decide, by decide, by decide, by decide⟩
def states (p : List UInt8) : Nat → St
  | 0 => start
  | k + 1 => blk (states p k) ((p.drop (64 * k)).take 64)
theorem states_ok (p : List UInt8) : ∀ k, (states p k).ok
  | 0 => start_ok
  | _ + 1 => plus_ok _ _
def St.list (s : St) : List Nat := [s.a, s.b, s.c, s.d, s.e, s.f, s.g, s.h]
def be4 (n : Nat) : List UInt8 := [UInt8.ofNat (n / 16777216), UInt8.ofNat (n / 65536), UInt8.ofNat (n / 256), UInt8.ofNat n]
def bytes (s : St) : List UInt8 := s.list.flatMap be4
theorem bytes_length (s : St) : (bytes s).length = 32 := rfl
/-- The text filled up to whole blocks. -/
def blocks (n : Nat) : Nat := (n + 8) / 64 + 1
def be8 (n : Nat) : List UInt8 := [UInt8.ofNat (n / 72057594037927936), UInt8.ofNat (n / 281474976710656), UInt8.ofNat (n / 1099511627776), UInt8.ofNat (n / 4294967296), UInt8.ofNat (n / 16777216), UInt8.ofNat (n / 65536), UInt8.ofNat (n / 256), UInt8.ofNat n]
def pad (l : List UInt8) : List UInt8 := l ++ 128 :: (List.replicate (64 * blocks l.length - 9 - l.length) 0 ++ be8 (8 * l.length))
theorem blocks_room (n : Nat) : n + 9 ≤ 64 * blocks n := by unfold blocks; omega
theorem pad_length (l : List UInt8) : (pad l).length = 64 * blocks l.length := by
  have := blocks_room l.length
  simp only [pad, List.length_append, List.length_cons, List.length_replicate, be8, List.length_nil]; omega
def digest (l : List UInt8) : List UInt8 := bytes (states (pad l) (blocks l.length))
theorem digest_length (l : List UInt8) : (digest l).length = 32 := rfl
/-- A key filled up to a block, each byte put together with a mask. -/
def full (l : List UInt8) : List UInt8 := l ++ List.replicate (64 - l.length) 0
def mask (l : List UInt8) (m : UInt8) : List UInt8 := (full l).map (· ^^^ m)
theorem full_length (l : List UInt8) (h : l.length ≤ 64) : (full l).length = 64 := by simp [full]; omega
theorem mask_length (l : List UInt8) (m : UInt8) (h : l.length ≤ 64) : (mask l m).length = 64 := by simp [mask, full_length l h]
def keyOf (k : List UInt8) : List UInt8 := if 64 < k.length then digest k else k
theorem keyOf_le (k : List UInt8) : (keyOf k).length ≤ 64 := by
  unfold keyOf; split
  · rw [digest_length]; omega
  · omega
def mac (k l : List UInt8) : List UInt8 := digest (mask (keyOf k) 92 ++ digest (mask (keyOf k) 54 ++ l))
theorem mac_length (k l : List UInt8) : (mac k l).length = 32 := rfl
def salt : List UInt8 := [115, 97, 108, 116]
def stretch (p : List UInt8) : Nat → List UInt8
  | 0 => salt
  | n + 1 => mac p (stretch p n)
end Go.Proofs.YtkpjdmmgdmbmnaaDoor.Ms
