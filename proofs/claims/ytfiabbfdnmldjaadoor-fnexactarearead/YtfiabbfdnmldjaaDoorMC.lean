/-
  Plain facts: bytes from which a number is got are the bytes of that number. No program is named here.
-/
import Derived.Test.YtfiabbfdnmldjaaDoorM5
namespace Go.Proofs.YtfiabbfdnmldjaaDoor.Mn
open Mb Mg
theorem drop_byte {s : ByteArray} {k : Nat} (h : k < s.size) : s.data.toList.drop k = UInt8.ofNat (byteN s k) :: s.data.toList.drop (k + 1) := by
  have hk : k < s.data.toList.length := by have e : s.data.toList.length = s.size := Array.length_toList; omega
  rw [List.drop_eq_getElem_cons hk, byteN_eq h]
  congr 1
  have : s[k] = s.data.toList[k] := by simp; rfl
  rw [← this]
  simp
theorem from_inv (s : ByteArray) (a : Nat) : ∀ (f i u r b : Nat), f + i = 9 → getFrom s a (f + 1) i u = (r, b, 0) →
    ∃ v, r = u + v * 2 ^ (7 * i) ∧ v < 2 * 128 ^ f ∧ (i = 0 ∨ 0 < v) ∧ s.data.toList.drop (a + i) = leb f v ++ s.data.toList.drop b ∧ b = a + i + (leb f v).length ∧ b ≤ s.size
  | f, i, u, r, b, hf, hg => by
    by_cases hs : a + i < s.size
    · by_cases h9 : i = 9 ∧ 1 < byteN s (a + i)
      · rw [from_wide hs h9] at hg; simp at hg
      · by_cases hl : byteN s (a + i) < 128
        · by_cases h0 : byteN s (a + i) = 0 ∧ 0 < i
          · rw [from_zero hs h9 h0] at hg; simp at hg
          · rw [from_last hs h9 hl h0] at hg
            simp only [Prod.mk.injEq] at hg
            obtain ⟨h1, h2, _⟩ := hg
            refine ⟨byteN s (a + i), by rw [← h1, Nat.mod_eq_of_lt hl], ?_, by omega, ?_, ?_, by omega⟩
            · cases f with
              | zero => omega
              | succ g => have : 1 ≤ 128 ^ g := Nat.one_le_pow _ _ (by omega)
                          rw [Nat.pow_succ]; omega
            · rw [leb_small f _ hl, drop_byte hs, ← h2]; rfl
            · rw [leb_small f _ hl]; simp; omega
        · have hgp : ∃ g, f = g + 1 := by
            cases f with
            | zero => omega
            | succ g => exact ⟨g, rfl⟩
          obtain ⟨g, rfl⟩ := hgp
          rw [from_more hs h9 hl] at hg
          obtain ⟨v, h1, h2, h3, h4, h5, h6⟩ := from_inv s a g (i + 1) _ r b (by omega) hg
          have hv : 0 < v := by omega
          have hb := byteN_lt s (a + i)
          generalize hc : byteN s (a + i) = c at *
          have e1 : (c % 128 + 128 * v) % 128 = c % 128 := by omega
          have e2 : (c % 128 + 128 * v) / 128 = v := by omega
          refine ⟨c % 128 + 128 * v, ?_, ?_, .inr (by omega), ?_, ?_, h6⟩
          · rw [h1, pow_succ7, Nat.add_mul, Nat.add_assoc]
            congr 2
            rw [← Nat.mul_assoc, Nat.mul_comm v 128]
          · rw [Nat.pow_succ]; omega
          · rw [leb_great g _ (by omega), e1, e2, drop_byte hs, hc]
            have e3 : c % 128 + 128 = c := by omega
            rw [e3]
            show _ = UInt8.ofNat c :: (leb g v ++ _)
            rw [← h4]; rfl
          · rw [leb_great g _ (by omega), e2, h5]; simp; omega
    · rw [from_short hs] at hg; simp at hg
theorem fold_unfold (u : Nat) : foldU (unfoldI u) = u := by
  unfold unfoldI foldU
  split <;> split <;> omega
/-- What was got stands there. -/
theorem get_inv {s : ByteArray} {a u b : Nat} (h : getFrom s a 10 0 0 = (u, b, 0)) :
    s.data.toList.drop a = putNum (unfoldI u) ++ s.data.toList.drop b ∧ b = a + (putNum (unfoldI u)).length ∧ b ≤ s.size ∧ -9223372036854775808 ≤ unfoldI u ∧ unfoldI u ≤ 9223372036854775807 := by
  obtain ⟨v, h1, h2, -, h4, h5, h6⟩ := from_inv s a 9 0 0 u b rfl h
  have e : v = u := by simp at h1; exact h1.symm
  subst e
  unfold putNum
  rw [fold_unfold]
  refine ⟨by simpa using h4, by simpa using h5, h6, ?_, ?_⟩
  · unfold unfoldI; split <;> omega
  · unfold unfoldI; split <;> omega
end Go.Proofs.YtfiabbfdnmldjaaDoor.Mn
