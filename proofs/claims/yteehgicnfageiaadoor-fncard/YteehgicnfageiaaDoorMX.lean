/-
  Plain facts: what a number was got from is what it is put as. No program is named here.
-/
import Derived.Test.YteehgicnfageiaaDoorQA
namespace Go.Proofs.YteehgicnfageiaaDoor.Mx
open Mb Mg

theorem byteN_small {s : ByteArray} {j : Nat} (h : j < s.size) (hb : byteN s j < 128) : s.data.toList.drop j = UInt8.ofNat (byteN s j) :: s.data.toList.drop (j + 1) := by
  have hl : j < s.data.toList.length := h
  rw [List.drop_eq_getElem_cons hl]
  congr 1
  apply UInt8.toNat.inj
  rw [Mn.toNat_small hb, byteN_eq h]
  rfl
theorem byteN_great {s : ByteArray} {j : Nat} (h : j < s.size) (hb : ¬ byteN s j < 128) : s.data.toList.drop j = UInt8.ofNat (byteN s j % 128 + 128) :: s.data.toList.drop (j + 1) := by
  have hl : j < s.data.toList.length := h
  rw [List.drop_eq_getElem_cons hl]
  congr 1
  apply UInt8.toNat.inj
  rw [Mn.toNat_great]
  have h256 := byteN_lt s j
  rw [show byteN s j % 128 + 128 = byteN s j by omega, byteN_eq h]
  rfl
theorem canon (s : ByteArray) (a : Nat) : ∀ (f i u U B : Nat), f + i = 9 → getFrom s a (f + 1) i u = (U, B, 0) →
    ∃ v, v < 2 * 128 ^ f ∧ (i = 0 ∨ 0 < v) ∧ U = u + v * 2 ^ (7 * i) ∧ s.data.toList.drop (a + i) = leb f v ++ s.data.toList.drop B ∧ a ≤ B ∧ B ≤ s.size
  | f, i, u, U, B, hf, h => by
    by_cases hs : a + i < s.size
    · by_cases h9 : i = 9 ∧ 1 < byteN s (a + i)
      · rw [from_wide hs h9] at h; simp at h
      · by_cases hl : byteN s (a + i) < 128
        · by_cases h0 : byteN s (a + i) = 0 ∧ 0 < i
          · rw [from_zero hs h9 h0] at h; simp at h
          · rw [from_last hs h9 hl h0] at h
            simp only [Prod.mk.injEq] at h
            obtain ⟨rfl, rfl, _⟩ := h
            refine ⟨byteN s (a + i), ?_, ?_, ?_, ?_, by omega, by omega⟩
            · cases f with
              | zero => have : i = 9 := by omega
                        simp; omega
              | succ g => have := Nat.one_le_two_pow (n := 7 * g)
                          have e : 128 ^ g = 2 ^ (7 * g) := by rw [Nat.pow_mul]
                          rw [Nat.pow_succ, e]; omega
            · rcases Nat.eq_zero_or_pos i with e | e
              · exact .inl e
              · exact .inr (by omega)
            · rw [Nat.mod_eq_of_lt hl]
            · rw [leb_small f _ hl]
              exact byteN_small hs hl
        · rw [from_more hs h9 hl] at h
          cases f with
          | zero => simp [getFrom] at h
          | succ g =>
            obtain ⟨v, hv, h1, hU, hd, ha, hB⟩ := canon s a g (i + 1) _ U B (by omega) h
            have h256 := byteN_lt s (a + i)
            have hv0 : 0 < v := by rcases h1 with e | e <;> omega
            refine ⟨byteN s (a + i) % 128 + 128 * v, ?_, .inr (by omega), ?_, ?_, ha, hB⟩
            · rw [Nat.pow_succ]; omega
            · rw [hU, pow_succ7, Nat.add_assoc]
              congr 1
              rw [Nat.add_mul, ← Nat.mul_assoc]
              congr 1
              rw [Nat.mul_comm v 128]
            · rw [leb_great g _ (by omega), byteN_great hs hl, show (byteN s (a + i) % 128 + 128 * v) % 128 = byteN s (a + i) % 128 by omega, show (byteN s (a + i) % 128 + 128 * v) / 128 = v by omega]
              rw [show a + i + 1 = a + (i + 1) by omega, hd]
              rfl
    · rw [from_short hs] at h; simp at h
theorem fold_unfold (u : Nat) : foldU (unfoldI u) = u := by
  unfold foldU unfoldI
  split <;> split <;> omega
theorem get_canon {s : ByteArray} {a U B : Nat} (h : getFrom s a 10 0 0 = (U, B, 0)) :
    s.data.toList.drop a = putNum (unfoldI U) ++ s.data.toList.drop B ∧ a ≤ B ∧ B ≤ s.size ∧ -9223372036854775808 ≤ unfoldI U ∧ unfoldI U ≤ 9223372036854775807 := by
  obtain ⟨v, hv, _, hU, hd, ha, hB⟩ := canon s a 9 0 0 U B rfl h
  have hvU : U = v := by simpa using hU
  subst hvU
  refine ⟨?_, ha, hB, ?_⟩
  · unfold putNum; rw [fold_unfold]; exact hd
  · unfold unfoldI
    split <;> omega
end Go.Proofs.YteehgicnfageiaaDoor.Mx
