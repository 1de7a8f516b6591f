/-
  Plain facts: a number is got back from its bytes; of bytes that end too early nothing is got. No program is named here.
-/
import Derived.Test.YtgmejbnolfmcdabM1
import Derived.Test.YtgmejbnolfmcdabM3
namespace Go.Proofs.Ytgmejbnolfmcdab.Mn
open Mb Mg

theorem mk_size (l : List UInt8) : (⟨l.toArray⟩ : ByteArray).size = l.length := by simp [ByteArray.size]
theorem drop_cons {L r : List UInt8} {k : Nat} {c : UInt8} (h : L.drop k = c :: r) : k < (⟨L.toArray⟩ : ByteArray).size ∧ byteN ⟨L.toArray⟩ k = c.toNat ∧ L.drop (k + 1) = r := by
  have hk : k < L.length := by
    rcases Nat.lt_or_ge k L.length with h' | h'
    · exact h'
    · rw [List.drop_eq_nil_of_le h'] at h; simp at h
  have hs : k < (⟨L.toArray⟩ : ByteArray).size := by rw [mk_size]; exact hk
  rw [List.drop_eq_getElem_cons hk] at h
  simp only [List.cons.injEq] at h
  refine ⟨hs, ?_, h.2⟩
  rw [byteN_eq hs]
  have : (⟨L.toArray⟩ : ByteArray)[k] = L[k] := rfl
  rw [this, h.1]
theorem drop_nil {L : List UInt8} {k : Nat} (h : L.drop k = []) : ¬ k < (⟨L.toArray⟩ : ByteArray).size := by
  rw [mk_size]
  have := List.drop_eq_nil_iff.1 h
  omega
theorem toNat_small {v : Nat} (h : v < 128) : (UInt8.ofNat v).toNat = v := by simp [UInt8.toNat_ofNat']; omega
theorem toNat_great (v : Nat) : (UInt8.ofNat (v % 128 + 128)).toNat = v % 128 + 128 := by simp [UInt8.toNat_ofNat']; omega
theorem great_pos {f v : Nat} (hv : v < 2 * 128 ^ f) (h : 128 ≤ v) : ∃ g, f = g + 1 := by
  cases f with
  | zero => omega
  | succ g => exact ⟨g, rfl⟩

theorem from_leb (L rest : List UInt8) (a : Nat) : ∀ (f i v u : Nat), f + i = 9 → v < 2 * 128 ^ f → (i = 0 ∨ 0 < v) → L.drop (a + i) = leb f v ++ rest →
    getFrom ⟨L.toArray⟩ a (f + 1) i u = (u + v * 2 ^ (7 * i), a + i + (leb f v).length, 0)
  | f, i, v, u, hf, hv, h0, hd => by
    by_cases h : v < 128
    · rw [leb_small f v h] at hd ⊢
      obtain ⟨hs, hb, _⟩ := drop_cons hd
      rw [toNat_small h] at hb
      rw [from_last hs (by rw [hb]; intro hh; have : f = 0 := by omega
                           subst this; omega) (by omega) (by omega), hb, Nat.mod_eq_of_lt h]
      rfl
    · obtain ⟨g, rfl⟩ := great_pos hv (by omega)
      rw [leb_great g v (by omega)] at hd ⊢
      obtain ⟨hs, hb, hr⟩ := drop_cons hd
      rw [toNat_great] at hb
      rw [from_more hs (by rw [hb]; omega) (by omega), hb]
      have ih := from_leb L rest a g (i + 1) (v / 128) (u + (v % 128 + 128) % 128 * 2 ^ (7 * i)) (by omega) (pow_step g v hv) (.inr (by omega)) hr
      rw [ih, pow_succ7]
      refine Prod.ext ?_ (Prod.ext ?_ rfl)
      · show u + (v % 128 + 128) % 128 * 2 ^ (7 * i) + v / 128 * (128 * 2 ^ (7 * i)) = u + v * 2 ^ (7 * i)
        have e1 : (v % 128 + 128) % 128 = v % 128 := by omega
        rw [e1, ← Nat.mul_assoc, Nat.add_assoc, ← Nat.add_mul]
        congr 2
        omega
      · show a + (i + 1) + (leb g (v / 128)).length = a + i + (leb g (v / 128)).length.succ
        omega
theorem from_cut (L : List UInt8) (a : Nat) : ∀ (f i v u : Nat), f + i = 9 → v < 2 * 128 ^ f → L.drop (a + i) = (leb f v).dropLast →
    getFrom ⟨L.toArray⟩ a (f + 1) i u = (0, 0, 4)
  | f, i, v, u, hf, hv, hd => by
    by_cases h : v < 128
    · rw [leb_small f v h] at hd
      exact from_short (drop_nil hd)
    · obtain ⟨g, rfl⟩ := great_pos hv (by omega)
      rw [leb_great g v (by omega)] at hd
      have hne : leb g (v / 128) ≠ [] := fun e => by have := (leb_len g (v / 128)).1; rw [e] at this; simp at this
      rw [List.dropLast_cons_of_ne_nil hne] at hd
      obtain ⟨hs, hb, hr⟩ := drop_cons hd
      rw [toNat_great] at hb
      rw [from_more hs (by rw [hb]; omega) (by omega), hb]
      exact from_cut L a g (i + 1) (v / 128) _ (by omega) (pow_step g v hv) hr
theorem unfold_fold (n : Int) : unfoldI (foldU n) = n := by
  unfold unfoldI foldU
  split <;> split <;> omega
theorem get_put (n : Int) (pre post : List UInt8) (h1 : -9223372036854775808 ≤ n) (h2 : n ≤ 9223372036854775807) :
    getFrom ⟨(pre ++ putNum n ++ post).toArray⟩ pre.length 10 0 0 = (foldU n, pre.length + (putNum n).length, 0) := by
  have := from_leb (pre ++ putNum n ++ post) post pre.length 9 0 (foldU n) 0 rfl (foldU_lt n h1 h2) (.inl rfl) (by rw [Nat.add_zero, List.append_assoc, List.drop_left]; rfl)
  rw [this]
  simp [putNum]
theorem get_cut (n : Int) (h1 : -9223372036854775808 ≤ n) (h2 : n ≤ 9223372036854775807) :
    getFrom ⟨(putNum n).dropLast.toArray⟩ 0 10 0 0 = (0, 0, 4) :=
  from_cut (putNum n).dropLast 0 9 0 (foldU n) 0 rfl (foldU_lt n h1 h2) rfl
end Go.Proofs.Ytgmejbnolfmcdab.Mn
