/-
  What six were read from is what they are put as: a card that is read is the card whose bytes they are.
-/
import Derived.Test.YteehgicnfageiaaDoorN3
import Derived.Test.YteehgicnfageiaaDoorN2
import Derived.Test.YteehgicnfageiaaDoorQB
import Derived.Test.YteehgicnfageiaaDoorMX
import Derived.Test.YteehgicnfageiaaDoorP1
namespace Go.Proofs.YteehgicnfageiaaDoor.N4
open Go.RowKit
open Go.Proofs.YteehgicnfageiaaDoor.CH Go.Proofs.YteehgicnfageiaaDoor.CK Go.Proofs.YteehgicnfageiaaDoor.N3
open Go.Proofs.YteehgicnfageiaaDoor.N0 (Cd cdV cardB)
open Go.Proofs.YteehgicnfageiaaDoor.N2 (numT textT cardT cardBytes)
open Go.Proofs.YteehgicnfageiaaDoor.P1 (CO coV ill)

theorem num_canon {s : ByteArray} {a : Int} (h : (tr s a).2.2 = 0) :
    s.data.toList.drop a.toNat = Mb.putNum (tr s a).1 ++ s.data.toList.drop (tr s a).2.1 ∧ -9223372036854775808 ≤ (tr s a).1 ∧ (tr s a).1 ≤ 9223372036854775807 := by
  unfold tr at h ⊢
  split at h <;> rename_i h1
  · simp at h
  rw [if_neg h1]
  split at h <;> rename_i h2
  · simp at h
  rw [if_neg h2]
  split at h <;> rename_i h3
  · rw [if_pos h3]
    obtain ⟨U, B, c, hR⟩ : ∃ U B c, Mg.getFrom s a.toNat 10 0 0 = (U, B, c) := ⟨_, _, _, rfl⟩
    rw [hR] at h3 ⊢
    dsimp only at h3 ⊢
    subst h3
    obtain ⟨e1, _, _, e2, e3⟩ := Mx.get_canon hR
    exact ⟨e1, e2, e3⟩
  · exact absurd h h3
theorem drop_extract {s : ByteArray} {A N : Nat} : s.data.toList.drop A = (s.extract A (A + N)).data.toList ++ s.data.toList.drop (A + N) := by
  rw [Lib.extract_data]
  have : A + N - A = N := by omega
  rw [this, ← List.drop_drop, List.take_append_drop]
theorem text_canon {s : ByteArray} {a : Int} (h : (tx s a).2.2 = 0) :
    s.data.toList.drop a.toNat = C3.putText (tx s a).1 ++ s.data.toList.drop (tx s a).2.1.toNat ∧ (tx s a).1.size ≤ 8000 ∧ 0 ≤ (tx s a).2.1 := by
  obtain ⟨N, A, c, hT⟩ : ∃ N A c, tr s a = (N, A, c) := ⟨_, _, _, rfl⟩
  by_cases hc : c = 0
  · subst hc
    by_cases hN : N < 0 ∨ 8000 < N
    · rw [tx_size hT hN] at h; simp at h
    · by_cases hA : (s.size : Int) < A + N
      · rw [tx_short hT hN hA] at h; simp at h
      · obtain ⟨n, rfl⟩ := Int.eq_ofNat_of_zero_le (show 0 ≤ N by omega)
        have hz : A + n ≤ s.size := by omega
        have hs : (s.extract A (A + n)).size = n := by rw [ByteArray.size_extract]; omega
        have e := num_canon (show (tr s a).2.2 = 0 by rw [hT])
        rw [hT] at e
        dsimp only at e
        rw [tx_good hT hN hA, Int.toNat_natCast]
        dsimp only
        have hto : ((A : Int) + (n : Int)).toNat = A + n := by omega
        refine ⟨?_, by rw [hs]; omega, by omega⟩
        rw [e.1, CL.put_list (by rw [hs]; omega), hs, List.append_assoc, hto, ← drop_extract]
  · rw [tx_bad hT hc] at h; exact absurd h hc

/-- A reader stands behind what was put. -/
def Stp (s : ByteArray) (L : List UInt8) (q : Int × Bool) : Prop := 0 ≤ q.1 ∧ q.1 ≤ s.size ∧ (q.2 = false → s.data.toList = L ++ s.data.toList.drop q.1.toNat)
theorem Stp.num {s : ByteArray} {L : List UInt8} {q : Int × Bool} (h : Stp s L q) : Stp s (L ++ Mb.putNum (rdNum s q).1) (rdNum s q).2 := by
  refine ⟨(rdNum_at s q h.1 h.2.1).1, (rdNum_at s q h.1 h.2.1).2, fun hb => ?_⟩
  unfold rdNum at hb ⊢
  split at hb
  · next hk =>
    rw [if_pos hk]
    dsimp only
    have e := (num_canon hk.2).1
    rw [Int.toNat_natCast, List.append_assoc, ← e]
    exact h.2.2 hk.1
  · simp at hb
theorem Stp.text {s : ByteArray} {L : List UInt8} {q : Int × Bool} (h : Stp s L q) : Stp s (L ++ C3.putText (rdText s q).1) (rdText s q).2 := by
  refine ⟨(rdText_at s q h.1 h.2.1).1, (rdText_at s q h.1 h.2.1).2.1, fun hb => ?_⟩
  unfold rdText at hb ⊢
  split at hb
  · next hk =>
    rw [if_pos hk]
    dsimp only
    have e := (text_canon hk.2).1
    rw [List.append_assoc, ← e]
    exact h.2.2 hk.1
  · simp at hb
theorem num_range (s : ByteArray) (q : Int × Bool) : -9223372036854775808 ≤ (rdNum s q).1 ∧ (rdNum s q).1 ≤ 9223372036854775807 := by
  unfold rdNum
  split
  · next hk => exact (num_canon hk.2).2
  · dsimp only; omega
theorem stp0 (s : ByteArray) : Stp s [] (0, false) := ⟨Int.le_refl _, by show (0 : Int) ≤ (s.size : Int); omega, fun _ => rfl⟩
/-- The card that is read, right or not. -/
def rdC (s : ByteArray) : Cd := ⟨(r1 s).1, (r2 s).1, (r3 s).1, (r4 s).1, (r5 s).1, (r6 s).1⟩
theorem cardT_list (c : Cd) : (cardT c).data.toList = Mb.putNum c.id ++ Mb.putNum c.ep ++ C3.putText c.pin ++ Mb.putNum c.tr ++ Mb.putNum c.ix ++ C3.putText c.dt := by
  unfold cardT numT textT
  simp
theorem stp6 (s : ByteArray) : Stp s (cardT (rdC s)).data.toList (r6 s).2 := by
  rw [cardT_list]
  have h1 : Stp s _ (r1 s).2 := (stp0 s).num
  have h2 : Stp s _ (r2 s).2 := h1.num
  have h3 : Stp s _ (r3 s).2 := h2.text
  have h4 : Stp s _ (r4 s).2 := h3.num
  have h5 : Stp s _ (r5 s).2 := h4.num
  have h6 : Stp s _ (r6 s).2 := h5.text
  exact h6
theorem ats (s : ByteArray) : (0 ≤ (r1 s).2.1 ∧ (r1 s).2.1 ≤ s.size) ∧ (0 ≤ (r2 s).2.1 ∧ (r2 s).2.1 ≤ s.size) ∧ (0 ≤ (r3 s).2.1 ∧ (r3 s).2.1 ≤ s.size) ∧ (0 ≤ (r4 s).2.1 ∧ (r4 s).2.1 ≤ s.size) ∧ (0 ≤ (r5 s).2.1 ∧ (r5 s).2.1 ≤ s.size) ∧ (0 ≤ (r6 s).2.1 ∧ (r6 s).2.1 ≤ s.size) ∧ (r3 s).1.size ≤ s.size ∧ (r6 s).1.size ≤ s.size := by
  have h1 := rdNum_at s (0, false) (Int.le_refl _) (by show (0 : Int) ≤ (s.size : Int); omega)
  have h2 := rdNum_at s (r1 s).2 h1.1 h1.2
  have h3 := rdText_at s (r2 s).2 h2.1 h2.2
  have h4 := rdNum_at s (r3 s).2 h3.1 h3.2.1
  have h5 := rdNum_at s (r4 s).2 h4.1 h4.2
  have h6 := rdText_at s (r5 s).2 h5.1 h5.2
  exact ⟨h1, h2, ⟨h3.1, h3.2.1⟩, h4, h5, ⟨h6.1, h6.2.1⟩, h3.2.2, h6.2.2⟩

theorem sealed_body {a : ByteArray} (h4 : 4 ≤ a.size) (h8 : a.size ≤ 8000) (h : C7.okB a = true) : (⟨(C6.sealOf (C7.body a)).toArray⟩ : ByteArray) = a := by
  have e := C7.okB_impl a h4 h8
  rw [h] at e
  have e2 : C6.sealOf (C7.body a) = a.toList := eq_of_beq e
  rw [e2, ByteArray.toList_eq]
theorem body_sealed {b : ByteArray} (h : b.size ≤ 7996) : C7.body ⟨(C6.sealOf b).toArray⟩ = b := by
  unfold C7.body
  rw [C6.seal_yes (by omega)]
  apply ByteArray.ext
  apply Array.ext'
  rw [Lib.extract_data, C6.size_mk, List.length_append]
  have hl : (C6.four (Mc.crcMore 0 b.data.toList)).length = 4 := rfl
  have hb : b.data.toList.length = b.size := rfl
  show ((b.data.toList ++ C6.four (Mc.crcMore 0 b.data.toList)).drop 0).take _ = b.data.toList
  rw [List.drop_zero, hl, hb, show b.size + 4 - 4 - 0 = b.size by omega]
  exact List.take_left' hb
/-- It is all read and a right card, just where its bytes are the bytes. -/
theorem read_iff {a : ByteArray} (h4 : 4 ≤ a.size) (h8 : a.size ≤ 8000) (h : C7.okB a = true) (hg : (r6 (C7.body a)).2.2 = false) :
    ((r6 (C7.body a)).2.1 = ((C7.body a).size : Int) ∧ cardB (rdC (C7.body a)) = true) ↔ cardBytes (rdC (C7.body a)) = a := by
  have hs := sealed_body h4 h8 h
  have hbz : (C7.body a).size = a.size - 4 := by unfold C7.body; rw [ByteArray.size_extract]; omega
  have h6 := stp6 (C7.body a)
  generalize C7.body a = b at *
  have hl := h6.2.2 hg
  have hbl : b.data.toList.length = b.size := rfl
  constructor
  · rintro ⟨he, hc⟩
    unfold cardBytes
    rw [if_pos hc]
    rw [he, Int.toNat_natCast, List.drop_of_length_le (by omega), List.append_nil] at hl
    have : cardT (rdC b) = b := ByteArray.ext (Array.ext' hl.symm)
    rw [this]; exact hs
  · intro hc
    have hcb : cardB (rdC b) = true := by
      cases hq : cardB (rdC b) with
      | true => rfl
      | false => unfold cardBytes at hc; rw [if_neg (by rw [hq]; simp)] at hc; subst hc; exact absurd h4 (by decide)
    unfold cardBytes at hc
    rw [if_pos hcb] at hc
    have hz := N2.cardT_size _ hcb
    have hb2 := body_sealed (b := cardT (rdC b)) (by omega)
    have hb3 := body_sealed (b := b) (by omega)
    rw [hc] at hb2
    rw [hs] at hb3
    have hb4 : cardT (rdC b) = b := hb2.symm.trans hb3
    rw [hb4] at hl
    have h0 : (b.data.toList.drop (r6 b).2.1.toNat).length = 0 := by
      have := congrArg List.length hl
      rw [List.length_append] at this
      omega
    rw [List.length_drop] at h0
    have := h6.1; have := h6.2.1
    exact ⟨by omega, hcb⟩
/-- What Unseal's code is. -/
def opK (s : ByteArray) : Int := if 8000 < s.size then 2 else if s.size < 4 then 4 else if C7.okB s = true then 0 else 5
theorem opened_eq (s : ByteArray) : C7.opened s = C7.out (if opK s = 0 then C7.body s else ⟨#[]⟩) (opK s) := by
  unfold C7.opened opK
  split
  · rfl
  split
  · rfl
  split <;> rfl
theorem opK_zero {s : ByteArray} (h : opK s = 0) : 4 ≤ s.size ∧ s.size ≤ 8000 ∧ C7.okB s = true := by
  unfold opK at h
  split at h
  · simp at h
  split at h
  · simp at h
  split at h
  · next h1 h2 h3 => exact ⟨by omega, by omega, h3⟩
  · simp at h
/-- What CardRead answers. -/
def readR (a : ByteArray) : CO :=
  if opK a = 0 then (if (r6 (C7.body a)).2.2 = false ∧ cardBytes (rdC (C7.body a)) = a then ⟨rdC (C7.body a), ⟨#[]⟩, 0⟩ else ill 3) else ill (opK a)
end Go.Proofs.YteehgicnfageiaaDoor.N4
