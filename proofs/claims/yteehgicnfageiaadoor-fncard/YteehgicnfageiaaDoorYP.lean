/-
  What the answers of cards' calls tell of one another: numbers alone.
-/
import Derived.Test.YteehgicnfageiaaDoorP4
import Derived.Test.YteehgicnfageiaaDoorN4
import Derived.Test.YteehgicnfageiaaDoorQB
namespace Go.Proofs.YteehgicnfageiaaDoor.YP
open Go.RowKit
open Go.Proofs.YteehgicnfageiaaDoor.N0 (Cd cdV cardB pinB)
open Go.Proofs.YteehgicnfageiaaDoor.N2 (cardBytes cardT)
open Go.Proofs.YteehgicnfageiaaDoor.P1 (CO coV ill)
open Go.Proofs.YteehgicnfageiaaDoor.P2
open Go.Proofs.YteehgicnfageiaaDoor.P4 (try_ok)
open Go.Proofs.YteehgicnfageiaaDoor.N3 Go.Proofs.YteehgicnfageiaaDoor.N4
open Go.Proofs.YteehgicnfageiaaDoor.J1 (shareR)

theorem right_small {c : Cd} (h : cardB c = true) : c.pin.size = 32 ∧ c.dt.size ≤ 16 := by
  have q := cardB_parts h
  refine ⟨q.2.2.1, ?_⟩
  have := q.2.2.2.2
  unfold shareR at this
  have := of_decide_eq_true this
  omega
/-- A card that was told rightly. -/
theorem try_zero {c : Cd} {pin : ByteArray} (h : (tryR c pin).k = 0) : tryR c pin = ⟨⟨c.id, c.ep, c.pin, 3, c.ix, c.dt⟩, c.dt, 0⟩ ∧ cardB c = true ∧ pinB pin = true := by
  unfold tryR at h ⊢
  split at h
  · exact absurd h (by simp [ill])
  · rename_i h1
    rw [if_neg h1]
    split at h
    · rename_i h2
      rw [if_pos h2]
      obtain ⟨a, b⟩ := Bool.and_eq_true_iff.1 h2
      exact ⟨try_ok h, a, b⟩
    · exact absurd h (by simp [ill])
theorem right_tries {c : Cd} {t : Int} (h : cardB c = true) (ht : 0 ≤ t ∧ t ≤ 3) : cardB ⟨c.id, c.ep, c.pin, t, c.ix, c.dt⟩ = true := by
  have q := cardB_parts h
  exact cardB_mk q.1 q.2.1 q.2.2.1 ht q.2.2.2.2
theorem try_right {c : Cd} {pin : ByteArray} (h : (tryR c pin).k = 0) : cardB (tryR c pin).c = true := by
  obtain ⟨h1, h2, _⟩ := try_zero h
  rw [h1]
  exact right_tries h2 (by omega)
/-- A card that was told wrongly. -/
theorem try_wrong {c : Cd} {pin : ByteArray} (h : (tryR c pin).k = 11) : tryR c pin = ⟨⟨c.id, c.ep, c.pin, c.tr - 1, c.ix, c.dt⟩, ⟨#[]⟩, 11⟩ ∧ cardB c = true ∧ ¬ c.tr = 0 := by
  unfold tryR at h ⊢
  split at h
  · exact absurd h (by simp [ill])
  · rename_i h1
    rw [if_neg h1]
    split at h
    · rename_i h2
      rw [if_pos h2]
      obtain ⟨a, b⟩ := Bool.and_eq_true_iff.1 h2
      unfold tryP at h ⊢
      split at h
      · exact absurd h (by simp [ill])
      · rename_i h3
        rw [if_neg h3]
        split at h
        · exact absurd h (by simp)
        · rename_i h4
          rw [if_neg h4]
          exact ⟨rfl, a, h3⟩
    · exact absurd h (by simp [ill])
theorem try_small {c : Cd} {pin : ByteArray} (h1 : c.pin.size ≤ 1000) (h2 : c.dt.size ≤ 1000) : (tryR c pin).c.pin.size ≤ 1000 ∧ (tryR c pin).c.dt.size ≤ 1000 ∧ (tryR c pin).t.size ≤ 1000 := by
  have hz : ∀ k, (ill k).c.pin.size ≤ 1000 ∧ (ill k).c.dt.size ≤ 1000 ∧ (ill k).t.size ≤ 1000 := fun k => ⟨Nat.zero_le _, Nat.zero_le _, Nat.zero_le _⟩
  have he : (⟨#[]⟩ : ByteArray).size ≤ 1000 := by decide
  unfold tryR
  split
  · exact hz _
  split
  · unfold tryP
    split
    · exact hz _
    split
    · exact ⟨h1, h2, h2⟩
    · exact ⟨h1, h2, he⟩
  · exact hz _
theorem new_zero {id ep : Int} {pin : ByteArray} {ix : Int} {dt : ByteArray} (h : (newR id ep pin ix dt).k = 0) :
    newR id ep pin ix dt = ⟨⟨id, ep, macOf id pin, 3, ix, dt⟩, ⟨#[]⟩, 0⟩ ∧ pinB pin = true ∧ cardB ⟨id, ep, macOf id pin, 3, ix, dt⟩ = true := by
  unfold newR at h ⊢
  split at h
  · exact absurd h (by simp [ill])
  · rename_i h1
    rw [if_neg h1]
    split at h
    · rename_i h2
      rw [if_pos h2]
      have hk := h2
      unfold newOk at hk
      obtain ⟨a, hk⟩ := Bool.and_eq_true_iff.1 hk
      obtain ⟨b, hk⟩ := Bool.and_eq_true_iff.1 hk
      obtain ⟨c, d⟩ := Bool.and_eq_true_iff.1 hk
      exact ⟨rfl, c, cardB_mk (of_decide_eq_true a) (of_decide_eq_true b) (macOf_size _ _) ⟨by dsimp only; omega, by dsimp only; omega⟩ d⟩
    · exact absurd h (by simp [ill])
theorem new_right {id ep : Int} {pin : ByteArray} {ix : Int} {dt : ByteArray} (h : (newR id ep pin ix dt).k = 0) : cardB (newR id ep pin ix dt).c = true := by
  obtain ⟨h1, _, h2⟩ := new_zero h
  rw [h1]; exact h2
theorem new_small {id ep : Int} {pin : ByteArray} {ix : Int} {dt : ByteArray} (h2 : dt.size ≤ 1000) : (newR id ep pin ix dt).c.pin.size ≤ 1000 ∧ (newR id ep pin ix dt).c.dt.size ≤ 1000 := by
  have hz : ∀ k, (ill k).c.pin.size ≤ 1000 ∧ (ill k).c.dt.size ≤ 1000 := fun k => ⟨Nat.zero_le _, Nat.zero_le _⟩
  unfold newR
  split
  · exact hz _
  split
  · exact ⟨by dsimp only; rw [macOf_size]; omega, h2⟩
  · exact hz _
/-- Who knows the number is told the share. -/
theorem told {c : Cd} {pin : ByteArray} (h : cardB c = true) (hp : pinB pin = true) (hm : c.pin = macOf c.id pin) (ht : ¬ c.tr = 0) : tryR c pin = ⟨⟨c.id, c.ep, c.pin, 3, c.ix, c.dt⟩, c.dt, 0⟩ := by
  have := pinB_le hp
  unfold tryR
  rw [if_neg (by omega), h, hp, if_pos (show (true && true) = true from rfl)]
  unfold tryP
  rw [if_neg ht, if_pos (same_eq.2 hm)]
theorem shut {c : Cd} {pin : ByteArray} (h : cardB c = true) (hp : pinB pin = true) (ht : c.tr = 0) : tryR c pin = ill 12 := by
  have := pinB_le hp
  unfold tryR
  rw [if_neg (by omega), h, hp, if_pos (show (true && true) = true from rfl)]
  unfold tryP
  rw [if_pos ht]
theorem cp_zero {c : Cd} {old pin : ByteArray} (h : (cpR c old pin).k = 0) :
    cpR c old pin = ⟨⟨c.id, c.ep, macOf c.id pin, 3, c.ix, c.dt⟩, ⟨#[]⟩, 0⟩ ∧ pinB pin = true ∧ cardB ⟨c.id, c.ep, macOf c.id pin, 3, c.ix, c.dt⟩ = true := by
  unfold cpR at h ⊢
  split at h
  · exact absurd h (by simp [ill])
  · rename_i h1
    rw [if_neg h1]
    split at h
    · rename_i h2
      rw [if_pos h2]
      obtain ⟨a, hk⟩ := Bool.and_eq_true_iff.1 h2
      obtain ⟨b, d⟩ := Bool.and_eq_true_iff.1 hk
      unfold pinned at h ⊢
      split at h
      · rename_i h3
        rw [if_pos h3]
        have q := cardB_parts a
        exact ⟨rfl, d, cardB_mk q.1 q.2.1 (macOf_size _ _) ⟨by dsimp only; omega, by dsimp only; omega⟩ q.2.2.2.2⟩
      · rename_i h3; exact absurd h h3
    · exact absurd h (by simp [ill])
theorem cp_right {c : Cd} {old pin : ByteArray} (h : (cpR c old pin).k = 0) : cardB (cpR c old pin).c = true := by
  obtain ⟨h1, _, h2⟩ := cp_zero h
  rw [h1]; exact h2
theorem cp_told {c : Cd} {old pin : ByteArray} (h : (cpR c old pin).k = 0) : (tryR (cpR c old pin).c pin).t = c.dt := by
  obtain ⟨h1, h2, h3⟩ := cp_zero h
  rw [h1]
  dsimp only
  rw [told h3 h2 rfl (by dsimp only; omega)]
theorem cp_small {c : Cd} {old pin : ByteArray} (h1 : c.pin.size ≤ 1000) (h2 : c.dt.size ≤ 1000) : (cpR c old pin).c.pin.size ≤ 1000 ∧ (cpR c old pin).c.dt.size ≤ 1000 := by
  have hz : ∀ k, (ill k).c.pin.size ≤ 1000 ∧ (ill k).c.dt.size ≤ 1000 := fun k => ⟨Nat.zero_le _, Nat.zero_le _⟩
  unfold cpR
  split
  · exact hz _
  split
  · unfold pinned
    split
    · exact ⟨by dsimp only; rw [macOf_size]; omega, h2⟩
    · unfold tryP
      split
      · exact hz _
      split
      · exact ⟨h1, h2⟩
      · exact ⟨h1, h2⟩
  · exact hz _
/-- What is read of a card's bytes is the card. -/
theorem read_back {b : Cd} (h : cardB b = true) : readR (cardBytes b) = ⟨b, ⟨#[]⟩, 0⟩ := by
  have q := cardB_parts h
  have hs := right_small h
  have hz := N2.cardT_size b h
  have hx : 1 ≤ b.ix ∧ b.ix ≤ 6 := by
    have := q.2.2.2.2; unfold shareR at this; have := of_decide_eq_true this; omega
  have hcb : cardBytes b = ⟨(C6.sealOf (cardT b)).toArray⟩ := by unfold cardBytes; rw [if_pos h]
  have hop := C8.opened_seal (t := cardT b) (by omega)
  rw [← hcb, opened_eq] at hop
  have hk : opK (cardBytes b) = 0 ∧ C7.body (cardBytes b) = cardT b := by
    unfold C7.out at hop
    injection hop with hop
    have h1 := congrArg (fun a => a[2]?) hop
    have h0 := congrArg (fun a => a[0]?) hop
    have hk : opK (cardBytes b) = 0 := by simpa using h1
    rw [if_pos hk] at h0
    exact ⟨hk, by simpa using h0⟩
  have hL : (cardT b).data.toList = _ := cardT_list b
  have hbs : (⟨(cardT b).data.toList.toArray⟩ : ByteArray) = cardT b := rfl
  have h6 := six_back b.id b.ep b.tr b.ix b.pin b.dt (by omega) (by omega) (by omega) (by omega) (by omega) (by omega) hL (by have : (cardT b).data.toList.length = (cardT b).size := rfl; omega)
  rw [hbs] at h6
  have hrd : rdC (cardT b) = b := by
    unfold rdC
    rw [h6.1, h6.2.1, h6.2.2.1, h6.2.2.2.1, h6.2.2.2.2.1, h6.2.2.2.2.2.1]
  unfold readR
  rw [if_pos hk.1, hk.2, hrd, if_pos ⟨h6.2.2.2.2.2.2, rfl⟩]
theorem read_zero {u : ByteArray} (h : (readR u).k = 0) : cardBytes (readR u).c = u ∧ cardB (readR u).c = true := by
  unfold readR at h ⊢
  split at h
  · rename_i h1
    rw [if_pos h1]
    split at h
    · rename_i h2
      rw [if_pos h2]
      refine ⟨h2.2, ?_⟩
      cases hq : cardB (rdC (C7.body u)) with
      | true => rfl
      | false =>
        have hu := h2.2
        unfold cardBytes at hu
        rw [if_neg (by rw [hq]; simp)] at hu
        subst hu
        have := (opK_zero h1).1
        exact absurd this (by decide)
    · exact absurd h (by simp [ill])
  · rename_i h1; exact absurd h h1
theorem read_empty : (readR ⟨#[]⟩).k = 4 := by
  have h : opK ⟨#[]⟩ = 4 := by unfold opK; rw [if_neg (by decide), if_pos (by decide)]
  unfold readR
  rw [if_neg (by rw [h]; decide), h]
  rfl
theorem bytes_empty {b : Cd} (h : cardB b = false) : cardBytes b = ⟨#[]⟩ := by unfold cardBytes; rw [if_neg (by rw [h]; simp)]
theorem read_small {u : ByteArray} : (readR u).c.pin.size ≤ 8000 ∧ (readR u).c.dt.size ≤ 8000 := by
  have hz : ∀ k, (ill k).c.pin.size ≤ 8000 ∧ (ill k).c.dt.size ≤ 8000 := fun k => ⟨Nat.zero_le _, Nat.zero_le _⟩
  unfold readR
  split
  · rename_i h1
    have hu := opK_zero h1
    have ha := ats (C7.body u)
    have hb : (C7.body u).size ≤ 8000 := by unfold C7.body; rw [ByteArray.size_extract]; omega
    split
    · exact ⟨by unfold rdC; dsimp only; omega, by unfold rdC; dsimp only; omega⟩
    · exact hz _
  · exact hz _
end Go.Proofs.YteehgicnfageiaaDoor.YP
