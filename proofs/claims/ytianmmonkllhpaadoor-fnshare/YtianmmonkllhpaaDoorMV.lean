/-
  A secret comes back from as many of its shares as are needed, on numbers and lists.
-/
import Derived.Test.YtianmmonkllhpaaDoorST
import Derived.Test.YtianmmonkllhpaaDoorJ5
namespace Go.Proofs.YtianmmonkllhpaaDoor.MV
open Go.RowKit
open Go.Proofs.YtianmmonkllhpaaDoor.SH (Sh)
open Go.Proofs.YtianmmonkllhpaaDoor.K3 (bytesOf)
open Go.Proofs.YtianmmonkllhpaaDoor.J1 (shareR yes2)
open Go.Proofs.YtianmmonkllhpaaDoor.J2 (ix dat xsOf wt joinL)
open Go.Proofs.YtianmmonkllhpaaDoor.J4 (at_ formOk newAt okUp fineB)
open Go.Proofs.YtianmmonkllhpaaDoor.L2 (mayR)
open Go.Proofs.YtianmmonkllhpaaDoor.J5 (joinR)
open Go.Proofs.YtianmmonkllhpaaDoor.ST

/-- The shares that the law takes, in its order. -/
def pickL (secret salt : ByteArray) (m cards start q : Nat) : List Sh := (List.range q).map fun i => (((Gf.chosen cards start i : Nat) : Int), (⟨(shareL secret salt m (Gf.chosen cards start i)).toArray⟩ : ByteArray))
theorem pickL_length (secret salt : ByteArray) (m cards start q : Nat) : (pickL secret salt m cards start q).length = q := by simp [pickL]
theorem pickL_succ (secret salt : ByteArray) (m cards start q : Nat) : pickL secret salt m cards start (q + 1) = pickL secret salt m cards start q ++ [(((Gf.chosen cards start q : Nat) : Int), (⟨(shareL secret salt m (Gf.chosen cards start q)).toArray⟩ : ByteArray))] := by simp [pickL, List.range_succ]
theorem pick_at (secret salt : ByteArray) (m cards start q i : Nat) (h : i < q) : (pickL secret salt m cards start q)[i]? = some (((Gf.chosen cards start i : Nat) : Int), (⟨(shareL secret salt m (Gf.chosen cards start i)).toArray⟩ : ByteArray)) := by simp [pickL, h]
theorem split_at (secret salt : ByteArray) (m cards c : Nat) (h : c < cards) : (splitL secret salt m cards)[c]? = some (((c + 1 : Nat) : Int), (⟨(shareL secret salt m (c + 1)).toArray⟩ : ByteArray)) := by simp [splitL, h]
theorem at_pick (secret salt : ByteArray) (m cards start q i : Nat) (h : i < q) : at_ (pickL secret salt m cards start q) i = (((Gf.chosen cards start i : Nat) : Int), (⟨(shareL secret salt m (Gf.chosen cards start i)).toArray⟩ : ByteArray)) := by
  unfold at_
  rw [List.getD_eq_getElem?_getD, pick_at _ _ _ _ _ _ _ h]; rfl
theorem share_size (secret salt : ByteArray) (m x : Nat) : (⟨(shareL secret salt m x).toArray⟩ : ByteArray).size = secret.size := by rw [KA.size_mk, shareL_length]
theorem chosen_range (cards start i : Nat) (h : 1 ≤ cards) : 1 ≤ Gf.chosen cards start i ∧ Gf.chosen cards start i ≤ cards := by
  unfold Gf.chosen
  have := Nat.mod_lt (start + 2 * cards - i) h
  omega
theorem chosen_apart : ∀ cards, cards < 7 → ∀ start, start < cards → ∀ i, i < cards → ∀ j, j < i → ¬ Gf.chosen cards start j = Gf.chosen cards start i := by decide +kernel
theorem new_pick (secret salt : ByteArray) (m cards start q : Nat) (hc : cards < 7) (hs : start < cards) (hq : q ≤ cards) (k : Nat) (hk : k < q) : ∀ j, j ≤ k → newAt (pickL secret salt m cards start q) k j = true
  | 0, _ => rfl
  | j + 1, hj => by
    unfold newAt
    rw [new_pick secret salt m cards start q hc hs hq k hk j (by omega), at_pick _ _ _ _ _ _ _ (show j < q by omega), at_pick _ _ _ _ _ _ _ hk]
    have := chosen_apart cards hc start hs k (by omega) j (by omega)
    have h2 : (((Gf.chosen cards start j : Nat) : Int) == ((Gf.chosen cards start k : Nat) : Int)) = false := by
      rw [beq_eq_false_iff_ne]; omega
    show (true && !((((Gf.chosen cards start j : Nat) : Int)) == ((Gf.chosen cards start k : Nat) : Int))) = true
    rw [h2]; rfl
theorem form_pick (secret salt : ByteArray) (m cards start q : Nat) (hc : cards < 7) (h1 : 1 ≤ cards) (hs1 : 1 ≤ secret.size) (hs2 : secret.size ≤ 16) (k : Nat) (hk : k < q) : formOk (pickL secret salt m cards start q) k = true := by
  unfold formOk
  rw [at_pick _ _ _ _ _ _ _ hk, at_pick _ _ _ _ _ _ _ (show 0 < q by omega)]
  have h := chosen_range cards start k h1
  rw [share_size, share_size]
  have : shareR ((Gf.chosen cards start k : Nat) : Int) ⟨(shareL secret salt m (Gf.chosen cards start k)).toArray⟩ = true := by
    unfold shareR
    rw [share_size]
    exact decide_eq_true ⟨by omega, by omega, hs1, hs2⟩
  rw [this]; simp
theorem ok_pick (secret salt : ByteArray) (m cards start q : Nat) (hc : cards < 7) (hs : start < cards) (hq : q ≤ cards) (hs1 : 1 ≤ secret.size) (hs2 : secret.size ≤ 16) : ∀ k, k ≤ q → okUp (pickL secret salt m cards start q) k = true
  | 0, _ => rfl
  | k + 1, hk => by
    unfold okUp
    rw [ok_pick secret salt m cards start q hc hs hq hs1 hs2 k (by omega), form_pick secret salt m cards start q hc (by omega) hs1 hs2 k (by omega), new_pick secret salt m cards start q hc hs hq k (by omega) k (Nat.le_refl _)]; rfl
theorem may_pick (secret salt : ByteArray) (m cards start q : Nat) (hc : cards < 7) (hs : start < cards) (hq1 : 1 ≤ q) (hq : q ≤ cards) (hs1 : 1 ≤ secret.size) (hs2 : secret.size ≤ 16) : mayR (q : Int) (pickL secret salt m cards start q) = true := by
  unfold mayR fineB
  rw [pickL_length, yes2 (by omega), ok_pick secret salt m cards start q hc hs hq hs1 hs2 q (Nat.le_refl _), decide_eq_true (show q ≤ 400 by omega), decide_eq_true (show (q : Int) ≤ ((q : Nat) : Int) by omega)]; rfl
theorem ix_pick (secret salt : ByteArray) (m cards start q i : Nat) (h : i < q) : ix (pickL secret salt m cards start q) i = Gf.chosen cards start i := by
  unfold ix
  rw [List.getD_eq_getElem?_getD, pick_at _ _ _ _ _ _ _ h]; simp
theorem dat_pick (secret salt : ByteArray) (m cards start q j i : Nat) (h : i < q) (hj : j < secret.size) : dat (pickL secret salt m cards start q) j i = shareN secret salt m (Gf.chosen cards start i) j := by
  have hp : (pickL secret salt m cards start q).getD i (0, ⟨#[]⟩) = (((Gf.chosen cards start i : Nat) : Int), (⟨(shareL secret salt m (Gf.chosen cards start i)).toArray⟩ : ByteArray)) := by
    rw [List.getD_eq_getElem?_getD, pick_at _ _ _ _ _ _ _ h]; rfl
  unfold dat
  rw [hp]
  have h1 := shareN_lt secret salt m (Gf.chosen cards start i) j
  rw [KA.of_mk]
  simp [shareL, hj, UInt8.toNat_ofNat']
  omega
theorem xs_pick (secret salt : ByteArray) (m cards start q : Nat) : xsOf (pickL secret salt m cards start q) q = Gf.chosenL cards start q := by
  unfold xsOf Gf.chosenL
  exact List.map_congr_left fun i hi => ix_pick _ _ _ _ _ _ _ (List.mem_range.1 hi)
theorem jUp_same (ws us d e : Nat → Nat) : ∀ k, (∀ i, i < k → ws i = us i ∧ d i = e i) → Gf.jUp ws d k = Gf.jUp us e k
  | 0, _ => rfl
  | k + 1, h => by unfold Gf.jUp; rw [jUp_same ws us d e k (fun i hi => h i (by omega)), (h k (by omega)).1, (h k (by omega)).2]
/-- The whole of it: as many as are needed. -/
theorem join_pick (secret salt : ByteArray) (m cards start : Nat) (hc : cards < 7) (hs : start < cards) (hm : m < cards) (hs1 : 1 ≤ secret.size) (hs2 : secret.size ≤ 16) :
    (⟨(joinR ((m + 1 : Nat) : Int) (pickL secret salt m cards start (m + 1))).toArray⟩ : ByteArray) = secret := by
  have hmay := may_pick secret salt m cards start (m + 1) hc hs (by omega) (by omega) hs1 hs2
  unfold joinR
  rw [if_pos hmay, at_pick _ _ _ _ _ _ _ (show 0 < m + 1 by omega)]
  show (⟨(joinL (m + 1) (⟨(shareL secret salt m (Gf.chosen cards start 0)).toArray⟩ : ByteArray).size _).toArray⟩ : ByteArray) = secret
  rw [share_size]
  have key : ∀ j, j < secret.size → Gf.jUp (wt (pickL secret salt m cards start (m + 1)) (m + 1)) (dat (pickL secret salt m cards start (m + 1)) j) (m + 1) = byteN secret j := fun j hj => by
    have h1 := Gf.joined (fun i => (Gf.weights (Gf.chosenL cards start (m + 1)) (m + 1)).getD i 0) (Gf.chosen cards start) (m + 1) (Gf.chosen_check cards hc start hs m hm) (byteN secret j) (byteN_lt _ _) (fun q => byteN (maskT salt q) j) (fun _ => byteN_lt _ _) m (by omega)
    rw [← h1]
    refine jUp_same _ _ _ _ _ (fun i hi => ⟨?_, ?_⟩)
    · unfold wt
      rw [xs_pick]
      simp [Gf.weights, hi]
    · rw [dat_pick _ _ _ _ _ _ _ _ hi hj]; rfl
  apply ByteArray.ext
  apply Array.ext
  · simp [joinL]
  · intro j h1 h2
    have hj : j < secret.size := h2
    simp only [joinL, List.getElem_toArray, List.getElem_map, List.getElem_range]
    rw [key j hj, ← byteN_get secret j hj]
    simp
    rfl
/-- And from one fewer nothing. -/
theorem join_few (secret salt : ByteArray) (m cards start : Nat) : joinR ((m + 1 : Nat) : Int) ((pickL secret salt m cards start (m + 1)).drop 1) = [] := by
  unfold joinR mayR fineB
  rw [List.length_drop, pickL_length, decide_eq_false (show ¬ ((m + 1 : Nat) : Int) ≤ ((m + 1 - 1 : Nat) : Int) by omega)]
  simp
/-- An element times what makes 1. -/
theorem mul_inv_one {c : Int} (h : 1 ≤ c ∧ c ≤ 255) : L0.mulR c (L0.invR c : Nat) = 1 := by
  obtain ⟨n, rfl⟩ := Int.eq_ofNat_of_zero_le (show 0 ≤ c by omega)
  rw [L0.invR_yes (by omega) (by omega), L0.mulR_yes (by omega) (Gf.inv_lt _ (by omega))]
  exact Gf.mul_inv _ (by omega) (by omega)
end Go.Proofs.YtianmmonkllhpaaDoor.MV
