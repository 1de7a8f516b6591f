/-
  The text of a side, on lists: sector by sector, each full but the last one.
-/
import Derived.Test.YtfiabbfdnmldjaaDoorMA
namespace Go.Proofs.YtfiabbfdnmldjaaDoor.Dk
/-- What a sector reads as. -/
def sect (ss : List ByteArray) (ps : List Pend) (j : Nat) : ByteArray := readOf (ss.getD j ⟨#[]⟩) ps j
/-- How many bytes of the side's sector i belong to a text of z bytes. -/
def want (z i : Nat) : Nat := min 64 (z - 64 * i)
/-- The first i sectors' part of a text of z bytes, from sector f on. -/
def gath (ss : List ByteArray) (ps : List Pend) (f z : Nat) : Nat → List UInt8
  | 0 => []
  | i + 1 => gath ss ps f z i ++ (sect ss ps (f + i)).data.toList.take (want z i)
/-- Each sector that is wanted has what is wanted of it. -/
def SideOk (ss : List ByteArray) (ps : List Pend) (f z : Nat) : Prop := ∀ i, i < 32 → 64 * i < z → want z i ≤ (sect ss ps (f + i)).size
instance (ss : List ByteArray) (ps : List Pend) (f z : Nat) : Decidable (SideOk ss ps f z) := by unfold SideOk; exact inferInstance
theorem gath_length (ss : List ByteArray) (ps : List Pend) (f z : Nat) : ∀ i, (∀ k, k < i → want z k ≤ (sect ss ps (f + k)).size) → (gath ss ps f z i).length = min z (64 * i)
  | 0, _ => by simp [gath]
  | i + 1, h => by
    have ih := gath_length ss ps f z i (fun k hk => h k (by omega))
    have hi := h i (by omega)
    have e : (sect ss ps (f + i)).data.toList.length = (sect ss ps (f + i)).size := Array.length_toList
    simp only [gath, List.length_append, List.length_take, ih, e]
    unfold want at hi ⊢
    omega
theorem gath_stop (ss : List ByteArray) (ps : List Pend) (f z : Nat) (i : Nat) (h : z ≤ 64 * i) : ∀ k, gath ss ps f z (i + k) = gath ss ps f z i
  | 0 => rfl
  | k + 1 => by
    have ih := gath_stop ss ps f z i h k
    show gath ss ps f z (i + k) ++ (sect ss ps (f + (i + k))).data.toList.take (want z (i + k)) = _
    have e : want z (i + k) = 0 := by unfold want; omega
    rw [e, List.take_zero, List.append_nil, ih]
theorem gath_end (ss : List ByteArray) (ps : List Pend) (f z : Nat) (i : Nat) (h : z ≤ 64 * i) (hi : i ≤ 32) : gath ss ps f z 32 = gath ss ps f z i := by
  have := gath_stop ss ps f z i h (32 - i)
  rwa [show i + (32 - i) = 32 by omega] at this
theorem sect_read {ss : List ByteArray} {ps : List Pend} {j : Nat} (hR : rightB ss ps = true) (hj : j < ss.length) : readR ss ps (j : Nat) = ⟨ss, ps, sect ss ps j, 0⟩ := by
  have := read_ok (ps := ps) hR (List.getElem?_eq_getElem hj)
  rw [this]
  simp [sect, List.getD_eq_getElem?_getD, List.getElem?_eq_getElem hj]
end Go.Proofs.YtfiabbfdnmldjaaDoor.Dk
