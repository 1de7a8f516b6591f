/-
  The head of a disk: what is got from the bytes of its first sector.
-/
import Derived.Test.YtfiabbfdnmldjaaDoorU0
import Derived.Test.YtfiabbfdnmldjaaDoorU2
import Derived.Test.YtfiabbfdnmldjaaDoorC7
import Derived.Test.YtfiabbfdnmldjaaDoorCH
import Derived.Test.YtfiabbfdnmldjaaDoorMC
import Derived.Test.YtfiabbfdnmldjaaDoorMA
namespace Go.Proofs.YtfiabbfdnmldjaaDoor.U8
open Go.RowKit
open Go.Proofs.YtfiabbfdnmldjaaDoor.C0 Go.Proofs.YtfiabbfdnmldjaaDoor.C6 Go.Proofs.YtfiabbfdnmldjaaDoor.C7 Go.Proofs.YtfiabbfdnmldjaaDoor.CH Go.Proofs.YtfiabbfdnmldjaaDoor.U0 Go.Proofs.YtfiabbfdnmldjaaDoor.U2
open Go.Proofs.YtfiabbfdnmldjaaDoor.Dk (Pend rightB right_iff readOf)
def codeU (x : ByteArray) : Int := if 8000 < x.size then 2 else if x.size < 4 then 4 else if okB x = true then 0 else 5
def textU (x : ByteArray) : ByteArray := if codeU x = 0 then body x else ⟨#[]⟩
theorem opened_eq (x : ByteArray) : opened x = out (textU x) (codeU x) := by
  unfold opened textU codeU
  split
  · simp
  · split
    · simp
    · split
      · simp
      · simp
abbrev rr (t : ByteArray) (a : Nat) : Nat × Nat × Nat := Mg.getFrom t a 10 0 0
def nOf (R : Nat × Nat × Nat) : Int := if R.2.2 = 0 then Mg.unfoldI R.1 else 0
def aOf (R : Nat × Nat × Nat) : Nat := if R.2.2 = 0 then R.2.1 else 0
theorem outV_eq (R : Nat × Nat × Nat) : outV R = numOut (nOf R) (aOf R) R.2.2 := by
  unfold outV nOf aOf
  split
  · rename_i h; rw [h]; rfl
  · rfl
abbrev R1 (t : ByteArray) := rr t 0
abbrev R2 (t : ByteArray) := rr t (aOf (R1 t))
abbrev R3 (t : ByteArray) := rr t (aOf (R2 t))
/-- What stands there is a head. -/
def HeadOk (x : ByteArray) (room : Nat) : Prop :=
  (R1 (body x)).2.2 = 0 ∧ (R2 (body x)).2.2 = 0 ∧ (R3 (body x)).2.2 = 0 ∧ headB (nOf (R1 (body x))) (nOf (R2 (body x))) (nOf (R3 (body x))) = x ∧ 0 ≤ nOf (R1 (body x)) ∧ (0 ≤ nOf (R2 (body x)) ∧ nOf (R2 (body x)) ≤ 1) ∧ 0 ≤ nOf (R3 (body x)) ∧ nOf (R3 (body x)) ≤ room
instance (x : ByteArray) (room : Nat) : Decidable (HeadOk x room) := by unfold HeadOk; exact inferInstance
/-- The number, the side, how many bytes, and the code. -/
def seenR (x : ByteArray) (room : Nat) : Int × Int × Int × Int :=
  if codeU x = 0 then (if HeadOk x room then (nOf (R1 (body x)), nOf (R2 (body x)), nOf (R3 (body x)), 0) else (0, 0, 0, 3)) else (0, 0, 0, codeU x)
theorem size_list (s : ByteArray) : s.data.toList.length = s.size := Array.length_toList
theorem ba_ext {a b : ByteArray} (h : a.data.toList = b.data.toList) : a = b := by
  apply ByteArray.ext
  apply Array.ext'
  exact h
/-- The numbers are got and nothing is behind them, just where the head's bytes are those of the numbers. -/
theorem head_end {x : ByteArray} (hx : codeU x = 0) (h1 : (R1 (body x)).2.2 = 0) (h2 : (R2 (body x)).2.2 = 0) (h3 : (R3 (body x)).2.2 = 0) :
    headB (nOf (R1 (body x))) (nOf (R2 (body x))) (nOf (R3 (body x))) = x ↔ aOf (R3 (body x)) = (body x).size := by
  have hx1 : ¬ x.size < 4 ∧ okB x = true := by
    unfold codeU at hx
    split at hx
    · simp at hx
    · split at hx
      · simp at hx
      · split at hx
        · exact ⟨by assumption, by assumption⟩
        · simp at hx
  obtain ⟨h4, hok⟩ := hx1
  have hxl : x.data.toList = (body x).data.toList ++ four (Mc.crcMore 0 (body x).data.toList) := by
    unfold okB at hok
    rw [beq_iff_eq] at hok
    have e := body_data x
    unfold body
    rw [e, hok, List.take_append_drop]
  have g1 : R1 (body x) = ((R1 (body x)).1, (R1 (body x)).2.1, 0) := by rw [← h1]
  have g2 : R2 (body x) = ((R2 (body x)).1, (R2 (body x)).2.1, 0) := by rw [← h2]
  have g3 : R3 (body x) = ((R3 (body x)).1, (R3 (body x)).2.1, 0) := by rw [← h3]
  have a1 : aOf (R1 (body x)) = (R1 (body x)).2.1 := by unfold aOf; rw [if_pos h1]
  have a2 : aOf (R2 (body x)) = (R2 (body x)).2.1 := by unfold aOf; rw [if_pos h2]
  have a3 : aOf (R3 (body x)) = (R3 (body x)).2.1 := by unfold aOf; rw [if_pos h3]
  have n1 : nOf (R1 (body x)) = Mg.unfoldI (R1 (body x)).1 := by unfold nOf; rw [if_pos h1]
  have n2 : nOf (R2 (body x)) = Mg.unfoldI (R2 (body x)).1 := by unfold nOf; rw [if_pos h2]
  have n3 : nOf (R3 (body x)) = Mg.unfoldI (R3 (body x)).1 := by unfold nOf; rw [if_pos h3]
  obtain ⟨d1, l1, s1, -, -⟩ := Mn.get_inv g1
  obtain ⟨d2, l2, s2, -, -⟩ := Mn.get_inv g2
  obtain ⟨d3, l3, s3, -, -⟩ := Mn.get_inv g3
  rw [← n1, ← a1] at d1 l1
  rw [← n2, ← a2] at d2 l2
  rw [← n3, ← a3] at d3 l3
  have hd : (body x).data.toList = nums (nOf (R1 (body x))) (nOf (R2 (body x))) (nOf (R3 (body x))) ++ (body x).data.toList.drop (aOf (R3 (body x))) := by
    rw [List.drop_zero, d2, d3] at d1
    simp only [nums, List.append_assoc]
    exact d1
  have hlen : (nums (nOf (R1 (body x))) (nOf (R2 (body x))) (nOf (R3 (body x)))).length = aOf (R3 (body x)) := by
    simp only [nums, List.length_append]; omega
  generalize nOf (R1 (body x)) = m1 at *
  generalize nOf (R2 (body x)) = m2 at *
  generalize nOf (R3 (body x)) = m3 at *
  constructor
  · intro h
    have e : headL m1 m2 m3 = x.data.toList := by rw [← h]; rfl
    have e2 := congrArg List.length e
    have e3 := congrArg List.length hxl
    rw [size_list] at e2
    simp only [headL, sealed, List.length_append, four, List.length_cons, List.length_nil] at e2 e3
    rw [size_list, size_list] at e3
    omega
  · intro h
    have e : (body x).data.toList.drop (aOf (R3 (body x))) = [] := by
      rw [List.drop_eq_nil_iff, size_list, h]; exact Nat.le_refl _
    rw [e, List.append_nil] at hd
    apply ba_ext
    rw [hxl, hd]
    rfl
theorem readOf_size {t : ByteArray} {n : Nat} (i : Int) : ∀ (ps : List Pend), t.size ≤ n → (∀ p ∈ ps, p.2.size ≤ n) → (readOf t ps i).size ≤ n := by
  intro ps
  induction ps generalizing t with
  | nil => intro h _; exact h
  | cons p ps ih =>
    intro h hp
    show (readOf (if p.1 = i then p.2 else t) ps i).size ≤ n
    refine ih ?_ (fun q hq => hp q (by simp [hq]))
    split
    · exact hp p (by simp)
    · exact h
/-- What the first sector of a right disk reads as. -/
def zeroth (ss : List ByteArray) (ps : List Pend) : ByteArray := readOf (ss.getD 0 ⟨#[]⟩) ps 0
theorem zeroth_size {ss : List ByteArray} {ps : List Pend} (h : rightB ss ps = true) : (zeroth ss ps).size ≤ 64 := by
  obtain ⟨h1, h2, h3, h4, h5⟩ := (right_iff ss ps).1 h
  refine readOf_size 0 ps ?_ (fun p hp => (h5 p hp).2.2)
  rw [List.getD_eq_getElem?_getD, List.getElem?_eq_getElem (by omega)]
  exact h4 _ (List.getElem_mem _)
theorem zeroth_read {ss : List ByteArray} {ps : List Pend} (h : rightB ss ps = true) : Dk.readR ss ps 0 = ⟨ss, ps, zeroth ss ps, 0⟩ := by
  obtain ⟨h1, h2, h3, h4, h5⟩ := (right_iff ss ps).1 h
  unfold Dk.readR zeroth
  rw [if_neg (by rw [h]; simp), if_pos ⟨by omega, by omega⟩]
  rfl
end Go.Proofs.YtfiabbfdnmldjaaDoor.U8
