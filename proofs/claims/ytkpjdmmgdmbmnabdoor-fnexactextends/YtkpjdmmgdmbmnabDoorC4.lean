/-
  What NameRight answers, in the specification and in the program: whether the text is a name.
-/
import Derived.Test.YtkpjdmmgdmbmnabDoorC0
namespace Go.Proofs.YtkpjdmmgdmbmnabDoor.C4
open Go.RowKit
open Go.Proofs.YtkpjdmmgdmbmnabDoor.C0

/-- The byte c may stand at place k of a name. -/
def Ok (c : Int) (k : Nat) : Prop := (97 ≤ c ∧ c ≤ 122) ∨ (k ≠ 0 ∧ ((48 ≤ c ∧ c ≤ 57) ∨ c = 95))
def okB (c : Int) (k : Nat) : Bool := (decide (97 ≤ c) && decide (c ≤ 122)) || (k != 0 && ((decide (48 ≤ c) && decide (c ≤ 57)) || c == 95))
theorem okB_iff (c : Int) (k : Nat) : okB c k = true ↔ Ok c k := by simp [okB, Ok]
def byteAt (s : ByteArray) (j : Nat) : Int := if h : j < s.size then (s[j].toNat : Int) else 0
/-- The text is a name. -/
def Name (s : ByteArray) : Prop := 1 ≤ s.size ∧ s.size ≤ 20 ∧ ∀ (j : Nat) (_ : j < s.size), Ok (s[j].toNat : Int) j
def nameB (s : ByteArray) : Bool := decide (1 ≤ s.size) && decide (s.size ≤ 20) && (List.range s.size).all fun j => okB (byteAt s j) j
theorem nameB_iff (s : ByteArray) : nameB s = true ↔ Name s := by
  simp only [nameB, Name, Bool.and_eq_true, decide_eq_true_eq, List.all_eq_true, List.mem_range, okB_iff, and_assoc]
  refine and_congr Iff.rfl (and_congr Iff.rfl ⟨fun h j hj => ?_, fun h j hj => ?_⟩)
  · have := h j hj; simpa [byteAt, hj] using this
  · simpa [byteAt, hj] using h j hj
theorem nameB_true {s : ByteArray} (h : Name s) : nameB s = true := (nameB_iff s).2 h
theorem nameB_false {s : ByteArray} (h : ¬ Name s) : nameB s = false := by
  rw [← Bool.not_eq_true, nameB_iff]; exact h
theorem ret_bool {a b : Bool} (h : a = b) : Ending.returned (.bool a) = .returned (.bool b) := by rw [h]
/-- The first k bytes may stand where they stand. -/
def Upto (s : ByteArray) (k : Nat) : Prop := ∀ (j : Nat) (_ : j < s.size), j < k → Ok (s[j].toNat : Int) j
theorem Upto.succ {s : ByteArray} {k : Nat} (h : Upto s k) (hk : k < s.size) (ho : Ok (s[k].toNat : Int) k) : Upto s (k + 1) := by
  intro j hj hlt
  by_cases e : j = k
  · subst e; exact ho
  · exact h j hj (by omega)
theorem not_name {s : ByteArray} {k : Nat} (hk : k < s.size) (ho : ¬ Ok (s[k].toNat : Int) k) : nameB s = false := nameB_false fun h => ho (h.2.2 k hk)

/-- Every byte at every place goes one of these ways. -/
theorem ways (c : Int) (k : Nat) : (97 ≤ c ∧ c ≤ 122) ∨ (c < 97 ∧ k = 0) ∨ (122 < c ∧ decide (c ≤ 122) = false ∧ k = 0) ∨ (((k : Int) == 0) = false ∧ 48 ≤ c ∧ c ≤ 57) ∨
    (((k : Int) == 0) = false ∧ 95 ≤ c ∧ c ≤ 95 ∧ (c != 95) = false) ∨ (((k : Int) == 0) = false ∧ c < 48 ∧ (c != 95) = true) ∨
    (((k : Int) == 0) = false ∧ 57 < c ∧ decide (c ≤ 57) = false ∧ c < 97 ∧ (c != 95) = true) ∨ (((k : Int) == 0) = false ∧ 122 < c ∧ decide (c ≤ 122) = false ∧ decide (c ≤ 57) = false ∧ (c != 95) = true) := by
  simp only [beq_eq_false_iff_ne, bne_iff_ne, ne_eq, bne_eq_false_iff_eq, decide_eq_false_iff_not]
  omega

set_option maxRecDepth 100000 in
set_option maxHeartbeats 1600000 in
theorem name_spec (s : ByteArray) (w : World) (hs : s.size ≤ maxLen) :
    Calls Tryd.prog 31 #[.string s] w fun e w' => e = .returned (.bool (nameB s)) ∧ w = w' := by
  unfold maxLen at hs
  by_cases h1 : s.size < 1
  · have HN : Hid (nameB s = false) := nameB_false (fun h => by have := h.1; omega)
    go_enter Tryd.func31, Tryd.ntmps31
    go_wp2
    go_ret
    exact ⟨ret_bool HN.out.symm, rfl⟩
  by_cases h2 : 20 < s.size
  · have HN : Hid (nameB s = false) := nameB_false (fun h => by have := h.2.1; omega)
    go_enter Tryd.func31, Tryd.ntmps31
    go_wp2
    go_ret
    exact ⟨ret_bool HN.out.symm, rfl⟩
  have d1 : decide ((s.size : Int) < 1) = false := by simp; omega
  have d2 : decide ((20 : Int) < (s.size : Int)) = false := by simp; omega
  go_enter Tryd.func31, Tryd.ntmps31
  go_wp2
  go_loop [3] (fun i => ∃ k : Nat, k ≤ s.size ∧ i = .int .i64 k ∧ Upto s k) (fun i => s.size - (intOf i).toNat)
  case atStart => exact ⟨0, Nat.zero_le _, rfl, fun _ _ h => absurd h (Nat.not_lt_zero _)⟩
  case round =>
    obtain ⟨k, hk, rfl, HA⟩ := hrel
    by_cases hlt : k < s.size
    · rcases ways (s[k].toNat : Int) k with ⟨g1, g2⟩ | ⟨g1, rfl⟩ | ⟨g1, g4, rfl⟩ | ⟨g0, g1, g2⟩ | ⟨g0, g1, g2, g3⟩ | ⟨g0, g1, g2⟩ | ⟨g0, g1, g4, g2, g3⟩ | ⟨g0, g1, g4, g5, g2⟩
      all_goals go_wp2
      all_goals first
        | (go_round
           case rel => exact ⟨k + 1, by omega, by go_num, HA.succ hlt (by unfold Ok; simp at *; omega)⟩
           case measure => simp [intOf]; omega)
        | (go_ret
           exact ⟨ret_bool (not_name hlt (by unfold Ok; simp at *; omega)).symm, rfl⟩)
    · go_wp2
      go_ret
      have HN : nameB s = true := nameB_true ⟨by omega, by omega, fun j hj => HA j hj (by omega)⟩
      exact ⟨ret_bool HN.symm, rfl⟩
def letterB (c : Int) : Bool := decide (97 ≤ c) && decide (c ≤ 122)
def digitB (c : Int) : Bool := decide (48 ≤ c) && decide (c ≤ 57)
theorem letter_any (c : Int) (w : World) : Calls Tryd.prog 51 #[.int .u8 c] w fun e w' => e = .returned (.bool (letterB c)) ∧ w = w' := by
  unfold letterB
  by_cases h1 : 97 ≤ c
  · by_cases h2 : c ≤ 122
    all_goals
      go_enter Tryd.func51, Tryd.ntmps51
      go_wp2
      go_ret
      exact ⟨ret_bool (by simp [h1]; omega), rfl⟩
  · go_enter Tryd.func51, Tryd.ntmps51
    go_wp2
    go_ret
    exact ⟨ret_bool (by simp; omega), rfl⟩
theorem digit_any (c : Int) (w : World) : Calls Tryd.prog 52 #[.int .u8 c] w fun e w' => e = .returned (.bool (digitB c)) ∧ w = w' := by
  unfold digitB
  by_cases h1 : 48 ≤ c
  · by_cases h2 : c ≤ 57
    all_goals
      go_enter Tryd.func52, Tryd.ntmps52
      go_wp2
      go_ret
      exact ⟨ret_bool (by simp [h1]; omega), rfl⟩
  · go_enter Tryd.func52, Tryd.ntmps52
    go_wp2
    go_ret
    exact ⟨ret_bool (by simp; omega), rfl⟩
theorem ways2 (c : Int) : (letterB c = true) ∨ (letterB c = false ∧ digitB c = true) ∨ (letterB c = false ∧ digitB c = false ∧ (c != 95) = false) ∨ (letterB c = false ∧ digitB c = false ∧ (c != 95) = true) := by
  cases letterB c <;> cases digitB c <;> cases c != 95 <;> simp

set_option maxRecDepth 100000 in
set_option maxHeartbeats 1600000 in
theorem name_impl (s : ByteArray) (w : World) (hs : s.size ≤ maxLen) :
    Calls Tryd.prog 41 #[.string s] w fun e w' => e = .returned (.bool (nameB s)) ∧ w = w' := by
  unfold maxLen at hs
  by_cases h1 : s.size < 1
  · have HN : Hid (nameB s = false) := nameB_false (fun h => by have := h.1; omega)
    go_enter Tryd.func41, Tryd.ntmps41
    go_wp2
    go_ret
    exact ⟨ret_bool HN.out.symm, rfl⟩
  by_cases h2 : 20 < s.size
  · have HN : Hid (nameB s = false) := nameB_false (fun h => by have := h.2.1; omega)
    go_enter Tryd.func41, Tryd.ntmps41
    go_wp2
    go_ret
    exact ⟨ret_bool HN.out.symm, rfl⟩
  have d1 : decide ((s.size : Int) < 1) = false := by simp; omega
  have d2 : decide ((20 : Int) < (s.size : Int)) = false := by simp; omega
  have h0 : 0 < s.size := by omega
  by_cases hl : letterB (s[0].toNat : Int) = true
  · go_enter Tryd.func41, Tryd.ntmps41
    go_wp2_with (first | (go_at_call 51; refine (letter_any _ _).mono ?_; rintro e w' ⟨rfl, rfl⟩))
    go_loop [3] (fun i => ∃ k : Nat, 1 ≤ k ∧ k ≤ s.size ∧ i = .int .i64 k ∧ Upto s k) (fun i => s.size - (intOf i).toNat)
    case atStart =>
      exact ⟨1, Nat.le_refl _, by omega, rfl, Upto.succ (k := 0) (fun _ _ h => absurd h (Nat.not_lt_zero _)) h0 (by unfold Ok; simp [letterB] at hl; omega)⟩
    case round =>
      obtain ⟨k, hk1, hk, rfl, HA⟩ := hrel
      by_cases hlt : k < s.size
      · rcases ways2 (s[k].toNat : Int) with g1 | ⟨g1, g2⟩ | ⟨g1, g2, g3⟩ | ⟨g1, g2, g3⟩
        all_goals
          go_wp2_with (first | (go_at_call 51; refine (letter_any _ _).mono ?_; rintro e w' ⟨rfl, rfl⟩) | (go_at_call 52; refine (digit_any _ _).mono ?_; rintro e w' ⟨rfl, rfl⟩))
        all_goals first
          | (go_round
             case rel => exact ⟨k + 1, by omega, by omega, by go_num, HA.succ hlt (by unfold Ok; simp [letterB, digitB] at *; omega)⟩
             case measure => simp [intOf]; omega)
          | (go_ret
             exact ⟨ret_bool (not_name hlt (by unfold Ok; simp [letterB, digitB] at *; omega)).symm, rfl⟩)
      · go_wp2
        go_ret
        have HN : nameB s = true := nameB_true ⟨by omega, by omega, fun j hj => HA j hj (by omega)⟩
        exact ⟨ret_bool HN.symm, rfl⟩
  · have hl' : letterB (s[0].toNat : Int) = false := by simpa using hl
    have HN : Hid (nameB s = false) := not_name h0 (by unfold Ok; simp [letterB] at hl'; omega)
    go_enter Tryd.func41, Tryd.ntmps41
    go_wp2_with (first | (go_at_call 51; refine (letter_any _ _).mono ?_; rintro e w' ⟨rfl, rfl⟩))
    go_ret
    exact ⟨ret_bool HN.out.symm, rfl⟩
end Go.Proofs.YtkpjdmmgdmbmnabDoor.C4
