/-
  SigRight, in the specification.
-/
import Derived.Test.YthmlkbgnooahlaaDoorG2
namespace Go.Proofs.YthmlkbgnooahlaaDoor.G3
open Go.RowKit
open Go.Proofs.YthmlkbgnooahlaaDoor.C0
open Go.Proofs.YthmlkbgnooahlaaDoor.G2 (yes2 no2)

/-- A signature as a value. -/
def sig (e s : Int) : Value := .agg #[.int .i64 e, .int .i64 s]
theorem rightR_no1 {e s : Int} (h : ¬ (0 ≤ e ∧ e ≤ 5002)) : Sg.rightR e s = false := by unfold Sg.rightR; exact decide_eq_false (by omega)
theorem rightR_no2 {e s : Int} (h : ¬ (0 ≤ s ∧ s ≤ 5002)) : Sg.rightR e s = false := by unfold Sg.rightR; exact decide_eq_false (by omega)
theorem rightR_yes {e s : Int} (h : 0 ≤ e ∧ e ≤ 5002) (k : 0 ≤ s ∧ s ≤ 5002) : Sg.rightR e s = true := by unfold Sg.rightR; exact decide_eq_true ⟨h.1, h.2, k.1, k.2⟩

set_option maxRecDepth 100000 in
theorem right_spec (e s : Int) (w : World) :
    Calls Tryd.prog 23 #[.agg #[.int .i64 e, .int .i64 s]] w fun x w' => x = .returned (.bool (Sg.rightR e s)) ∧ Below w.heap.size w w' := by
  have HB : Hid (∀ o, Below w.heap.size w (w.alloc o)) := fun o => (Below.refl _ _).alloc (Nat.le_refl _) o
  by_cases he : 0 ≤ e ∧ e ≤ 5002
  · by_cases hs : 0 ≤ s ∧ s ≤ 5002
    · rw [rightR_yes he hs]
      go_enter Tryd.func23, Tryd.ntmps23
      go_wp2_with fail
      refine (G0.is_spec _ 0 5002 _).mono ?_
      rintro x w1 ⟨rfl, rfl⟩
      rw [yes2 he]
      go_wp2_with fail
      refine (G0.is_spec _ 0 5002 _).mono ?_
      rintro x w1 ⟨rfl, rfl⟩
      rw [yes2 hs]
      go_wp2
      go_ret
      exact ⟨rfl, HB.out _⟩
    · rw [rightR_no2 hs]
      go_enter Tryd.func23, Tryd.ntmps23
      go_wp2_with fail
      refine (G0.is_spec _ 0 5002 _).mono ?_
      rintro x w1 ⟨rfl, rfl⟩
      rw [yes2 he]
      go_wp2_with fail
      refine (G0.is_spec _ 0 5002 _).mono ?_
      rintro x w1 ⟨rfl, rfl⟩
      rw [no2 hs]
      go_wp2
      go_ret
      exact ⟨rfl, HB.out _⟩
  · rw [rightR_no1 he]
    go_enter Tryd.func23, Tryd.ntmps23
    go_wp2_with fail
    refine (G0.is_spec _ 0 5002 _).mono ?_
    rintro x w1 ⟨rfl, rfl⟩
    rw [no2 he]
    go_wp2
    go_ret
    exact ⟨rfl, HB.out _⟩

/-- A block of two cells of one's own stays behind what is made later. -/
theorem kept2 {w w2 : World} {a b : Value} {T : TypeId} (hb : Below (w.heap.size + 1) (w.alloc (.cells #[a, b] T)) w2) :
    w2.cell? ⟨w.heap.size, 0, none⟩ = some a ∧ w2.cell? ⟨w.heap.size, 1, none⟩ = some b ∧ (∀ o, w2.frozen? ⟨w.heap.size, o, none⟩ = false) ∧ w.heap.size < w2.heap.size := by
  refine ⟨?_, ?_, fun o => ?_, ?_⟩
  · rw [hb.cell (p := ⟨w.heap.size, 0, none⟩) (Nat.lt_succ_self _)]; simp [go_sem]
  · rw [hb.cell (p := ⟨w.heap.size, 1, none⟩) (Nat.lt_succ_self _)]; simp [go_sem]
  · rw [hb.frozen (p := ⟨w.heap.size, o, none⟩) (Nat.lt_succ_self _)]; simp [go_sem]
  · have := hb.size; simp at this; omega
theorem nblk_one (w : World) (o : Obj) : (w.alloc o).heap.size = w.heap.size + 1 := by simp

end Go.Proofs.YthmlkbgnooahlaaDoor.G3
