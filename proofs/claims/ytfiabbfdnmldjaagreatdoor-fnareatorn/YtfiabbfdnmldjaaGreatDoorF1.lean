/-
  A text that is spoilt.
-/
import Derived.Test.YtfiabbfdnmldjaaGreatDoorPM
import Derived.Test.YtfiabbfdnmldjaaGreatDoorPG
import Derived.Deep.DeepCutAuto
import Derived.BigQuiet
namespace Go.Proofs.YtfiabbfdnmldjaaGreatDoor.F1
open Go.RowKit
open Go.Proofs.YtfiabbfdnmldjaaGreatDoor.C0 Go.Proofs.YtfiabbfdnmldjaaGreatDoor.D6 Go.Proofs.YtfiabbfdnmldjaaGreatDoor.S0 Go.Proofs.YtfiabbfdnmldjaaGreatDoor.O1
def Spoilt (B p n : Nat) (v : Value) (w : World) (k : Nat) (e : Ending) (w' : World) : Prop :=
  ∃ u : ByteArray, e = .returned (.string u) ∧ u.size ≤ k + 1 ∧ Dr B p n v w' ∧ Wrote (only p) w w'
theorem conv1 (W : World) (b : UInt8) : (convert 22 9 (.slice (some ⟨W.heap.size, 0, none⟩) 1 1)).run Tryz.prog (W.alloc (.cells #[.int .u8 (b.toNat : Int)] 5)) = .ok (.string ⟨#[b]⟩) (W.alloc (.cells #[.int .u8 (b.toNat : Int)] 5)) :=
  conv_own (C6.owns_lit W.heap.size W [b] #[.int .u8 (b.toNat : Int)] 1 (Nat.le_refl _) rfl (by decide) (by simp [Mb.cells]))
theorem size_app (a b : ByteArray) : (a ++ b).size = a.size + b.size := ByteArray.size_append
theorem Spoilt.of {B p n k : Nat} {v : Value} {w w' : World} {u : ByteArray} (hu : u.size ≤ k + 1) (hd : Dr B p n v w') (ht : Wrote (only p) w w') : Spoilt B p n v w k (.returned (.string u)) w' := ⟨u, rfl, hu, hd, ht⟩
set_option maxRecDepth 100000 in
set_option maxHeartbeats 1600000 in
theorem spoil_any (B p n : Nat) (v : Value) (t : ByteArray) (w : World) (h : Dr B p n v w) (ht : t.size ≤ 1000) :
    Calls Tryz.prog 68 #[.pointer (some ⟨p, 0, none⟩), .string t] w fun e w' => Spoilt B p n v w t.size e w' := by
  go_enter Tryz.func68, Tryz.ntmps68
  go_wp2_with fail
  refine (drawN ((t.size : Int) + 1) h (by omega) (by omega)).mono ?_
  rintro e w1 ⟨r, rfl, hr, d1, t1⟩
  have hr' : r ≤ t.size := by omega
  go_wp2_with fail
  refine (drawN 17 d1 (by omega) (by omega)).mono ?_
  rintro e w2 ⟨q, rfl, hq, d2, t2⟩
  have hq' : q < 17 := by omega
  have hc := conv1 w2
  have u2 : ∀ b : UInt8, Wrote (only p) w (w2.alloc (.cells #[.int .u8 (b.toNat : Int)] 5)) := fun b => (t1.trans t2).trans (Wrote.of_below (albel w2 _))
  have d3 : ∀ b : UInt8, Dr B p n v (w2.alloc (.cells #[.int .u8 (b.toNat : Int)] 5)) := fun b => d2.below (albel w2 _)
  have S1 : ∀ b : UInt8, (⟨#[b]⟩ : ByteArray).size = 1 := fun b => rfl
  have hri : (r : Int) ≤ (t.size : Int) := by omega
  clear d1 d2 t1 t2
  by_cases he : r = t.size
  · subst he
    go_wp2
    go_region
    all_goals
      go_wp2
      go_ret
      exact Spoilt.of (by simp only [ByteArray.size_append, S1]; omega) ((d3 _).drew) ((u2 _).drew)
  have he' : ((r : Int) == (t.size : Int)) = false := by rw [beq_eq_false_iff_ne]; omega
  have hrl : r + 1 ≤ t.size := by omega
  have hrl' : (r : Int) + 1 ≤ (t.size : Int) := by omega
  have hw : IntKind.i64.wrap ((r : Int) + 1) = (r : Int) + 1 := by rw [IntKind.wrap_i64]; omega
  have hrn : ((r : Int) + 1).toNat = r + 1 := by omega
  go_wp2_with fail
  refine (drawOne 3 (d3 _) (by omega) (by omega)).mono ?_
  rintro e w4 ⟨b1, rfl, d4, t4⟩
  have u4 := (u2 _).trans t4
  clear d3 u2 t4
  cases b1
  case true =>
    go_wp2
    go_region
    all_goals
      go_wp2
      go_ret
      exact Spoilt.of (by simp only [ByteArray.size_append, ByteArray.size_extract, S1]; omega) (d4.drew) (u4.drew)
  go_wp2_with fail
  refine (drawOne 2 d4 (by omega) (by omega)).mono ?_
  rintro e w5 ⟨b2, rfl, d5, t5⟩
  have u5 := u4.trans t5
  clear d4 u4 t5
  cases b2
  case true =>
    go_wp2
    go_region
    all_goals
      go_wp2
      go_ret
      exact Spoilt.of (by simp only [ByteArray.size_append, ByteArray.size_extract]; omega) (d5.drew) (u5.drew)
  go_wp2
  go_region
  all_goals
    go_wp2
    go_ret
    exact Spoilt.of (by simp only [ByteArray.size_append, ByteArray.size_extract, S1]; omega) (d5.drew) (u5.drew)
end Go.Proofs.YtfiabbfdnmldjaaGreatDoor.F1
