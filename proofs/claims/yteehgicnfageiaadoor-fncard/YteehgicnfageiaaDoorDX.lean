/-
  A text that is spoilt; the draws of stage 6: elements, a secret, a share.
-/
import Derived.Test.YteehgicnfageiaaDoorDS
import Derived.Test.YteehgicnfageiaaDoorQC
import Derived.Deep.DeepCutAuto
import Derived.BigQuiet
import Derived.Deep.RegionWith
namespace Go.Proofs.YteehgicnfageiaaDoor.DX
open Go.RowKit
open Go.Proofs.YteehgicnfageiaaDoor.C0 Go.Proofs.YteehgicnfageiaaDoor.D0 Go.Proofs.YteehgicnfageiaaDoor.HB Go.Proofs.YteehgicnfageiaaDoor.DS
def Spoilt (B p n : Nat) (v : Value) (w : World) (k : Nat) (e : Ending) (w' : World) : Prop :=
  ∃ u : ByteArray, e = .returned (.string u) ∧ u.size ≤ k + 1 ∧ Dr B p n v w' ∧ w.grownBy w' (some p)
theorem conv1 (W : World) (b : UInt8) : (convert 22 9 (.slice (some ⟨W.heap.size, 0, none⟩) 1 1)).run Tryd.prog (W.alloc (.cells #[.int .u8 (b.toNat : Int)] 5)) = .ok (.string ⟨#[b]⟩) (W.alloc (.cells #[.int .u8 (b.toNat : Int)] 5)) :=
  conv_own (base := W.heap.size) (l := [b]) (World.ownsRow_lit W #[.int .u8 (b.toNat : Int)] 1 (Nat.le_refl _) (by decide) rfl)
theorem Spoilt.of {B p n k : Nat} {v : Value} {w w' : World} {u : ByteArray} (hu : u.size ≤ k + 1) (hd : Dr B p n v w') (ht : w.grownBy w' (some p)) : Spoilt B p n v w k (.returned (.string u)) w' := ⟨u, rfl, hu, hd, ht⟩
set_option maxRecDepth 100000 in
set_option maxHeartbeats 1600000 in
theorem spoil_any (B p n : Nat) (v : Value) (t : ByteArray) (w : World) (h : Dr B p n v w) (ht : t.size ≤ 1000) :
    Calls Tryd.prog 54 #[.pointer (some ⟨p, 0, none⟩), .string t] w fun e w' => Spoilt B p n v w t.size e w' := by
  go_enter Tryd.func54, Tryd.ntmps54
  go_wp2_with fail
  refine (drawN ((t.size : Int) + 1) h (by omega) (by omega)).mono ?_
  rintro e w1 ⟨r, rfl, hr, d1, t1⟩
  have hr' : r ≤ t.size := by omega
  go_wp2_with fail
  refine (drawN 17 d1 (by omega) (by omega)).mono ?_
  rintro e w2 ⟨q, rfl, hq, d2, t2⟩
  have hq' : q < 17 := by omega
  have hc := conv1 w2
  have u2 : ∀ b : UInt8, w.grownBy (w2.alloc (.cells #[.int .u8 (b.toNat : Int)] 5)) (some p) := fun b => grown_trans (grown_trans t1 t2) (World.grownBy_alloc w2 _ _)
  have d3 : ∀ b : UInt8, Dr B p n v (w2.alloc (.cells #[.int .u8 (b.toNat : Int)] 5)) := fun b => d2.below (albel w2 _)
  have S1 : ∀ b : UInt8, (⟨#[b]⟩ : ByteArray).size = 1 := fun b => rfl
  have hri : (r : Int) ≤ (t.size : Int) := by omega
  clear d1 d2 t1 t2
  by_cases he : r = t.size
  · subst he
    go_wp2
    go_region
    all_goals
      go_wp2
      go_ret
      exact Spoilt.of (by simp only [ByteArray.size_append, S1]; omega) ((d3 _).drew) (grown_drew (u2 _))
  have he' : ((r : Int) == (t.size : Int)) = false := by rw [beq_eq_false_iff_ne]; omega
  have hrl : r + 1 ≤ t.size := by omega
  have hrl' : (r : Int) + 1 ≤ (t.size : Int) := by omega
  have hw : IntKind.i64.wrap ((r : Int) + 1) = (r : Int) + 1 := by rw [IntKind.wrap_i64]; omega
  have hrn : ((r : Int) + 1).toNat = r + 1 := by omega
  go_wp2_with fail
  refine (drawOne 3 (d3 _) (by omega) (by omega)).mono ?_
  rintro e w4 ⟨b1, rfl, d4, t4⟩
  have u4 := grown_trans (u2 _) t4
  clear d3 u2 t4
  cases b1
  case true =>
    go_wp2
    go_region
    all_goals
      go_wp2
      go_ret
      exact Spoilt.of (by simp only [ByteArray.size_append, ByteArray.size_extract, S1]; omega) (d4.drew) (grown_drew u4)
  go_wp2_with fail
  refine (drawOne 2 d4 (by omega) (by omega)).mono ?_
  rintro e w5 ⟨b2, rfl, d5, t5⟩
  have u5 := grown_trans u4 t5
  clear d4 u4 t5
  cases b2
  case true =>
    go_wp2
    go_region
    all_goals
      go_wp2
      go_ret
      exact Spoilt.of (by simp only [ByteArray.size_append, ByteArray.size_extract]; omega) (d5.drew) (grown_drew u5)
  go_wp2
  go_region
  all_goals
    go_wp2
    go_ret
    exact Spoilt.of (by simp only [ByteArray.size_append, ByteArray.size_extract, S1]; omega) (d5.drew) (grown_drew u5)
/-- A text of so many bytes 0. -/
def zeros (k : Nat) : ByteArray := ⟨(List.replicate k (0 : UInt8)).toArray⟩
theorem zeros_size (k : Nat) : (zeros k).size = k := by simp [zeros, ByteArray.size]
theorem conv_zeros (W : World) (k : Nat) : (convert 22 9 (.slice (some ⟨W.heap.size, 0, none⟩) k k)).run Tryd.prog (W.alloc (.cells (madeCells #[.int .u8 0] k) 5)) = .ok (.string (zeros k)) (W.alloc (.cells (madeCells #[.int .u8 0] k) 5)) := by
  have h := World.rowIs_made W (.int .u8 0) k 5
  have hl : (List.replicate k (0 : UInt8)).length = k := List.length_replicate
  have := run_convert_bytes_back (P := Tryd.prog) (W.alloc (.cells (madeCells #[.int .u8 0] k) 5)) 22 9 5 ⟨W.heap.size, 0, none⟩ k (List.replicate k (0 : UInt8)) Tryd.underlying22 Tryd.underlying5 Tryd.underlying9 (fun j hj => by
    have ha : (⟨W.heap.size, 0, none⟩ : Addr).add j = ⟨W.heap.size, j, none⟩ := by unfold Addr.add; split <;> simp_all
    rw [ha, h.cell (by omega)]
    simp)
  rw [hl] at this
  exact this
end Go.Proofs.YteehgicnfageiaaDoor.DX
